/-
  What an operation on texts, and on numbers, yields, whatever the world: for regions that draw their order.
-/
import Derived.Test.YtildobjgohddoaaDoorNb
namespace Go.Proofs.YtildobjgohddoaaDoor
open Go.RowKit Go.Sort

section
variable {o : Oper} {ev : Operand → Value} {x y : Operand} {s t : ByteArray} {k m : Nat}
theorem exec_str_to (ho : o.op = .slice 9 x none (some y) none) (hx : ev x = .string s) (hy : ev y = .int .i64 (k : Int)) (hk : k ≤ s.size) (hs : s.size ≤ 9223372036854775807) (w : World) :
    (execOp ev o).run Tryd.prog w = .ok (.value (.string (s.extract 0 k))) w := by
  have hkz : (k : Int) ≤ (s.size : Int) := by omega
  simp only [execOp, ho, hx, hy]
  go_simp
theorem exec_str_from (ho : o.op = .slice 9 x (some y) none none) (hx : ev x = .string s) (hy : ev y = .int .i64 (k : Int)) (hk : k ≤ s.size) (hs : s.size ≤ 9223372036854775807) (w : World) :
    (execOp ev o).run Tryd.prog w = .ok (.value (.string (s.extract k s.size))) w := by
  have hkz : (k : Int) ≤ (s.size : Int) := by omega
  simp only [execOp, ho, hx, hy]
  go_simp
theorem exec_add (ho : o.op = .binOp .add 9 x y 9) (hx : ev x = .string s) (hy : ev y = .string t) (hs : s.size + t.size ≤ 9223372036854775807) (w : World) :
    (execOp ev o).run Tryd.prog w = .ok (.value (.string (s ++ t))) w := by
  simp only [execOp, ho, hx, hy]
  go_simp
theorem exec_addi (ho : o.op = .binOp .add 3 x y 3) (hx : ev x = .int .i64 (k : Int)) (hy : ev y = .int .i64 (m : Int)) (hs : k + m ≤ 9223372036854775807) (w : World) :
    (execOp ev o).run Tryd.prog w = .ok (.value (.int .i64 ((k + m : Nat) : Int))) w := by
  simp only [execOp, ho, hx, hy]
  go_simp
  rw [IntKind.wrap_i64]
  omega
theorem exec_len (ho : o.op = .call { callee := .builtin .len, args := #[x], argTypes := #[9] }) (hty : o.type = 3) (hx : ev x = .string s) (w : World) :
    (execOp ev o).run Tryd.prog w = .ok (.value (.int .i64 (s.size : Int))) w := by
  simp only [execOp, ho, hty]
  simp [hx, resolve, invoke, builtin, Result.andThen]
  go_simp
theorem exec_len_sl {A : Option Addr} {c : Nat} (ho : o.op = .call { callee := .builtin .len, args := #[x], argTypes := #[28] }) (hty : o.type = 3) (hx : ev x = .slice A k c) (w : World) :
    (execOp ev o).run Tryd.prog w = .ok (.value (.int .i64 (k : Int))) w := by
  simp only [execOp, ho, hty]
  simp [hx, resolve, invoke, builtin, Result.andThen]
  go_simp
theorem exec_min (ho : o.op = .call { callee := .builtin .min, args := #[x, y], argTypes := #[3, 3] }) (hty : o.type = 3) (hx : ev x = .int .i64 (k : Int)) (hy : ev y = .int .i64 (m : Int)) (w : World) :
    (execOp ev o).run Tryd.prog w = .ok (.value (.int .i64 ((min k m : Nat) : Int))) w := by
  simp only [execOp, ho, hty]
  simp [hx, hy, resolve, invoke, builtin, Result.andThen]
  go_simp
  omega
end

end Go.Proofs.YtildobjgohddoaaDoor
