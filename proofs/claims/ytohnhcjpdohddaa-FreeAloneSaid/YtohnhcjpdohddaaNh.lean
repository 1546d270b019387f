/-
  The laws' own first calls, whose answers are fixed: they are as they should be.
-/
import Derived.Test.YtohnhcjpdohddaaB00
import Derived.Test.YtohnhcjpdohddaaNc
namespace Go.Proofs.Ytohnhcjpdohddaa
open Go.RowKit Go.Sort

theorem now_one (w : World) (T : Nat) (x : Int) : Now (w.alloc (.cells #[.int .i64 x] T)) (some ⟨w.heap.size, 0, none⟩) [x] := fun j hj => by
  have hj1 : j = 0 := by simp at hj; omega
  subst hj1
  exact ⟨w.heap.size, 0, rfl, by simp, by simp⟩
theorem now_two (w : World) (T : Nat) (x y : Int) : Now (w.alloc (.cells #[.int .i64 x, .int .i64 y] T)) (some ⟨w.heap.size, 0, none⟩) [x, y] := fun j hj => by
  have hj2 : j < 2 := hj
  refine ⟨w.heap.size, 0, rfl, by simp, ?_⟩
  match j, hj2 with
  | 0, _ => simp
  | 1, _ => simp

theorem txt_120 : txt 120 = ⟨#[49, 50, 48]⟩ := by
  unfold txt txtL
  rw [if_pos (by omega), show (120 : Int).toNat = 120 from rfl, dec_big (by omega), dec_big (by omega), dec_small (by omega)]
  rfl
theorem txt_neg : txt (-1) = ⟨#[]⟩ := by unfold txt txtL; rw [if_neg (by omega)]
theorem i64_small {x : Int} (h : -1000 ≤ x ∧ x ≤ 1000) : I64 x := by unfold I64; omega

end Go.Proofs.Ytohnhcjpdohddaa
