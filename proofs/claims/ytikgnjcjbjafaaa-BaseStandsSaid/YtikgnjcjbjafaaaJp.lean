/-
  The small sets that layer 8's laws make of raw numbers: cells of a square of the level 2.
-/
import Derived.Test.YtikgnjcjbjafaaaB26
import Derived.Test.YtikgnjcjbjafaaaB19
import Derived.Test.YtikgnjcjbjafaaaB21
import Derived.Test.YtikgnjcjbjafaaaB14
namespace Go.Proofs.Ytikgnjcjbjafaaa
set_option maxRecDepth 100000
set_option linter.unusedVariables false
set_option linter.unusedSimpArgs false
open Go.RowKit Go.Sort

theorem pick8_any (c n : Int) (w : World) (h1 : -9223372036854775808 ≤ c) (h2 : c ≤ 9223372036854775807) (hn : 1 ≤ n) (hn2 : n ≤ 9223372036854775807) :
    Calls Try.prog 28 #[.int .i64 c, .int .i64 n] w fun e w' => e = .returned (.int .i64 (pickI c n)) ∧ w = w' := by
  generalize hr : pickI c n = r
  have HR := Lib.hid hr
  clear hr
  go_enter Try.func28, Try.ntmps28
  go_wp2
  all_goals go_ret
  all_goals refine ⟨?_, rfl⟩
  all_goals (refine Qt.ret_int ?_; rw [← HR.out]; unfold pickI)
  · rw [if_pos (by assumption), ← Int.neg_tmod, Int.tmod_eq_emod_of_nonneg (by omega)]
  · rw [if_neg (by omega)]
/-- the cell that a raw one stands for -/
def smC (c : Int × Int) : Int × Int := (pickI c.1 4 - 2, pickI c.2 4 - 2)
/-- so many of the raw ones seen -/
def smTo (rs : List (Int × Int)) (i : Nat) : List (Int × Int) := Cel.setL ((rs.take i).map smC)
theorem smC_bd (c : Int × Int) : -2 ≤ (smC c).1 ∧ (smC c).1 < 2 ∧ -2 ≤ (smC c).2 ∧ (smC c).2 < 2 := by
  have h1 := pickI_bd c.1 4 (by decide)
  have h2 := pickI_bd c.2 4 (by decide)
  unfold smC
  simp only
  omega
theorem smTo_succ {rs : List (Int × Int)} {i : Nat} (h : i < rs.length) : smTo rs (i + 1) = Cel.putL (smC (rs.getD i (0, 0))) (smTo rs i) := by
  unfold smTo Cel.setL
  rw [Cel.take_snoc h, List.map_append, List.foldl_append]
  rfl
theorem smTo_bd {rs : List (Int × Int)} {i : Nat} : ∀ s ∈ smTo rs i, -2 ≤ s.1 ∧ s.1 < 2 ∧ -2 ≤ s.2 ∧ s.2 < 2 := fun s hs => by
  have := (Cel.mem_setL _ _).1 hs
  obtain ⟨c, _, rfl⟩ := List.mem_map.1 this
  exact smC_bd c
theorem smTo_len (rs : List (Int × Int)) (i : Nat) : (smTo rs i).length ≤ i := Nat.le_trans (Cel.length_setL _) (by rw [List.length_map, List.length_take]; omega)
theorem smTo_right {rs : List (Int × Int)} {i : Nat} (hi : i ≤ 16) : Cel.rightB (smTo rs i) = true :=
  (Cel.rightB_iff _).2 ⟨by have := smTo_len rs i; omega, fun s hs => by
    have := smTo_bd s hs
    unfold Cel.inB
    exact decide_eq_true (by omega), Cel.rises_setL _⟩
theorem smTo_in {rs : List (Int × Int)} {i : Nat} : ∀ s ∈ smTo rs i, insideB 1 s = true := fun s hs => by
  have := smTo_bd s hs
  unfold insideB
  exact decide_eq_true (by simp; omega)
end Go.Proofs.Ytikgnjcjbjafaaa
