/-
  Texts that the claims of this seat share, part 18.
-/
import Derived.Test.YtocepdhjkhhpfaaB06
set_option linter.unusedVariables false
set_option linter.unusedSimpArgs false
namespace Go.Proofs.Ytocepdhjkhhpfaa
set_option maxRecDepth 100000
set_option linter.unusedVariables false
set_option linter.unusedSimpArgs false
open Go.RowKit Go.Sort

theorem refH_any (n : Int) (w : World) : Calls Try.prog 53 #[.int .i64 n] w fun r w' => r = .returned (.int .i64 (hdH n)) ∧ w = w' := by
  unfold hdH
  by_cases h : n < 0
  · rw [if_pos h]
    go_enter Try.func53, Try.ntmps53
    go_wp2
    go_ret
    exact ⟨rfl, rfl⟩
  · rw [if_neg h]
    have e2 : Int.tmod n 1048576 = n % 1048576 := Int.tmod_eq_emod_of_nonneg (by omega)
    go_enter Try.func53, Try.ntmps53
    go_wp2
    go_ret
    exact ⟨by rw [← e2]; rfl, rfl⟩
end Go.Proofs.Ytocepdhjkhhpfaa
