/-
  The picks that the laws of layer 6 make of raw roots.
-/
import Derived.Test.YtcmdhochofoohaaB08
import Derived.Test.YtcmdhochofoohaaB09
namespace Go.Proofs.Ytcmdhochofoohaa
set_option linter.unusedVariables false
open Go.RowKit Go.Sort

def liveIn (roots : List Int) (n : Nat) : Nat → List Int
  | 0 => []
  | k + 1 => liveIn roots n k ++ [pickI (roots.getD k 0) n]
theorem length_liveIn (roots : List Int) (n k : Nat) : (liveIn roots n k).length = k := by
  induction k with
  | zero => rfl
  | succ k ih => unfold liveIn; rw [List.length_append, ih]; rfl
theorem liveIn_bd (roots : List Int) {n : Nat} (hn : 1 ≤ n) (k : Nat) : ∀ r ∈ liveIn roots n k, 0 ≤ r ∧ r < (n : Int) := by
  induction k with
  | zero => intro r hr; cases hr
  | succ k ih =>
    intro r hr
    rcases List.mem_append.1 hr with h | h
    · exact ih r h
    · have : r = pickI (roots.getD k 0) n := by simpa using h
      rw [this]
      exact pickI_bd _ _ (by omega)

end Go.Proofs.Ytcmdhochofoohaa
