/-
  The law NodeSquares.
-/
import Derived.Test.YtcmdhochofoohaaRt
namespace Go.Proofs.Ytcmdhochofoohaa
set_option maxRecDepth 100000
set_option linter.unusedVariables false
set_option linter.unusedSimpArgs false
open Go.RowKit Go.Sort

theorem bits_any (A : Option Addr) (l : List Nd) (c : Nat) (room : Int) (hRt : Right6 l room) (hc : l.length ≤ c) : ∀ j : Nat, j ≤ 4 → ∀ n, n < l.length → (l.getD n deadN).1 = j → ∀ w, RdN w w.heap.size A l →
    Calls Try.prog 27 #[storeV A l.length c room, .int .i64 n] w fun e w' => e = .returned (.string (txB (bitsN l j n))) ∧ Below w.heap.size w w' := by
  intro j
  induction j with
  | zero => intro _ n hn hlev w hR; exact bits_0 A l c room hRt n hn hlev w hR
  | succ j ih => intro hj n hn hlev w hR; exact bits_succ A l c room hRt hc j (by omega) (ih (by omega)) n hn (by rw [hlev]; omega) w hR

theorem sum_step (X : List UInt8) (hX : ∀ c ∈ X, c = 48 ∨ c = 49) (k : Nat) (hk : k < X.length) : (X[k] = 48 ∧ sumB (X.take (k + 1)) = sumB (X.take k)) ∨ (X[k] = 49 ∧ sumB (X.take (k + 1)) = sumB (X.take k) + 1) := by
  rw [List.take_succ_eq_append_getElem hk, sumB_append]
  rcases hX X[k] (List.getElem_mem hk) with h | h
  · left
    rw [h]
    exact ⟨rfl, rfl⟩
  · right
    rw [h]
    exact ⟨rfl, rfl⟩
theorem sum_take (X : List UInt8) (k : Nat) : sumB (X.take k) ≤ sumB X := by
  have h := sumB_append (X.take k) (X.drop k)
  rw [List.take_append_drop] at h
  omega

end Go.Proofs.Ytcmdhochofoohaa
