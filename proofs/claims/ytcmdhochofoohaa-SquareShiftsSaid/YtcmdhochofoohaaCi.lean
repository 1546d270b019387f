/-
  The library's binary search at places.
-/
import Derived.Test.YtcmdhochofoohaaB13
namespace Go.Proofs.Ytcmdhochofoohaa.Cel
open Go.RowKit Go.Sort

/-- where a cell stands, or would stand, in a list that rises -/
structure Stands (l : List (Int × Int)) (t : Int × Int) (i : Nat) : Prop where
  le : i ≤ l.length
  low : ∀ j, j < i → lessB (l.getD j (0, 0)) t = true
  high : ∀ j, i ≤ j → j < l.length → lessB (l.getD j (0, 0)) t = false

def FoundAt (l : List (Int × Int)) (t : Int × Int) (w : World) (e : Ending) (w' : World) : Prop :=
  ∃ i, Stands l t i ∧ e = .returned (.tuple #[.int .i64 (i : Nat), .bool (decide (i < l.length ∧ l.getD i (0, 0) = t))]) ∧ Below w.heap.size w w'

theorem rises_get {l : List (Int × Int)} (h : Rises l) {i j : Nat} (hij : i < j) (hj : j < l.length) : lessB (l.getD i (0, 0)) (l.getD j (0, 0)) = true := by
  have := List.pairwise_iff_getElem.1 h i j (by omega) hj hij
  rw [List.getD_eq_getElem?_getD, List.getD_eq_getElem?_getD, List.getElem?_eq_getElem (by omega), List.getElem?_eq_getElem hj]
  exact this

end Go.Proofs.Ytcmdhochofoohaa.Cel
