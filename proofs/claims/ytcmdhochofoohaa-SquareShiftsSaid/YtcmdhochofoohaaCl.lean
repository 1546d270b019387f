/-
  Shift: a set elsewhere.
-/
import Derived.Test.YtcmdhochofoohaaCk
namespace Go.Proofs.Ytcmdhochofoohaa.Cel
open Go.RowKit Go.Sort

def shL (dx dy : Int) (l : List (Int × Int)) : List (Int × Int) := l.map fun c => (c.1 + dx, c.2 + dy)
theorem length_shL (dx dy : Int) (l : List (Int × Int)) : (shL dx dy l).length = l.length := List.length_map _
theorem getD_shL (dx dy : Int) (l : List (Int × Int)) {k : Nat} (hk : k < l.length) : (shL dx dy l).getD k (0, 0) = ((l.getD k (0, 0)).1 + dx, (l.getD k (0, 0)).2 + dy) := by
  rw [List.getD_eq_getElem?_getD, List.getD_eq_getElem?_getD, shL, List.getElem?_map, List.getElem?_eq_getElem hk]
  rfl

theorem inB_iff (p : Int × Int) : inB p = true ↔ -1099511627776 ≤ p.1 ∧ p.1 ≤ 1099511627776 ∧ -1099511627776 ≤ p.2 ∧ p.2 ≤ 1099511627776 := by simp [inB]

/-- What went round is not within bounds either. -/
theorem inB_wrap {x y dx dy : Int} (h : inB (x, y) = true) (hdx : -9223372036854775808 ≤ dx ∧ dx ≤ 9223372036854775807) (hdy : -9223372036854775808 ≤ dy ∧ dy ≤ 9223372036854775807) (hn : inB (x + dx, y + dy) = false) : inB (wrap64 (x + dx), wrap64 (y + dy)) = false := by
  rw [Bool.eq_false_iff] at hn ⊢
  intro h2
  apply hn
  rw [inB_iff] at h h2 ⊢
  simp only at h h2 ⊢
  unfold wrap64 at h2
  omega

/-- The world behind Shift: the set elsewhere, or what is said of bounds. -/
def Shifted (l : List (Int × Int)) (dx dy : Int) (w : World) (e : Ending) (w' : World) : Prop :=
  Below w.heap.size w w' ∧ if (shL dx dy l).all inB = true then ∃ g, e = .returned (.tuple #[.slice (some ⟨g, 0, none⟩) l.length l.length, .int .i64 0]) ∧ Row w' w.heap.size 63 g l.length l.length (shL dx dy l)
    else e = .returned (.tuple #[.slice none 0 0, .int .i64 2])

end Go.Proofs.Ytcmdhochofoohaa.Cel
