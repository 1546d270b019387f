/-
  Shifts of the sets that raw numbers make: what they come to, and the contracts that the laws use.
-/
import Derived.Test.YtikgnjcjbjafaaaCo
import Derived.Test.YtikgnjcjbjafaaaLa
import Derived.Test.YtikgnjcjbjafaaaB08
namespace Go.Proofs.Ytikgnjcjbjafaaa.Cel
open Go.RowKit Go.Sort

theorem rises_shL (x y : Int) {l : List (Int × Int)} (h : Rises l) : Rises (shL x y l) := by
  unfold shL Rises
  rw [List.pairwise_map]
  refine List.Pairwise.imp ?_ h
  intro p q hpq
  rw [lessB_iff] at *
  simp only
  omega
/-- A set near the middle. -/
def Near (l : List (Int × Int)) : Prop := l.length ≤ 60 ∧ Rises l ∧ ∀ p ∈ l, -8 ≤ p.1 ∧ p.1 ≤ 7 ∧ -8 ≤ p.2 ∧ p.2 ≤ 7
def Far (x : Int) : Prop := -1099511627000 ≤ x ∧ x ≤ 1099511627000
theorem Near.far {l : List (Int × Int)} (h : Near l) {x y : Int} (hx : Far x) (hy : Far y) : rightB (shL x y l) = true := by
  unfold Far at hx hy
  refine (rightB_iff _).2 ⟨?_, fun c hc => ?_, rises_shL x y h.2.1⟩
  · rw [length_shL]; exact Nat.le_trans h.1 (by decide)
  · obtain ⟨p, hp, rfl⟩ := List.mem_map.1 hc
    have := h.2.2 p hp
    rw [inB_iff]
    simp only
    omega
theorem Near.right {l : List (Int × Int)} (h : Near l) : rightB l = true := by
  have := h.far (x := 0) (y := 0) ⟨by decide, by decide⟩ ⟨by decide, by decide⟩
  have e : shL 0 0 l = l := by
    unfold shL
    conv => rhs; rw [← List.map_id l]
    refine List.map_congr_left fun c _ => ?_
    simp
  rwa [e] at this
/-- A slice whose cells read as a list, now. -/
def Now (w : World) (A : Option Addr) (l : List (Int × Int)) : Prop := Rd w w.heap.size A l
theorem Now.below {w w' : World} {A : Option Addr} {l : List (Int × Int)} (h : Now w A l) (hb : Below w.heap.size w w') : Now w' A l := (Rd.below h hb (Nat.le_refl _)).more hb.size

end Go.Proofs.Ytikgnjcjbjafaaa.Cel
