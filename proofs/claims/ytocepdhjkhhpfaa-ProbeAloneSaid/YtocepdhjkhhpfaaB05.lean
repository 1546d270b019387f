/-
  Texts that the claims of this seat share, part 5.
-/
import Derived.Test.YtocepdhjkhhpfaaB04
set_option linter.unusedVariables false
set_option linter.unusedSimpArgs false
namespace Go.Proofs.Ytocepdhjkhhpfaa
set_option maxRecDepth 100000
set_option linter.unusedVariables false
set_option linter.unusedSimpArgs false
open Go.RowKit Go.Sort

theorem own_mono {w : World} {B B' : Nat} {v : Value} {l : List Int} (h : Own w B v l) (hb : B' ≤ B) : Own w B' v l := by
  refine ⟨h.1, ?_⟩
  rcases h.2 with h2 | ⟨g, cap, cur, h3, h4, h5⟩
  · exact .inl h2
  · exact .inr ⟨g, cap, cur, h3, by omega, h5⟩
/-- what is known once the copy is there -/
structure RdoAt (w wr : World) (y : Ac) (m : List Int) (A1 : Option Addr) (c1 : Nat) : Prop where
  row : wr.heap[w.heap.size]? = some (.cells #[.int .i64 y.1, .int .i64 y.2.1, .int .i64 y.2.2.1, .int .i64 y.2.2.2] 102 (0, 0))
  own : Own wr w.heap.size (.slice A1 m.length c1) m
  cap : m.length ≤ c1
  bel : Below w.heap.size w wr
/-- what the document's Do answers: words of its own -/
def DoOwn (d : DoT) (w : World) (r : Ending) (w' : World) : Prop := ∃ A c, r = .returned (.tuple #[.slice A d.1.length c, .int .i64 d.2.1, .bool d.2.2.1, .int .i64 d.2.2.2]) ∧ Own w' w.heap.size (.slice A d.1.length c) d.1 ∧ Below w.heap.size w w'
theorem RdoAt.store {w wr : World} {y : Ac} {m : List Int} {g c1 : Nat} (h : RdoAt w wr y m (some ⟨g, 0, none⟩) c1) {x z : Int} {u : Nat} (hg : w.heap.size ≤ g) (he : doA m y = (m.set u z, x, true, 0)) :
    DoOwn (doA m y) w (.returned (.tuple #[.slice (some ⟨g, 0, none⟩) m.length c1, .int .i64 x, .bool true, .int .i64 0])) (wr.setCell ⟨g, u, none⟩ (.int .i64 z)) := by
  rw [he]
  obtain ⟨h1, h2⟩ := own_set h.own u z
  refine ⟨some ⟨g, 0, none⟩, c1, by simp, ?_, h.bel.grown h2 h.bel.size (fun k e => by injection e with e; omega)⟩
  simp only [List.length_set]
  exact h1
end Go.Proofs.Ytocepdhjkhhpfaa
