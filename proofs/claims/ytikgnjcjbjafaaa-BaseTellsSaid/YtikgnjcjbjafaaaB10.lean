/-
  Texts that the claims of this seat share, part 10.
-/
import Derived.Test.YtikgnjcjbjafaaaB09
set_option linter.unusedVariables false
set_option linter.unusedSimpArgs false
namespace Go.Proofs.Ytikgnjcjbjafaaa
set_option maxRecDepth 100000
set_option linter.unusedVariables false
set_option linter.unusedSimpArgs false
open Go.RowKit Go.Sort

/-- a node in a box -/
def NR (w : World) (b : Nat) (lev : Int) (k : Kd) (pop : Int) : Prop := w.heap[b]? = some (.cells #[.int .i64 lev, .int .i64 k.1, .int .i64 k.2.1, .int .i64 k.2.2.1, .int .i64 k.2.2.2, .int .i64 pop] 54 (0, 0))
section
variable {w w' : World} {b : Nat} {lev : Int} {k : Kd} {pop : Int}
theorem NR.kp (h : NR w b lev k pop) (hk : Kp w w') : NR w' b lev k pop := hk _ _ _ _ h ⟨.inr (Nat.le_refl 6), by decide⟩
theorem NR.below (h : NR w b lev k pop) (hb : Below w.heap.size w w') : NR w' b lev k pop := (hb.block _ (lt_heap6 h)).trans h
theorem NR.lev_ (h : NR w b lev k pop) : w.cell? ⟨b, 0, none⟩ = some (.int .i64 lev) := by rw [Lib.cell_of_heap h]; rfl
theorem NR.kid (h : NR w b lev k pop) {i : Nat} (hi : i < 4) : w.cell? ⟨b, 1 + i, none⟩ = some (.int .i64 (kd k i)) := by
  rcases (by omega : i = 0 ∨ i = 1 ∨ i = 2 ∨ i = 3) with rfl | rfl | rfl | rfl <;> (rw [Lib.cell_of_heap h]; rfl)
theorem NR.set (h : NR w b lev k pop) {i : Nat} (hi : i < 4) (v : Int) : NR (w.setCell ⟨b, 1 + i, none⟩ (.int .i64 v)) b lev (kset k i v) pop := by
  unfold NR at h ⊢
  rcases (by omega : i = 0 ∨ i = 1 ∨ i = 2 ∨ i = 3) with rfl | rfl | rfl | rfl <;> simp [World.setCell, Array.getElem?_modify, h, kset]
end
/-- What is known behind the boxes. -/
structure PbAt (n0 : Nat) (w W : World) (g b : Nat) (l : List Nd) (room : Int) (c : Int × Int) (lev : Int) (k : Kd) (pop : Int) : Prop where
  ix : Ix n0 W g b l room
  mkr : MR W w.heap.size g
  cl : ClB W (w.heap.size + 1) c
  nd : NR W (w.heap.size + 1 + 1) lev k pop
  bel : BelK n0 w W
theorem PbAt.below {n0 : Nat} {w W W' : World} {g b : Nat} {l : List Nd} {room : Int} {c : Int × Int} {lev : Int} {k : Kd} {pop : Int} (h : PbAt n0 w W g b l room c lev k pop) (hn : n0 ≤ w.heap.size) (hb : Below W.heap.size W W') : PbAt n0 w W' g b l room c lev k pop :=
  ⟨h.ix.below hb, h.mkr.below hb, h.cl.below hb, h.nd.below hb, h.bel.more hb hn⟩
/-- the kid is told -/
theorem PbAt.told {n0 : Nat} {w W : World} {g b : Nat} {l : List Nd} {room : Int} {c : Int × Int} {lev : Int} {k : Kd} {pop : Int} (h : PbAt n0 w W g b l room c lev k pop) (h2 : 2 ≤ l.length) (hn : n0 ≤ w.heap.size) {i : Nat} (hi : i < 4) (v : Int) :
    PbAt n0 w (W.setCell ⟨w.heap.size + 1 + 1, 1 + i, none⟩ (.int .i64 v)) g b l room c lev (kset k i v) pop := by
  refine ⟨h.ix.setOff h2 h.nd ⟨.inr (Nat.le_refl 6), by decide⟩ _ _, ?_, ⟨?_⟩, h.nd.set hi v, h.bel.setNew (by omega) hn _ _⟩
  · have := h.mkr
    unfold MR at this ⊢
    rw [Below.heap_setCell _ _ _ _ (by show w.heap.size ≠ w.heap.size + 1 + 1; omega)]
    exact this
  · rw [Below.heap_setCell _ _ _ _ (by show w.heap.size + 1 ≠ w.heap.size + 1 + 1; omega)]
    exact h.cl.row
theorem PbAt.kp {n0 : Nat} {w W W' : World} {g b : Nat} {l l' : List Nd} {room : Int} {c : Int × Int} {lev : Int} {k : Kd} {pop : Int} (h : PbAt n0 w W g b l room c lev k pop) (hi : Ix n0 W' g b l' room) (hb : BelK n0 W W') : PbAt n0 w W' g b l' room c lev k pop :=
  ⟨hi, h.mkr.kp hb.kp, h.cl.kp hb.kp, h.nd.kp hb.kp, h.bel.trans hb⟩

end Go.Proofs.Ytikgnjcjbjafaaa
