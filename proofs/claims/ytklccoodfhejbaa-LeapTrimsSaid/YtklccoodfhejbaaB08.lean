/-
  Texts that the claims of this seat share, part 8.
-/
import Derived.Test.YtklccoodfhejbaaB07
import Derived.Test.YtklccoodfhejbaaB06
import Derived.Test.YtklccoodfhejbaaB05
set_option linter.unusedVariables false
set_option linter.unusedSimpArgs false
namespace Go.Proofs.Ytklccoodfhejbaa
set_option maxRecDepth 100000
set_option linter.unusedVariables false
set_option linter.unusedSimpArgs false
open Go.RowKit Go.Sort

/-- What grown answers. -/
def grown6 (l : List Nd) (room : Int) (z : List Nd × Int × Int) : List Nd × Int × Int := if right6 l room = true then (if z.2.2 = 0 then z else (l, 0, z.2.2)) else (l, 0, 1)
theorem ix_boxed {w : World} {l : List Nd} {room : Int} {v : Value} {b n0 : Nat} {D : DataW Unit} (h : OwnN w n0 v l) (hm : MapAt w b l.length D) (hs : Says D l) (hb : n0 ≤ b) (hn : n0 ≤ w.heap.size) : Ix n0 (w.alloc (.cells #[v, .int .i64 room, .map (some b)] 95)) w.heap.size b l room :=
  ⟨v, D, ⟨heap_alloc_new w _, World.ownsRow.alloc h _, hm.alloc _, hs, hn, hb, by simp; omega⟩⟩

/-- What is known within Empty: the store, the level, what is to be told. -/
structure LevHead (w wr : World) (A : Option Addr) (n c : Nat) (room lev : Int) : Prop where
  store : wr.heap[w.heap.size]? = some (.cells #[.slice A n c, .int .i64 room] 26 (0, 0))
  lev : wr.heap[w.heap.size + 1]? = some (.cells #[.int .i64 lev] 3 (0, 0))
  res : wr.heap[w.heap.size + 2]? = some (.cells #[.slice none 0 0, .int .i64 0] 26 (0, 0))
  bel : Below w.heap.size w wr
section
variable {w wr w' : World} {A : Option Addr} {n c : Nat} {room lev : Int}
theorem LevHead.below (h : LevHead w wr A n c room lev) (hb : Below wr.heap.size wr w') : LevHead w w' A n c room lev :=
  ⟨(hb.block _ (lt_heap6 h.store)).trans h.store, (hb.block _ (lt_heap6 h.lev)).trans h.lev, (hb.block _ (lt_heap6 h.res)).trans h.res, Qt.more h.bel h.bel.size hb⟩
theorem LevHead.s0 (h : LevHead w wr A n c room lev) : wr.cell? ⟨w.heap.size, 0, none⟩ = some (.slice A n c) := by rw [Lib.cell_of_heap h.store]; rfl
theorem LevHead.s1 (h : LevHead w wr A n c room lev) : wr.cell? ⟨w.heap.size, 1, none⟩ = some (.int .i64 room) := by rw [Lib.cell_of_heap h.store]; rfl
theorem LevHead.l0 (h : LevHead w wr A n c room lev) : wr.cell? ⟨w.heap.size + 1, 0, none⟩ = some (.int .i64 lev) := by rw [Lib.cell_of_heap h.lev]; rfl
theorem LevHead.r0 (h : LevHead w wr A n c room lev) : wr.cell? ⟨w.heap.size + 2, 0, none⟩ = some (.slice none 0 0) := by rw [Lib.cell_of_heap h.res]; rfl
theorem LevHead.r1 (h : LevHead w wr A n c room lev) : wr.cell? ⟨w.heap.size + 2, 1, none⟩ = some (.int .i64 0) := by rw [Lib.cell_of_heap h.res]; rfl
theorem LevHead.free (h : LevHead w wr A n c room lev) (j : Nat) : wr.frozen? ⟨w.heap.size + 2, j, none⟩ = false := Lib.frozen_of_heap h.res j
theorem LevHead.told (h : LevHead w wr A n c room lev) (u v : Value) : ((wr.setCell ⟨w.heap.size + 2, 0, none⟩ u).setCell ⟨w.heap.size + 2, 1, none⟩ v).heap[w.heap.size + 2]? = some (.cells #[u, v] 26 (0, 0)) ∧ Below w.heap.size w ((wr.setCell ⟨w.heap.size + 2, 0, none⟩ u).setCell ⟨w.heap.size + 2, 1, none⟩ v) := by
  have hr := h.res
  refine ⟨?_, (h.bel.setCell (by show _ ≤ _ + 2; omega) _).setCell (by show _ ≤ _ + 2; omega) _⟩
  simp [World.setCell, Array.getElem?_modify, hr]
end
end Go.Proofs.Ytklccoodfhejbaa
namespace Go.Proofs.Ytklccoodfhejbaa
set_option maxRecDepth 100000
set_option linter.unusedVariables false
set_option linter.unusedSimpArgs false
open Go.RowKit Go.Sort

/-- what Maker.Make answers -/
def makeZ (room : Int) (l : List Nd) (S : List (Int × Int)) (lev : Int) : List Nd × Int × Int :=
  if (decide (1 ≤ lev) && decide (lev ≤ 42) && Cel.rightB S) = true then
    (if (S.all fun c => insideB (lev.toNat - 1) c) = true then buildC room lev.toNat l (S.map (inwardC (lev.toNat - 1))) else (l, 0, 2))
  else (l, 0, 1)
theorem makeZ_arg {room : Int} {l : List Nd} {S : List (Int × Int)} {lev : Int} (h : ¬ (1 ≤ lev ∧ lev ≤ 42 ∧ Cel.rightB S = true)) : makeZ room l S lev = (l, 0, 1) := by
  unfold makeZ
  rw [if_neg]
  simpa [and_assoc] using h
/-- What is known in the loop over cells. -/
structure MkAt (w wr : World) (g q e : Nat) (S : List (Int × Int)) (j : Nat) : Prop where
  mkr : MR wr w.heap.size g
  row : Cel.Row wr q 48 q S.length S.length (Cel.filled (S.map (inwardC e)) j)
  bel : Below w.heap.size w wr
  all : ∀ i, i < j → insideB e (S.getD i (0, 0)) = true
  hq : w.heap.size < q
theorem MkAt.below {w wr w' : World} {g q e : Nat} {S : List (Int × Int)} {j : Nat} (h : MkAt w wr g q e S j) (hb : Below wr.heap.size wr w') : MkAt w w' g q e S j :=
  ⟨h.mkr.below hb, h.row.below hb, Qt.more h.bel h.bel.size hb, h.all, h.hq⟩
theorem MkAt.next {w wr : World} {g q e : Nat} {S : List (Int × Int)} {j : Nat} (h : MkAt w wr g q e S j) (hj : j < S.length) {c : Int × Int} (hc : c = S.getD j (0, 0)) (hin : insideB e c = true) :
    MkAt w ((wr.setCell ⟨q, j * 2, none⟩ (.int .i64 (inwardC e c).1)).setCell ⟨q, j * 2 + 1, none⟩ (.int .i64 (inwardC e c).2)) g q e S (j + 1) := by
  have hl : (S.map (inwardC e)).length = S.length := List.length_map ..
  have hst := h.row.store j (inwardC e c).1 (inwardC e c).2
  have hg : (S.map (inwardC e)).getD j (0, 0) = inwardC e c := by
    rw [List.getD_eq_getElem?_getD, List.getElem?_map, List.getElem?_eq_getElem hj, hc, List.getD_eq_getElem?_getD, List.getElem?_eq_getElem hj]
    rfl
  have hf := Cel.filled_step (l := S.map (inwardC e)) (k := j) (by rw [hl]; exact hj)
  rw [hg] at hf
  rw [show ((inwardC e c).1, (inwardC e c).2) = inwardC e c from rfl, hf] at hst
  have hq := h.hq
  refine ⟨?_, hst, (h.bel.setCell (by show w.heap.size ≤ q; omega) _).setCell (by show w.heap.size ≤ q; omega) _, fun i hi => ?_, hq⟩
  · have := h.mkr
    unfold MR at this ⊢
    rw [Below.heap_setCell _ _ _ _ (by show w.heap.size ≠ q; omega), Below.heap_setCell _ _ _ _ (by show w.heap.size ≠ q; omega)]
    exact this
  · rcases (by omega : i < j ∨ i = j) with h1 | rfl
    · exact h.all i h1
    · rw [← hc]; exact hin
end Go.Proofs.Ytklccoodfhejbaa
namespace Go.Proofs.Ytklccoodfhejbaa
set_option maxRecDepth 100000
set_option linter.unusedVariables false
set_option linter.unusedSimpArgs false
open Go.RowKit Go.Sort

/-- a node in a box -/
def NR (w : World) (b : Nat) (lev : Int) (k : Kd) (pop : Int) : Prop := w.heap[b]? = some (.cells #[.int .i64 lev, .int .i64 k.1, .int .i64 k.2.1, .int .i64 k.2.2.1, .int .i64 k.2.2.2, .int .i64 pop] 35 (0, 0))
section
variable {w w' : World} {b : Nat} {lev : Int} {k : Kd} {pop : Int}
theorem NR.kp (h : NR w b lev k pop) (hk : Kp w w') : NR w' b lev k pop := hk _ _ _ _ h ⟨.inr (Nat.le_refl 6), by decide⟩
theorem NR.below (h : NR w b lev k pop) (hb : Below w.heap.size w w') : NR w' b lev k pop := (hb.block _ (lt_heap6 h)).trans h
theorem NR.lev_ (h : NR w b lev k pop) : w.cell? ⟨b, 0, none⟩ = some (.int .i64 lev) := by rw [Lib.cell_of_heap h]; rfl
theorem NR.pop_ (h : NR w b lev k pop) : w.cell? ⟨b, 5, none⟩ = some (.int .i64 pop) := by rw [Lib.cell_of_heap h]; rfl
theorem NR.kid (h : NR w b lev k pop) {i : Nat} (hi : i < 4) : w.cell? ⟨b, 1 + i, none⟩ = some (.int .i64 (kd k i)) := by
  rcases (by omega : i = 0 ∨ i = 1 ∨ i = 2 ∨ i = 3) with rfl | rfl | rfl | rfl <;> (rw [Lib.cell_of_heap h]; rfl)
theorem NR.set (h : NR w b lev k pop) {i : Nat} (hi : i < 4) (v : Int) : NR (w.setCell ⟨b, 1 + i, none⟩ (.int .i64 v)) b lev (kset k i v) pop := by
  unfold NR at h ⊢
  rcases (by omega : i = 0 ∨ i = 1 ∨ i = 2 ∨ i = 3) with rfl | rfl | rfl | rfl <;> simp [World.setCell, Array.getElem?_modify, h, kset]
end
/-- What is known behind the boxes. -/
structure PbAt (n0 : Nat) (w W : World) (g b : Nat) (l : List Nd) (room : Int) (c : Int × Int) (lev : Int) (k : Kd) (pop : Int) : Prop where
  ix : Ix n0 W g b l room
  mkr : MR W w.heap.size g
  cl : ClB W (w.heap.size + 1) c
  nd : NR W (w.heap.size + 1 + 1) lev k pop
  bel : BelK n0 b w W
theorem PbAt.below {n0 : Nat} {w W W' : World} {g b : Nat} {l : List Nd} {room : Int} {c : Int × Int} {lev : Int} {k : Kd} {pop : Int} (h : PbAt n0 w W g b l room c lev k pop) (hn : n0 ≤ w.heap.size) (hb : Below W.heap.size W W') : PbAt n0 w W' g b l room c lev k pop :=
  ⟨h.ix.below hb, h.mkr.below hb, h.cl.below hb, h.nd.below hb, h.bel.more hb hn⟩
/-- the kid is told -/
theorem PbAt.told {n0 : Nat} {w W : World} {g b : Nat} {l : List Nd} {room : Int} {c : Int × Int} {lev : Int} {k : Kd} {pop : Int} (h : PbAt n0 w W g b l room c lev k pop) (h2 : 2 ≤ l.length) (hn : n0 ≤ w.heap.size) {i : Nat} (hi : i < 4) (v : Int) :
    PbAt n0 w (W.setCell ⟨w.heap.size + 1 + 1, 1 + i, none⟩ (.int .i64 v)) g b l room c lev (kset k i v) pop := by
  refine ⟨h.ix.setOff h2 h.nd ⟨.inr (Nat.le_refl 6), by decide⟩ _ _, ?_, ⟨?_⟩, h.nd.set hi v, h.bel.setNew (by omega) hn _ _⟩
  · have := h.mkr
    unfold MR at this ⊢
    rw [Below.heap_setCell _ _ _ _ (by show w.heap.size ≠ w.heap.size + 1 + 1; omega)]
    exact this
  · rw [Below.heap_setCell _ _ _ _ (by show w.heap.size + 1 ≠ w.heap.size + 1 + 1; omega)]
    exact h.cl.row
theorem PbAt.kp {n0 : Nat} {w W W' : World} {g b : Nat} {l l' : List Nd} {room : Int} {c : Int × Int} {lev : Int} {k : Kd} {pop : Int} (h : PbAt n0 w W g b l room c lev k pop) (hi : Ix n0 W' g b l' room) (hb : BelK n0 b W W') : PbAt n0 w W' g b l' room c lev k pop :=
  ⟨hi, h.mkr.kp hb.kp, h.cl.kp hb.kp, h.nd.kp hb.kp, h.bel.trans hb⟩

end Go.Proofs.Ytklccoodfhejbaa
