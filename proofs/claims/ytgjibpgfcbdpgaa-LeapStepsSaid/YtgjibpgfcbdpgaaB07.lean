/-
  Texts that the claims of this seat share, part 7.
-/
import Derived.Test.YtgjibpgfcbdpgaaB06
import Derived.Test.YtgjibpgfcbdpgaaB05
import Derived.Test.YtgjibpgfcbdpgaaB04
import Derived.Test.YtgjibpgfcbdpgaaSh
import Derived.Laws.CopyRow
set_option linter.unusedVariables false
set_option linter.unusedSimpArgs false
namespace Go.Proofs.Ytgjibpgfcbdpgaa
set_option maxRecDepth 100000
set_option linter.unusedVariables false
set_option linter.unusedSimpArgs false
open Go.RowKit Go.Sort

/-- What grown answers. -/
def grown6 (l : List Nd) (room : Int) (z : List Nd × Int × Int) : List Nd × Int × Int := if right6 l room = true then (if z.2.2 = 0 then z else (l, 0, z.2.2)) else (l, 0, 1)
theorem ix_boxed {w : World} {l : List Nd} {room : Int} {v : Value} {b n0 : Nat} {D : DataW Unit} (h : OwnN w n0 v l) (hm : MapAt w b l.length D) (hs : Says D l) (hb : n0 ≤ b) (hn : n0 ≤ w.heap.size) : Ix n0 (w.alloc (.cells #[v, .int .i64 room, .map (some b)] 95)) w.heap.size b l room :=
  ⟨v, D, ⟨heap_alloc_new w _, World.ownsRow.alloc h _, hm.alloc _, hs, hn, hb, by simp; omega⟩⟩

/-- What is known within Empty: the store, the level, what is to be told. -/
structure LevHead (w wr : World) (A : Option Addr) (n c : Nat) (room lev : Int) : Prop where
  store : wr.heap[w.heap.size]? = some (.cells #[.slice A n c, .int .i64 room] 26 (0, 0))
  lev : wr.heap[w.heap.size + 1]? = some (.cells #[.int .i64 lev] 3 (0, 0))
  res : wr.heap[w.heap.size + 2]? = some (.cells #[.slice none 0 0, .int .i64 0] 26 (0, 0))
  bel : Below w.heap.size w wr
section
variable {w wr w' : World} {A : Option Addr} {n c : Nat} {room lev : Int}
theorem LevHead.below (h : LevHead w wr A n c room lev) (hb : Below wr.heap.size wr w') : LevHead w w' A n c room lev :=
  ⟨(hb.block _ (lt_heap6 h.store)).trans h.store, (hb.block _ (lt_heap6 h.lev)).trans h.lev, (hb.block _ (lt_heap6 h.res)).trans h.res, Qt.more h.bel h.bel.size hb⟩
theorem LevHead.s0 (h : LevHead w wr A n c room lev) : wr.cell? ⟨w.heap.size, 0, none⟩ = some (.slice A n c) := by rw [Lib.cell_of_heap h.store]; rfl
theorem LevHead.s1 (h : LevHead w wr A n c room lev) : wr.cell? ⟨w.heap.size, 1, none⟩ = some (.int .i64 room) := by rw [Lib.cell_of_heap h.store]; rfl
theorem LevHead.l0 (h : LevHead w wr A n c room lev) : wr.cell? ⟨w.heap.size + 1, 0, none⟩ = some (.int .i64 lev) := by rw [Lib.cell_of_heap h.lev]; rfl
theorem LevHead.r0 (h : LevHead w wr A n c room lev) : wr.cell? ⟨w.heap.size + 2, 0, none⟩ = some (.slice none 0 0) := by rw [Lib.cell_of_heap h.res]; rfl
theorem LevHead.r1 (h : LevHead w wr A n c room lev) : wr.cell? ⟨w.heap.size + 2, 1, none⟩ = some (.int .i64 0) := by rw [Lib.cell_of_heap h.res]; rfl
theorem LevHead.free (h : LevHead w wr A n c room lev) (j : Nat) : wr.frozen? ⟨w.heap.size + 2, j, none⟩ = false := Lib.frozen_of_heap h.res j
theorem LevHead.told (h : LevHead w wr A n c room lev) (u v : Value) : ((wr.setCell ⟨w.heap.size + 2, 0, none⟩ u).setCell ⟨w.heap.size + 2, 1, none⟩ v).heap[w.heap.size + 2]? = some (.cells #[u, v] 26 (0, 0)) ∧ Below w.heap.size w ((wr.setCell ⟨w.heap.size + 2, 0, none⟩ u).setCell ⟨w.heap.size + 2, 1, none⟩ v) := by
  have hr := h.res
  refine ⟨?_, (h.bel.setCell (by show _ ≤ _ + 2; omega) _).setCell (by show _ ≤ _ + 2; omega) _⟩
  simp [World.setCell, Array.getElem?_modify, hr]
end
end Go.Proofs.Ytgjibpgfcbdpgaa
namespace Go.Proofs.Ytgjibpgfcbdpgaa
set_option maxRecDepth 100000
set_option linter.unusedVariables false
set_option linter.unusedSimpArgs false
open Go.RowKit Go.Sort

/-- what Maker.Make answers -/
def makeZ (room : Int) (l : List Nd) (S : List (Int × Int)) (lev : Int) : List Nd × Int × Int :=
  if (decide (1 ≤ lev) && decide (lev ≤ 42) && Cel.rightB S) = true then
    (if (S.all fun c => insideB (lev.toNat - 1) c) = true then buildC room lev.toNat l (S.map (inwardC (lev.toNat - 1))) else (l, 0, 2))
  else (l, 0, 1)
theorem makeZ_arg {room : Int} {l : List Nd} {S : List (Int × Int)} {lev : Int} (h : ¬ (1 ≤ lev ∧ lev ≤ 42 ∧ Cel.rightB S = true)) : makeZ room l S lev = (l, 0, 1) := by
  unfold makeZ
  rw [if_neg]
  simpa [and_assoc] using h
/-- What is known in the loop over cells. -/
structure MkAt (w wr : World) (g q e : Nat) (S : List (Int × Int)) (j : Nat) : Prop where
  mkr : MR wr w.heap.size g
  row : Cel.Row wr q 48 q S.length S.length (Cel.filled (S.map (inwardC e)) j)
  bel : Below w.heap.size w wr
  all : ∀ i, i < j → insideB e (S.getD i (0, 0)) = true
  hq : w.heap.size < q
theorem MkAt.below {w wr w' : World} {g q e : Nat} {S : List (Int × Int)} {j : Nat} (h : MkAt w wr g q e S j) (hb : Below wr.heap.size wr w') : MkAt w w' g q e S j :=
  ⟨h.mkr.below hb, h.row.below hb, Qt.more h.bel h.bel.size hb, h.all, h.hq⟩
theorem MkAt.next {w wr : World} {g q e : Nat} {S : List (Int × Int)} {j : Nat} (h : MkAt w wr g q e S j) (hj : j < S.length) {c : Int × Int} (hc : c = S.getD j (0, 0)) (hin : insideB e c = true) :
    MkAt w ((wr.setCell ⟨q, j * 2, none⟩ (.int .i64 (inwardC e c).1)).setCell ⟨q, j * 2 + 1, none⟩ (.int .i64 (inwardC e c).2)) g q e S (j + 1) := by
  have hl : (S.map (inwardC e)).length = S.length := List.length_map ..
  have hst := h.row.store j (inwardC e c).1 (inwardC e c).2
  have hg : (S.map (inwardC e)).getD j (0, 0) = inwardC e c := by
    rw [List.getD_eq_getElem?_getD, List.getElem?_map, List.getElem?_eq_getElem hj, hc, List.getD_eq_getElem?_getD, List.getElem?_eq_getElem hj]
    rfl
  have hf := Cel.filled_step (l := S.map (inwardC e)) (k := j) (by rw [hl]; exact hj)
  rw [hg] at hf
  rw [show ((inwardC e c).1, (inwardC e c).2) = inwardC e c from rfl, hf] at hst
  have hq := h.hq
  refine ⟨?_, hst, (h.bel.setCell (by show w.heap.size ≤ q; omega) _).setCell (by show w.heap.size ≤ q; omega) _, fun i hi => ?_, hq⟩
  · have := h.mkr
    unfold MR at this ⊢
    rw [Below.heap_setCell _ _ _ _ (by show w.heap.size ≠ q; omega), Below.heap_setCell _ _ _ _ (by show w.heap.size ≠ q; omega)]
    exact this
  · rcases (by omega : i < j ∨ i = j) with h1 | rfl
    · exact h.all i h1
    · rw [← hc]; exact hin
end Go.Proofs.Ytgjibpgfcbdpgaa
namespace Go.Proofs.Ytgjibpgfcbdpgaa
set_option maxRecDepth 100000
set_option linter.unusedVariables false
set_option linter.unusedSimpArgs false
open Go.RowKit Go.Sort

/-- a node in a box -/
def NR (w : World) (b : Nat) (lev : Int) (k : Kd) (pop : Int) : Prop := w.heap[b]? = some (.cells #[.int .i64 lev, .int .i64 k.1, .int .i64 k.2.1, .int .i64 k.2.2.1, .int .i64 k.2.2.2, .int .i64 pop] 35 (0, 0))
section
variable {w w' : World} {b : Nat} {lev : Int} {k : Kd} {pop : Int}
theorem NR.kp (h : NR w b lev k pop) (hk : Kp w w') : NR w' b lev k pop := hk _ _ _ _ h ⟨.inr (Nat.le_refl 6), by decide⟩
theorem NR.below (h : NR w b lev k pop) (hb : Below w.heap.size w w') : NR w' b lev k pop := (hb.block _ (lt_heap6 h)).trans h
theorem NR.lev_ (h : NR w b lev k pop) : w.cell? ⟨b, 0, none⟩ = some (.int .i64 lev) := by rw [Lib.cell_of_heap h]; rfl
theorem NR.pop_ (h : NR w b lev k pop) : w.cell? ⟨b, 5, none⟩ = some (.int .i64 pop) := by rw [Lib.cell_of_heap h]; rfl
theorem NR.kid (h : NR w b lev k pop) {i : Nat} (hi : i < 4) : w.cell? ⟨b, 1 + i, none⟩ = some (.int .i64 (kd k i)) := by
  rcases (by omega : i = 0 ∨ i = 1 ∨ i = 2 ∨ i = 3) with rfl | rfl | rfl | rfl <;> (rw [Lib.cell_of_heap h]; rfl)
theorem NR.set (h : NR w b lev k pop) {i : Nat} (hi : i < 4) (v : Int) : NR (w.setCell ⟨b, 1 + i, none⟩ (.int .i64 v)) b lev (kset k i v) pop := by
  unfold NR at h ⊢
  rcases (by omega : i = 0 ∨ i = 1 ∨ i = 2 ∨ i = 3) with rfl | rfl | rfl | rfl <;> simp [World.setCell, Array.getElem?_modify, h, kset]
end
/-- What is known behind the boxes. -/
structure PbAt (n0 : Nat) (w W : World) (g b : Nat) (l : List Nd) (room : Int) (c : Int × Int) (lev : Int) (k : Kd) (pop : Int) : Prop where
  ix : Ix n0 W g b l room
  mkr : MR W w.heap.size g
  cl : ClB W (w.heap.size + 1) c
  nd : NR W (w.heap.size + 1 + 1) lev k pop
  bel : BelK n0 b w W
theorem PbAt.below {n0 : Nat} {w W W' : World} {g b : Nat} {l : List Nd} {room : Int} {c : Int × Int} {lev : Int} {k : Kd} {pop : Int} (h : PbAt n0 w W g b l room c lev k pop) (hn : n0 ≤ w.heap.size) (hb : Below W.heap.size W W') : PbAt n0 w W' g b l room c lev k pop :=
  ⟨h.ix.below hb, h.mkr.below hb, h.cl.below hb, h.nd.below hb, h.bel.more hb hn⟩
/-- the kid is told -/
theorem PbAt.told {n0 : Nat} {w W : World} {g b : Nat} {l : List Nd} {room : Int} {c : Int × Int} {lev : Int} {k : Kd} {pop : Int} (h : PbAt n0 w W g b l room c lev k pop) (h2 : 2 ≤ l.length) (hn : n0 ≤ w.heap.size) {i : Nat} (hi : i < 4) (v : Int) :
    PbAt n0 w (W.setCell ⟨w.heap.size + 1 + 1, 1 + i, none⟩ (.int .i64 v)) g b l room c lev (kset k i v) pop := by
  refine ⟨h.ix.setOff h2 h.nd ⟨.inr (Nat.le_refl 6), by decide⟩ _ _, ?_, ⟨?_⟩, h.nd.set hi v, h.bel.setNew (by omega) hn _ _⟩
  · have := h.mkr
    unfold MR at this ⊢
    rw [Below.heap_setCell _ _ _ _ (by show w.heap.size ≠ w.heap.size + 1 + 1; omega)]
    exact this
  · rw [Below.heap_setCell _ _ _ _ (by show w.heap.size + 1 ≠ w.heap.size + 1 + 1; omega)]
    exact h.cl.row
theorem PbAt.kp {n0 : Nat} {w W W' : World} {g b : Nat} {l l' : List Nd} {room : Int} {c : Int × Int} {lev : Int} {k : Kd} {pop : Int} (h : PbAt n0 w W g b l room c lev k pop) (hi : Ix n0 W' g b l' room) (hb : BelK n0 b W W') : PbAt n0 w W' g b l' room c lev k pop :=
  ⟨hi, h.mkr.kp hb.kp, h.cl.kp hb.kp, h.nd.kp hb.kp, h.bel.trans hb⟩

end Go.Proofs.Ytgjibpgfcbdpgaa
namespace Go.Proofs.Ytgjibpgfcbdpgaa
set_option maxRecDepth 100000
set_option linter.unusedVariables false
set_option linter.unusedSimpArgs false
open Go.RowKit Go.Sort

/-- What is known within a call that makes a node in a store: the store, what is to be told. -/
structure WrAt (w wr : World) (A : Option Addr) (n c : Nat) (room : Int) (p : Nat) : Prop where
  store : wr.heap[w.heap.size]? = some (.cells #[.slice A n c, .int .i64 room] 26 (0, 0))
  res : wr.heap[p]? = some (.cells #[.slice none 0 0, .int .i64 0] 26 (0, 0))
  bel : Below w.heap.size w wr
  hp : w.heap.size ≤ p
section
variable {w wr w' : World} {A : Option Addr} {n c : Nat} {room : Int} {p : Nat}
theorem WrAt.below (h : WrAt w wr A n c room p) (hb : Below wr.heap.size wr w') : WrAt w w' A n c room p :=
  ⟨(hb.block _ (lt_heap6 h.store)).trans h.store, (hb.block _ (lt_heap6 h.res)).trans h.res, Qt.more h.bel h.bel.size hb, h.hp⟩
theorem WrAt.s0 (h : WrAt w wr A n c room p) : wr.cell? ⟨w.heap.size, 0, none⟩ = some (.slice A n c) := by rw [Lib.cell_of_heap h.store]; rfl
theorem WrAt.s1 (h : WrAt w wr A n c room p) : wr.cell? ⟨w.heap.size, 1, none⟩ = some (.int .i64 room) := by rw [Lib.cell_of_heap h.store]; rfl
theorem WrAt.r0 (h : WrAt w wr A n c room p) : wr.cell? ⟨p, 0, none⟩ = some (.slice none 0 0) := by rw [Lib.cell_of_heap h.res]; rfl
theorem WrAt.r1 (h : WrAt w wr A n c room p) : wr.cell? ⟨p, 1, none⟩ = some (.int .i64 0) := by rw [Lib.cell_of_heap h.res]; rfl
theorem WrAt.free (h : WrAt w wr A n c room p) (j : Nat) : wr.frozen? ⟨p, j, none⟩ = false := Lib.frozen_of_heap h.res j
theorem WrAt.told (h : WrAt w wr A n c room p) (u v : Value) : ((wr.setCell ⟨p, 0, none⟩ u).setCell ⟨p, 1, none⟩ v).heap[p]? = some (.cells #[u, v] 26 (0, 0)) ∧ Below w.heap.size w ((wr.setCell ⟨p, 0, none⟩ u).setCell ⟨p, 1, none⟩ v) := by
  have hr := h.res
  refine ⟨?_, (h.bel.setCell (by show _ ≤ p; exact h.hp) _).setCell (by show _ ≤ p; exact h.hp) _⟩
  simp [World.setCell, Array.getElem?_modify, hr]
end
theorem heap_new {W : World} {o : Obj} {b : Nat} (h : W.heap.size = b) : (W.alloc o).heap[b]? = some o := by rw [← h]; exact heap_alloc_new W o
theorem heap_old {W : World} {o o' : Obj} {b : Nat} (h : W.heap[b]? = some o') : (W.alloc o).heap[b]? = some o' := (Lib.alloc_old _ _ _ (lt_heap6 h)).trans h

/-- may a place be that of a node whose square has a middle -/
def hasB (l : List Nd) (n : Int) : Bool := decide (0 ≤ n ∧ n < l.length ∧ 0 < (ndAt l n).1)
set_option maxHeartbeats 4000000 in
theorem hasSquare_any (A : Option Addr) (l : List Nd) (c : Nat) (room n : Int) (w : World) (hR : RdN w w.heap.size A l) (hl : l.length ≤ 1000000) : Calls Try.prog 99 #[storeV A l.length c room, .int .i64 n] w fun r w' => r = .returned (.bool (hasB l n)) ∧ Below w.heap.size w w' := by
  have HH0 := storeAt_0 w A l.length c room
  have s0 := HH0.s0
  have s1 := HH0.s1
  have HH := Lib.hid HH0
  unfold storeV
  by_cases h0 : n < 0
  · have hb : hasB l n = false := decide_eq_false (by omega)
    rw [hb]
    have d0 : decide (0 ≤ n) = false := decide_eq_false (by omega)
    clear hb HH0 hR
    go_enter Try.func99, Try.ntmps99
    go_wp2_with fail
    go_ret
    exact ⟨rfl, HH.out.bel⟩
  by_cases h1 : (l.length : Int) ≤ n
  · have hb : hasB l n = false := decide_eq_false (by omega)
    rw [hb]
    have d0 : decide (0 ≤ n) = true := decide_eq_true (by omega)
    have d1 : decide (n < (l.length : Int)) = false := decide_eq_false (by omega)
    clear hb HH0 hR
    go_enter Try.func99, Try.ntmps99
    go_wp2_with fail
    go_ret
    exact ⟨rfl, HH.out.bel⟩
  obtain ⟨k, rfl⟩ : ∃ k : Nat, n = (k : Int) := ⟨n.toNat, by omega⟩
  obtain ⟨b, off, rfl, hbB, hcell⟩ := hR.at_ (by omega)
  have x0 := NdAt.below (hcell k (by omega)) HH0.bel hbB
  have x0 := x0.1
  have hkz : (k : Int) < (l.length : Int) := by omega
  have hk0 : 0 ≤ (k : Int) := by omega
  have d0 : decide (0 ≤ (k : Int)) = true := decide_eq_true (by omega)
  have d1 : decide ((k : Int) < (l.length : Int)) = true := decide_eq_true (by omega)
  have hb : hasB l (k : Int) = decide (0 < (l.getD k deadN).1) := by
    unfold hasB
    rw [ndAt_nat]
    by_cases h : 0 < (l.getD k deadN).1
    · rw [decide_eq_true h, decide_eq_true (by omega)]
    · rw [decide_eq_false h, decide_eq_false (by omega)]
  rw [hb]
  generalize (l.getD k deadN).1 = lv at *
  clear hb hcell HH0 hR
  go_enter Try.func99, Try.ntmps99
  go_wp2_with fail
  go_ret
  exact ⟨rfl, HH.out.bel⟩

/-- what Make answers -/
def make7 (l : List Nd) (room : Int) (S : List (Int × Int)) (lev : Int) : List Nd × Int × Int := grown6 l room (makeZ room l S lev)
/-- what Maker.Set answers -/
def setZ (room : Int) (l : List Nd) (n : Int) (c : Int × Int) (a : Bool) : List Nd × Int × Int :=
  if hasB l n = true then (if insideB ((ndAt l n).1.toNat - 1) c = true then setC room (ndAt l n).1.toNat l n.toNat (inwardC ((ndAt l n).1.toNat - 1) c) a else (l, 0, 2)) else (l, 0, 1)
/-- a maker and a cell in boxes -/
structure McAt (n0 : Nat) (w W : World) (g b : Nat) (l : List Nd) (room : Int) (c : Int × Int) : Prop where
  ix : Ix n0 W g b l room
  mkr : MR W w.heap.size g
  cl : ClB W (w.heap.size + 1) c
  bel : BelK n0 b w W
theorem McAt.below {n0 : Nat} {w W W' : World} {g b : Nat} {l : List Nd} {room : Int} {c : Int × Int} (h : McAt n0 w W g b l room c) (hn : n0 ≤ w.heap.size) (hb : Below W.heap.size W W') : McAt n0 w W' g b l room c :=
  ⟨h.ix.below hb, h.mkr.below hb, h.cl.below hb, h.bel.more hb hn⟩
theorem ix_rd {n0 : Nat} {w : World} {g b : Nat} {l : List Nd} {room : Int} (h : Ix n0 w g b l room) (h2 : 2 ≤ l.length) : ∃ q cap, w.cell? ⟨g, 0, none⟩ = some (.slice (some ⟨q, 0, none⟩) l.length cap) ∧ w.cell? ⟨g, 1, none⟩ = some (.int .i64 room) ∧ RdN w w.heap.size (some ⟨q, 0, none⟩) l ∧ l.length ≤ cap ∧ ∀ j, j < l.length → NdAt w q (j * 6) (l.getD j deadN) := by
  obtain ⟨v, D, h⟩ := h
  obtain ⟨q, cap, rfl, hcap⟩ := ownN_val h.own (by omega)
  obtain ⟨A, c', e, _, hRd⟩ := h.own.reads
  injection e with e1 e2 e3
  subst e1
  refine ⟨q, cap, h.row.c0, h.row.c1, hRd, hcap, fun j hj => ?_⟩
  have := ownN_nd h.own j hj
  rwa [Nat.zero_add] at this
end Go.Proofs.Ytgjibpgfcbdpgaa
namespace Go.Proofs.Ytgjibpgfcbdpgaa
set_option maxRecDepth 100000
set_option linter.unusedVariables false
set_option linter.unusedSimpArgs false
open Go.RowKit Go.Sort

/-- what Set answers -/
def set7 (l : List Nd) (room n : Int) (c : Int × Int) (a : Bool) : List Nd × Int × Int := grown6 l room (setZ room l n c a)
/-! ### Grow -/
/-- what Maker.Grow answers -/
def growZ (room : Int) (l : List Nd) (n : Int) : List Nd × Int × Int :=
  if (hasB l n && decide (¬ (ndAt l n).1 = 42)) = true then growC room l n.toNat ((ndAt l n).1.toNat - 1) else (l, 0, 1)
/-- what is in boxes while a node is grown: a dead node's place, the node -/
structure GcAt (W : World) (db xb mb g : Nat) (d lev : Int) (k : Kd) (pop : Int) : Prop where
  dead : LR W db d
  nd : NR W xb lev k pop
  mkr : MR W mb g
theorem GcAt.kp {W W' : World} {db xb mb g : Nat} {d lev : Int} {k : Kd} {pop : Int} (h : GcAt W db xb mb g d lev k pop) (hk : Kp W W') : GcAt W' db xb mb g d lev k pop := ⟨h.dead.kp hk, h.nd.kp hk, h.mkr.kp hk⟩
theorem GcAt.below {W W' : World} {db xb mb g : Nat} {d lev : Int} {k : Kd} {pop : Int} (h : GcAt W db xb mb g d lev k pop) (hb : Below W.heap.size W W') : GcAt W' db xb mb g d lev k pop := ⟨h.dead.below hb, h.nd.below hb, h.mkr.below hb⟩
set_option maxHeartbeats 8000000 in
theorem growClos_any (room : Int) (n0 g b db xb mb : Nat) (l : List Nd) (d lev : Int) (k : Kd) (pop : Int) {i : Nat} (hi : i < 4) (w : World) (hix : Ix n0 w g b l room) (hr : Right6 l room) (h : GcAt w db xb mb g d lev k pop) :
    Calls Try.prog 102 #[.int .i64 (i : Nat), .pointer (some ⟨db, 0, none⟩), .pointer (some ⟨xb, 0, none⟩), .pointer (some ⟨mb, 0, none⟩)] w (IxK (put6 l room (growK k d i)) n0 g b room w) := by
  have hn0 := hix.hB
  have hal := (Below.refl w.heap.size w).alloc (Nat.le_refl _) (.cells #[.int .i64 d, .int .i64 d, .int .i64 d, .int .i64 d] 33)
  have hKR : KR (w.alloc (.cells #[.int .i64 d, .int .i64 d, .int .i64 d, .int .i64 d] 33)) w.heap.size (d, d, d, d) := heap_alloc_new w _
  have hset := hKR.set (j := 3 - i) (by omega) (kd k i)
  have hix2 := (hix.below hal).setOff hr.two hKR ⟨.inl (by decide), by decide⟩ (3 - i) (.int .i64 (kd k i))
  have hB2 := (BelK.of (b := b) hal hn0).setNew (kb := w.heap.size) (Nat.le_refl _) hn0 (3 - i) (.int .i64 (kd k i))
  have hm2 : MR ((w.alloc (.cells #[.int .i64 d, .int .i64 d, .int .i64 d, .int .i64 d] 33)).setCell ⟨w.heap.size, 3 - i, none⟩ (.int .i64 (kd k i))) mb g := h.mkr.kp hB2.kp
  have hcall := intern_anyK n0 g b l room (growK k d i) _ hix2 hr
  unfold kidsV at hcall
  have hgk : kset (d, d, d, d) (3 - i) (kd k i) = growK k d i := rfl
  rw [hgk] at hset
  have d0 := h.dead.c
  have hg := h.below hal
  have d0a := hg.dead.c
  have x0 := hg.nd.kid hi
  have c0 := hKR.c (j := 3 - i) (by omega)
  have f0 : (w.alloc (.cells #[.int .i64 d, .int .i64 d, .int .i64 d, .int .i64 d] 33)).frozen? ⟨w.heap.size, 3 - i, none⟩ = false := Lib.frozen_of_heap hKR (3 - i)
  have y0 := hset.c (j := 0) (by decide)
  have y1 := hset.c (j := 1) (by decide)
  have y2 := hset.c (j := 2) (by decide)
  have y3 := hset.c (j := 3) (by decide)
  have m0 := hm2.c
  have HB := Lib.hid hB2
  generalize growK k d i = gk at *
  generalize kd k i = kv at *
  simp only [kd] at y0 y1 y2 y3
  obtain ⟨j, hj⟩ : ∃ j, j = 3 - i := ⟨_, rfl⟩
  have hjz : (3 : Int) - (i : Int) = (j : Int) := by omega
  have hwz : IntKind.i64.wrap ((3 : Int) - (i : Int)) = (j : Int) := by rw [IntKind.wrap_i64]; omega
  rw [← hj] at hcall c0 f0 y0 y1 y2 y3 m0 HB
  have hj4 : (j : Int) < 4 := by omega
  have hi4 : (i : Int) < 4 := by omega
  have hfold : ((w.alloc (.cells #[.int .i64 d, .int .i64 d, .int .i64 d, .int .i64 d] 33)).setCell ⟨w.heap.size, j, none⟩ (.int .i64 kv)) = w.alloc (.cells ([Value.int .i64 d, .int .i64 d, .int .i64 d, .int .i64 d].set j (.int .i64 kv)).toArray 33) := by
    rw [World.setCell_alloc_new]
    simp
  rw [hfold] at hcall y0 y1 y2 y3 m0 HB
  generalize put6 l room gk = z at *
  obtain ⟨m, p, ee⟩ := z
  clear hix hr h hal hKR hset hix2 hB2 hm2 hgk hg hj hfold
  go_enter Try.func102, Try.ntmps102
  go_wp2_with fail
  refine hcall.mono ?_
  rintro e w1 ⟨rfl, hi1, hb1⟩
  have HI := Lib.hid hi1
  have HBF := Lib.hid (HB.out.trans hb1)
  clear hcall hi1 hb1 d0 d0a x0 c0 f0 y0 y1 y2 y3 m0
  go_wp2_with fail
  go_ret2
  exact ⟨rfl, HI.out, HBF.out⟩
end Go.Proofs.Ytgjibpgfcbdpgaa
namespace Go.Proofs.Ytgjibpgfcbdpgaa
set_option maxRecDepth 100000
set_option linter.unusedVariables false
set_option linter.unusedSimpArgs false
open Go.RowKit Go.Sort

/-- a maker in a box -/
structure MiAt (n0 : Nat) (w W : World) (g b : Nat) (l : List Nd) (room : Int) : Prop where
  ix : Ix n0 W g b l room
  mkr : MR W w.heap.size g
  bel : BelK n0 b w W
theorem MiAt.below {n0 : Nat} {w W W' : World} {g b : Nat} {l : List Nd} {room : Int} (h : MiAt n0 w W g b l room) (hn : n0 ≤ w.heap.size) (hb : Below W.heap.size W W') : MiAt n0 w W' g b l room :=
  ⟨h.ix.below hb, h.mkr.below hb, h.bel.more hb hn⟩
theorem MiAt.kp {n0 : Nat} {w W W' : World} {g b : Nat} {l l' : List Nd} {room : Int} (h : MiAt n0 w W g b l room) (hi : Ix n0 W' g b l' room) (hb : BelK n0 b W W') : MiAt n0 w W' g b l' room := ⟨hi, h.mkr.kp hb.kp, h.bel.trans hb⟩
theorem miAt_0 {n0 : Nat} {w : World} {g b : Nat} {l : List Nd} {room : Int} (hix : Ix n0 w g b l room) : MiAt n0 w (w.alloc (.cells #[.pointer (some ⟨g, 0, none⟩)] 123)) g b l room := by
  have hal1 := (Below.refl w.heap.size w).alloc (Nat.le_refl _) (.cells #[.pointer (some ⟨g, 0, none⟩)] 123)
  exact ⟨hix.below hal1, heap_new rfl, .of hal1 hix.hB⟩
set_option maxHeartbeats 16000000 in
theorem makerGrow_any (room : Int) (n0 g b : Nat) (l : List Nd) (n : Int) (w : World) (hix : Ix n0 w g b l room) (hr : Right6 l room) :
    Calls Try.prog 95 #[makerV g, .int .i64 n] w (IxK (growZ room l n) n0 g b room w) := by
  have hn0 := hix.hB
  have hM0 := miAt_0 hix
  obtain ⟨q, cap, g0, g1, hrd, hcap, hnd⟩ := ix_rd hM0.ix hr.two
  have m0 := hM0.mkr.c
  have hhs := hasSquare_any (some ⟨q, 0, none⟩) l cap room n _ hrd (by have := hr.small; omega)
  unfold storeV at hhs
  have HM := Lib.hid hM0
  cases hb : hasB l n with
  | false =>
    have hz : growZ room l n = (l, 0, 1) := by unfold growZ; rw [hb]; rfl
    rw [hz]
    rw [hb] at hhs
    clear hix hr hM0 hrd hnd hz hb
    go_enter Try.func95, Try.ntmps95
    go_wp2_with (go_at_call 99; refine hhs.mono ?_; rintro r w1 ⟨rfl, hb1⟩; have H1 := Lib.hid (HM.out.below hn0 hb1); clear hb1 hhs)
    go_ret2
    exact ⟨rfl, H1.out.ix, H1.out.bel⟩
  | true =>
    rw [hb] at hhs
    have hz : growZ room l n = if ¬ (ndAt l n).1 = 42 then growC room l n.toNat ((ndAt l n).1.toNat - 1) else (l, 0, 1) := by
      unfold growZ
      rw [hb, Bool.true_and]
      by_cases h : (ndAt l n).1 = 42
      · rw [if_neg (by simp [h]), if_neg (by simp [h])]
      · rw [if_pos (by simp [h]), if_pos h]
    unfold hasB at hb
    rw [decide_eq_true_eq] at hb
    obtain ⟨h1, h2, h3⟩ := hb
    obtain ⟨k, rfl⟩ : ∃ k : Nat, n = (k : Int) := ⟨n.toNat, by omega⟩
    rw [ndAt_nat] at h3 hz
    have hbd := right_bd hr k (by omega)
    obtain ⟨e, he⟩ : ∃ e : Nat, (l.getD k deadN).1 = (e : Int) + 1 := ⟨((l.getD k deadN).1 - 1).toNat, by omega⟩
    have he41 : e ≤ 41 := by omega
    rw [he, show ((e : Int) + 1).toNat = e + 1 by omega, show e + 1 - 1 = e by omega, Int.toNat_natCast] at hz
    have hkz : (k : Int) < (l.length : Int) := by omega
    have HR := Lib.hid hr
    obtain ⟨z, hzz⟩ : ∃ z, z = growZ room l (k : Int) := ⟨_, rfl⟩
    rw [← hzz] at hz ⊢
    have HZ := Lib.hid hz
    have HE := Lib.hid he
    clear hix hr hM0 hrd hnd hz hzz h1 h2 h3 hbd he
    by_cases h42 : e = 41
    · subst h42
      have hz1 : z = (l, 0, 1) := by rw [HZ.out, if_neg (by simp)]
      subst hz1
      go_enter Try.func95, Try.ntmps95
      go_wp2_with fail
      refine hhs.mono ?_
      rintro r w1 ⟨rfl, hb1⟩
      have H1 := Lib.hid (HM.out.below hn0 hb1)
      obtain ⟨q1, cap1, s0, s1, hrd1, hcap1, hnd1⟩ := ix_rd H1.out.ix HR.out.two
      have nx := (hnd1 k (by omega)).1
      rw [HE.out] at nx
      have nx : w1.cell? ⟨q1, k * 6, none⟩ = some (.int .i64 42) := nx
      have m1 := H1.out.mkr.c
      clear hhs hb1 HM g0 g1 m0 hrd1 hnd1
      go_wp2_with fail
      go_ret2
      exact ⟨rfl, H1.out.ix, H1.out.bel⟩
    · have hz1 : z = growC room l k e := by rw [HZ.out, if_pos (by omega)]
      unfold growC at hz1
      have h42a : ¬ (e : Int) + 1 = 42 := by omega
      have h42b : (((e : Int) + 1) == 42) = false := beq_eq_false_iff_ne.2 (by omega)
      have her := emptyTo_right7 (room := room) HR.out e
      have hie : ixEmpty l room (e : Int) = emptyTo l room e := by unfold ixEmpty; rw [if_pos (by omega), Int.toNat_natCast]
      have HIE := Lib.hid hie
      have HZ1 := Lib.hid hz1
      have HER := Lib.hid her
      clear hz1 her hie HZ
      go_enter Try.func95, Try.ntmps95
      go_wp2_with fail
      refine hhs.mono ?_
      rintro r w1 ⟨rfl, hb1⟩
      have H1 := HM.out.below hn0 hb1
      obtain ⟨q1, cap1, s0, s1, hrd1, hcap1, hnd1⟩ := ix_rd H1.ix HR.out.two
      obtain ⟨x0, x1, x2, x3, x4, x5⟩ := hnd1 k (by omega)
      rw [HE.out] at x0
      have m1 := H1.mkr.c
      obtain ⟨⟨lv, kk, pp⟩, hnode⟩ : ∃ x, x = l.getD k deadN := ⟨_, rfl⟩
      rw [← hnode] at x1 x2 x3 x4 x5
      dsimp only at x1 x2 x3 x4 x5
      have hal := (Below.refl w1.heap.size w1).alloc (Nat.le_refl _) (.cells #[.int .i64 ((e : Int) + 1), .int .i64 kk.1, .int .i64 kk.2.1, .int .i64 kk.2.2.1, .int .i64 kk.2.2.2, .int .i64 pp] 35)
      have H2 := Lib.hid (H1.below hn0 hal)
      have hn2 : NR (w1.alloc (.cells #[.int .i64 ((e : Int) + 1), .int .i64 kk.1, .int .i64 kk.2.1, .int .i64 kk.2.2.1, .int .i64 kk.2.2.2, .int .i64 pp] 35)) w1.heap.size ((e : Int) + 1) kk pp := heap_alloc_new w1 _
      have HN2 := Lib.hid hn2
      have l0 := hn2.lev_
      have m2 := H2.out.mkr.c
      have hwe : IntKind.i64.wrap (e : Int) = (e : Int) := by rw [IntKind.wrap_i64]; omega
      have HND := Lib.hid hnode
      clear hhs hb1 HM g0 g1 m0 hrd1 hnd1 H1 hal hn2 hnode
      go_wp2_with fail
      clear s0 s1 x0 x1 x2 x3 x4 x5 m1 l0 m2
      generalize (w1.alloc (.cells #[.int .i64 ((e : Int) + 1), .int .i64 kk.1, .int .i64 kk.2.1, .int .i64 kk.2.2.1, .int .i64 kk.2.2.2, .int .i64 pp] 35)) = w2 at *
      generalize w1.heap.size = xb at *
      have hem := ixEmpty_anyK n0 g b l room (e : Int) w2 H2.out.ix HR.out H2.out.ix.hB
      rw [HIE.out] at hem
      obtain ⟨⟨m, p, ee⟩, hzz⟩ : ∃ y, y = emptyTo l room e := ⟨_, rfl⟩
      rw [← hzz] at hem
      have HZZ := Lib.hid hzz
      clear hzz
      refine hem.mono ?_
      rintro r w3 ⟨rfl, hi3, hb3⟩
      dsimp only at hi3
      have H3 := H2.out.kp hi3 hb3
      have hal := (Below.refl w3.heap.size w3).alloc (Nat.le_refl _) (.cells #[.int .i64 p] 3)
      have H4 := Lib.hid (H3.below hn0 hal)
      have hrm : Right6 m room := by have := HER.out; rw [← HZZ.out] at this; exact this
      have hG : GcAt (w3.alloc (.cells #[.int .i64 p] 3)) w3.heap.size xb w.heap.size g p ((e : Int) + 1) kk pp := ⟨heap_alloc_new w3 _, (HN2.out.kp hb3.kp).below hal, H4.out.mkr⟩
      have HG := Lib.hid hG
      have HRM := Lib.hid hrm
      clear hem hi3 hb3 H3 hal hG hrm
      by_cases hee : ee = 0
      · subst hee
        have hz1 := HZ1.out
        rw [← HZZ.out, if_pos rfl] at hz1
        dsimp only at hz1
        have hof := of_any 102 (enters_of Try.func102 (by kernel_rfl) rfl) (.pointer (some ⟨w3.heap.size, 0, none⟩)) (.pointer (some ⟨xb, 0, none⟩)) (.pointer (some ⟨w.heap.size, 0, none⟩)) (fun i l' => put6 l' room (growK kk p i)) n0 g b m room _ H4.out.ix HRM.out (fun i l' _ h' => put_right h' _)
          (fun i hi l' W hr' hix' hb => growClos_any room n0 g b _ _ _ l' p _ kk pp hi W hix' hr' (HG.out.kp hb.kp))
        have hkk : (l.getD k deadN).2.1 = kk := by rw [← HND.out]
        rw [hkk] at hz1
        rw [← hz1] at hof
        have m4 := H4.out.mkr.c
        have hmf : ∀ (fn : Fn) (first cap : Array Value) (W : World), (Instr.makeFunc fn first cap).run Try.prog W = .ok (.func fn first cap) W := fun _ _ _ _ => rfl
        obtain ⟨m9, p9, e9⟩ := z
        clear hz1 hkk HZ1
        go_wp2_with fail
        refine hof.mono ?_
        rintro r w5 ⟨rfl, hi5, hb5⟩
        have HI := Lib.hid hi5
        have HBF := Lib.hid (H4.out.bel.trans hb5)
        clear hof hi5 hb5 m4 hmf
        go_wp2_with fail
        go_ret2
        exact ⟨rfl, HI.out, HBF.out⟩
      · have hz1 : z = (m, 0, ee) := by
          rw [HZ1.out, ← HZZ.out, if_neg hee]
        subst hz1
        clear HZ1
        go_wp2_with fail
        go_ret2
        exact ⟨rfl, H4.out.ix, H4.out.bel⟩
/-- what Grow answers -/
def grow7 (l : List Nd) (room n : Int) : List Nd × Int × Int := grown6 l room (growZ room l n)
end Go.Proofs.Ytgjibpgfcbdpgaa
namespace Go.Proofs.Ytgjibpgfcbdpgaa
set_option maxRecDepth 100000
set_option linter.unusedVariables false
set_option linter.unusedSimpArgs false
open Go.RowKit Go.Sort

/-- what is in boxes within Get: the store, the cell -/
structure GbAt (w wr : World) (A : Option Addr) (n c : Nat) (room : Int) (k : Int × Int) : Prop where
  store : wr.heap[w.heap.size]? = some (.cells #[.slice A n c, .int .i64 room] 26 (0, 0))
  cl : ClB wr (w.heap.size + 1) k
  bel : Below w.heap.size w wr
section
variable {w wr w' : World} {A : Option Addr} {n c : Nat} {room : Int} {k : Int × Int}
theorem GbAt.below (h : GbAt w wr A n c room k) (hb : Below wr.heap.size wr w') : GbAt w w' A n c room k := ⟨(hb.block _ (lt_heap6 h.store)).trans h.store, h.cl.below hb, Qt.more h.bel h.bel.size hb⟩
theorem GbAt.s0 (h : GbAt w wr A n c room k) : wr.cell? ⟨w.heap.size, 0, none⟩ = some (.slice A n c) := by rw [Lib.cell_of_heap h.store]; rfl
theorem GbAt.s1 (h : GbAt w wr A n c room k) : wr.cell? ⟨w.heap.size, 1, none⟩ = some (.int .i64 room) := by rw [Lib.cell_of_heap h.store]; rfl
/-- the cell is told anew -/
theorem GbAt.cell (h : GbAt w wr A n c room k) (x y : Int) : GbAt w ((wr.setCell ⟨w.heap.size + 1, 0, none⟩ (.int .i64 x)).setCell ⟨w.heap.size + 1, 1, none⟩ (.int .i64 y)) A n c room (x, y) := by
  have hr := h.cl.row
  refine ⟨?_, ⟨?_⟩, (h.bel.setCell (by show _ ≤ _ + 1; omega) _).setCell (by show _ ≤ _ + 1; omega) _⟩
  · rw [Below.heap_setCell _ _ _ _ (by show w.heap.size ≠ w.heap.size + 1; omega), Below.heap_setCell _ _ _ _ (by show w.heap.size ≠ w.heap.size + 1; omega)]; exact h.store
  · simp [World.setCell, Array.getElem?_modify, hr]
end
theorem NR.all {w : World} {b : Nat} {lev : Int} {k : Kd} {pop : Int} (h : NR w b lev k pop) : NdAt w b 0 (lev, k, pop) := by
  refine ⟨?_, ?_, ?_, ?_, ?_, ?_⟩ <;> (rw [Lib.cell_of_heap h]; rfl)
/-- a node is told anew -/
theorem NR.told {w : World} {b : Nat} {lev : Int} {k : Kd} {pop : Int} (h : NR w b lev k pop) (x : Nd) :
    NR ((((((w.setCell ⟨b, 0, none⟩ (.int .i64 x.1)).setCell ⟨b, 1, none⟩ (.int .i64 x.2.1.1)).setCell ⟨b, 2, none⟩ (.int .i64 x.2.1.2.1)).setCell ⟨b, 3, none⟩ (.int .i64 x.2.1.2.2.1)).setCell ⟨b, 4, none⟩ (.int .i64 x.2.1.2.2.2)).setCell ⟨b, 5, none⟩ (.int .i64 x.2.2)) b x.1 x.2.1 x.2.2 := by
  unfold NR at h ⊢
  simp [World.setCell, Array.getElem?_modify, h]
end Go.Proofs.Ytgjibpgfcbdpgaa
namespace Go.Proofs.Ytgjibpgfcbdpgaa
set_option maxRecDepth 100000
set_option linter.unusedVariables false
set_option linter.unusedSimpArgs false

/-- where a quarter's corner is -/
def corner7 (k : Nat) (p : Int × Int) (i : Nat) : Int × Int := (p.1 + ((i % 2 : Nat) : Int) * 2 ^ k, p.2 + ((i / 2 : Nat) : Int) * 2 ^ k)
/-- the cells of a node, whose square's corner is known -/
def flat (l : List Nd) : Nat → Nat → Int × Int → List (Int × Int)
  | 0, n, p => if n = 1 then [p] else []
  | k + 1, n, p => flat l k (kidN l n 0) (corner7 k p 0) ++ flat l k (kidN l n 1) (corner7 k p 1) ++ flat l k (kidN l n 2) (corner7 k p 2) ++ flat l k (kidN l n 3) (corner7 k p 3)
/-- of the first quarters -/
def flatTo (l : List Nd) (k n : Nat) (p : Int × Int) : Nat → List (Int × Int)
  | 0 => []
  | i + 1 => flatTo l k n p i ++ flat l k (kidN l n i) (corner7 k p i)
theorem flatTo_all (l : List Nd) (k n : Nat) (p : Int × Int) : flatTo l k n p 4 = flat l (k + 1) n p := by
  simp [flatTo, flat]
theorem flatTo_len (l : List Nd) (k n : Nat) (p : Int × Int) : ∀ i j, i ≤ j → (flatTo l k n p i).length ≤ (flatTo l k n p j).length := by
  intro i j h
  obtain ⟨d, rfl⟩ : ∃ d, j = i + d := ⟨j - i, by omega⟩
  clear h
  induction d with
  | zero => exact Nat.le_refl _
  | succ d ih =>
    refine Nat.le_trans ih ?_
    show _ ≤ (flatTo l k n p (i + d) ++ _).length
    rw [List.length_append]
    omega
/-- a node's cells are counted -/
theorem flat_pop {l : List Nd} {room : Int} (hr : Right6 l room) : ∀ (k n : Nat) (p : Int × Int), Is l k n → (l.getD n deadN).2.2 = min ((flat l k n p).length : Int) 4611686018427387903
  | 0, n, p, h => by
    have := h.zero hr
    rcases (by omega : n = 0 ∨ n = 1) with rfl | rfl
    · rw [hr.dead]; rfl
    · rw [hr.live]; rfl
  | k + 1, n, p, h => by
    have hf := fits_iff.1 (hr.fits n (h.two hr) h.lt)
    have hk : ∀ i, i < 4 → (ndAt l (kd (l.getD n deadN).2.1 i)).2.2 = min ((flat l k (kidN l n i) (corner7 k p i)).length : Int) 4611686018427387903 := fun i hi => by
      rw [kid_cast hr h hi, ndAt_nat]
      exact flat_pop hr k _ _ (kid_is hr h hi)
    rw [hf.pop, popTo_sum (fun i hi => by rw [hk i hi]; omega)]
    have h0 := hk 0 (by decide)
    have h1 := hk 1 (by decide)
    have h2 := hk 2 (by decide)
    have h3 := hk 3 (by decide)
    simp only [kd] at h0 h1 h2 h3
    rw [h0, h1, h2, h3]
    show _ = min (((flat l k (kidN l n 0) (corner7 k p 0) ++ flat l k (kidN l n 1) (corner7 k p 1) ++ flat l k (kidN l n 2) (corner7 k p 2) ++ flat l k (kidN l n 3) (corner7 k p 3)).length : Nat) : Int) _
    simp only [List.length_append]
    omega
theorem flat_dead {l : List Nd} {room : Int} (hr : Right6 l room) {k n : Nat} (p : Int × Int) (h : Is l k n) (h0 : (l.getD n deadN).2.2 = 0) : flat l k n p = [] := by
  have := flat_pop hr k n p h
  exact List.eq_nil_of_length_eq_zero (by omega)
/-- a square from a corner on -/
def InAt7 (k : Nat) (p c : Int × Int) : Prop := p.1 ≤ c.1 ∧ c.1 < p.1 + 2 ^ k ∧ p.2 ≤ c.2 ∧ c.2 < p.2 + 2 ^ k
theorem quarter_of {k : Nat} {p c : Int × Int} (h : InAt7 (k + 1) p c) : InAt7 k (corner7 k p (q7 k (c.1 - p.1, c.2 - p.2))) c ∧ ∀ i, i < 4 → InAt7 k (corner7 k p i) c → i = q7 k (c.1 - p.1, c.2 - p.2) := by
  obtain ⟨h1, h2, h3, h4⟩ := h
  have e : (2 : Int) ^ (k + 1) = 2 ^ k * 2 := Int.pow_succ ..
  have hp := pow_pos7 k
  rw [e] at h2 h4
  have key : ∀ x : Int, 0 ≤ x → x < 2 ^ k * 2 → (x / 2 ^ k = 0 ∧ x < 2 ^ k) ∨ (x / 2 ^ k = 1 ∧ 2 ^ k ≤ x) := fun x hx0 hx1 => by
    by_cases hx : x < 2 ^ k
    · exact .inl ⟨Int.ediv_eq_zero_of_lt hx0 hx, hx⟩
    · refine .inr ⟨?_, by omega⟩
      have : x = (x - 2 ^ k) + 2 ^ k * 1 := by omega
      rw [this, Int.add_mul_ediv_left _ _ (by omega), Int.ediv_eq_zero_of_lt (by omega) (by omega)]
      omega
  have ha := key (c.1 - p.1) (by omega) (by omega)
  have hb := key (c.2 - p.2) (by omega) (by omega)
  have hq := q7_cast k (c.1 - p.1, c.2 - p.2)
  have hq4 := q7_lt k (c.1 - p.1, c.2 - p.2)
  simp only at hq
  generalize q7 k (c.1 - p.1, c.2 - p.2) = q at *
  generalize (c.1 - p.1) / 2 ^ k = a at *
  generalize (c.2 - p.2) / 2 ^ k = b at *
  have hcor : ∀ i, i < 4 → corner7 k p i = (p.1 + (if i = 1 ∨ i = 3 then 2 ^ k else 0), p.2 + (if i = 2 ∨ i = 3 then 2 ^ k else 0)) := fun i hi => by
    unfold corner7
    rcases (by omega : i = 0 ∨ i = 1 ∨ i = 2 ∨ i = 3) with rfl | rfl | rfl | rfl <;> simp
  generalize (2 : Int) ^ k = s at *
  constructor
  · unfold InAt7
    rw [hcor q hq4]
    rcases (by omega : q = 0 ∨ q = 1 ∨ q = 2 ∨ q = 3) with rfl | rfl | rfl | rfl <;> simp <;> omega
  · intro i hi hin
    unfold InAt7 at hin
    rw [hcor i hi] at hin
    rcases (by omega : i = 0 ∨ i = 1 ∨ i = 2 ∨ i = 3) with rfl | rfl | rfl | rfl <;> simp at hin <;> omega
theorem corner_in {k : Nat} {p c : Int × Int} {i : Nat} (hi : i < 4) (h : InAt7 k (corner7 k p i) c) : InAt7 (k + 1) p c := by
  have e : (2 : Int) ^ (k + 1) = 2 ^ k * 2 := Int.pow_succ ..
  have hp := pow_pos7 k
  unfold InAt7 corner7 at *
  rw [e]
  generalize (2 : Int) ^ k = s at *
  rcases (by omega : i = 0 ∨ i = 1 ∨ i = 2 ∨ i = 3) with rfl | rfl | rfl | rfl <;> simp at h ⊢ <;> omega
theorem agree_corner (k : Nat) (p c : Int × Int) (i : Nat) : Agree k (c.1 - (corner7 k p i).1, c.2 - (corner7 k p i).2) (c.1 - p.1, c.2 - p.2) := by
  have h := agree_shift (c.1 - p.1, c.2 - p.2) (-((i % 2 : Nat) : Int)) (-((i / 2 : Nat) : Int)) k
  have e1 : c.1 - (corner7 k p i).1 = c.1 - p.1 + 2 ^ k * (-((i % 2 : Nat) : Int)) := by
    unfold corner7
    simp only
    rw [Int.mul_neg, Int.mul_comm]
    omega
  have e2 : c.2 - (corner7 k p i).2 = c.2 - p.2 + 2 ^ k * (-((i / 2 : Nat) : Int)) := by
    unfold corner7
    simp only
    rw [Int.mul_neg, Int.mul_comm]
    omega
  rw [e1, e2]
  exact h
/-- what is in the list is what is alive -/
theorem mem_flat {l : List Nd} : ∀ (k n : Nat) (p c : Int × Int), c ∈ flat l k n p ↔ InAt7 k p c ∧ alive l k n (c.1 - p.1, c.2 - p.2) = true
  | 0, n, p, c => by
    unfold flat alive InAt7
    have h1 : (2 : Int) ^ 0 = 1 := rfl
    rw [h1]
    by_cases hn : n = 1
    · rw [if_pos hn]
      simp only [List.mem_singleton, decide_eq_true_eq]
      constructor
      · rintro rfl; exact ⟨by omega, hn⟩
      · rintro ⟨h, _⟩; exact Prod.ext (by omega) (by omega)
    · rw [if_neg hn]
      simp [hn]
  | k + 1, n, p, c => by
    have ih := fun i => mem_flat (l := l) k (kidN l n i) (corner7 k p i) c
    have hone : c ∈ flat l (k + 1) n p ↔ ∃ i, i < 4 ∧ c ∈ flat l k (kidN l n i) (corner7 k p i) := by
      show c ∈ _ ++ _ ++ _ ++ _ ↔ _
      simp only [List.mem_append]
      constructor
      · rintro (((h | h) | h) | h)
        · exact ⟨0, by decide, h⟩
        · exact ⟨1, by decide, h⟩
        · exact ⟨2, by decide, h⟩
        · exact ⟨3, by decide, h⟩
      · rintro ⟨i, hi, h⟩
        rcases (by omega : i = 0 ∨ i = 1 ∨ i = 2 ∨ i = 3) with rfl | rfl | rfl | rfl
        · exact .inl (.inl (.inl h))
        · exact .inl (.inl (.inr h))
        · exact .inl (.inr h)
        · exact .inr h
    rw [hone]
    constructor
    · rintro ⟨i, hi, h⟩
      obtain ⟨h1, h2⟩ := (ih i).1 h
      have hin := corner_in hi h1
      have hq := (quarter_of hin).2 i hi h1
      refine ⟨hin, ?_⟩
      show alive l k (kidN l n (q7 k (c.1 - p.1, c.2 - p.2))) _ = true
      rw [← hq, ← alive_agree k _ (agree_corner k p c i)]
      exact h2
    · rintro ⟨hin, h2⟩
      refine ⟨q7 k (c.1 - p.1, c.2 - p.2), q7_lt _ _, (ih _).2 ⟨(quarter_of hin).1, ?_⟩⟩
      rw [alive_agree k _ (agree_corner k p c _)]
      exact h2
/-- no cell is there twice -/
theorem flat_nodup {l : List Nd} : ∀ (k n : Nat) (p : Int × Int), (flat l k n p).Nodup
  | 0, n, p => by
    unfold flat
    split
    · simp
    · exact List.nodup_nil
  | k + 1, n, p => by
    have hd : ∀ i j, i < 4 → j < 4 → i ≠ j → ∀ a ∈ flat l k (kidN l n i) (corner7 k p i), ∀ b ∈ flat l k (kidN l n j) (corner7 k p j), a ≠ b := by
      intro i j hi hj hij a ha b hb e
      subst e
      have h1 := ((mem_flat k _ _ _).1 ha).1
      have h2 := ((mem_flat k _ _ _).1 hb).1
      have hin := corner_in hi h1
      exact hij (((quarter_of hin).2 i hi h1).trans ((quarter_of hin).2 j hj h2).symm)
    show List.Nodup (flat l k (kidN l n 0) (corner7 k p 0) ++ flat l k (kidN l n 1) (corner7 k p 1) ++ flat l k (kidN l n 2) (corner7 k p 2) ++ flat l k (kidN l n 3) (corner7 k p 3))
    have h0 := flat_nodup (l := l) k (kidN l n 0) (corner7 k p 0)
    have h1 := flat_nodup (l := l) k (kidN l n 1) (corner7 k p 1)
    have h2 := flat_nodup (l := l) k (kidN l n 2) (corner7 k p 2)
    have h3 := flat_nodup (l := l) k (kidN l n 3) (corner7 k p 3)
    simp only [List.nodup_append, List.mem_append]
    refine ⟨⟨⟨h0, h1, hd 0 1 (by decide) (by decide) (by decide)⟩, h2, ?_⟩, h3, ?_⟩
    · rintro a (ha | ha) b hb
      · exact hd 0 2 (by decide) (by decide) (by decide) a ha b hb
      · exact hd 1 2 (by decide) (by decide) (by decide) a ha b hb
    · rintro a ((ha | ha) | ha) b hb
      · exact hd 0 3 (by decide) (by decide) (by decide) a ha b hb
      · exact hd 1 3 (by decide) (by decide) (by decide) a ha b hb
      · exact hd 2 3 (by decide) (by decide) (by decide) a ha b hb
end Go.Proofs.Ytgjibpgfcbdpgaa
namespace Go.Proofs.Ytgjibpgfcbdpgaa
set_option maxRecDepth 100000
set_option linter.unusedVariables false
set_option linter.unusedSimpArgs false
open Go.RowKit Go.Sort

/-- what an append of some cells leaves -/
structure GrA (w w' : World) (v v' : Value) : Prop where
  grown : w.grownBy w' v.ownBlock
  own : v'.ownBlock = v.ownBlock ∨ ∃ q, v'.ownBlock = some q ∧ w.heap.size ≤ q
theorem GrA.refl (w : World) (v : Value) : GrA w w v v := ⟨⟨rfl, rfl, rfl, Nat.le_refl _, fun _ _ _ => rfl⟩, .inl rfl⟩
theorem GrA.trans {w w1 w2 : World} {v v1 v2 : Value} (h : GrA w w1 v v1) (h2 : GrA w1 w2 v1 v2) : GrA w w2 v v2 := by
  have hsz := h.grown.size
  refine ⟨⟨h2.grown.os.trans h.grown.os, h2.grown.tape.trans h.grown.tape, h2.grown.output.trans h.grown.output, Nat.le_trans hsz h2.grown.size, fun i hi hne => ?_⟩, ?_⟩
  · rw [h2.grown.block i (by omega) ?_, h.grown.block i hi hne]
    rcases h.own with e | ⟨q, e, hq⟩
    · rw [e]; exact hne
    · rw [e]; intro h3; injection h3 with h3; omega
  · rcases h2.own with e | ⟨q, e, hq⟩
    · rw [e]; exact h.own
    · exact .inr ⟨q, e, by omega⟩
theorem GrA.below {w w' : World} {v : Value} (hb : Below w.heap.size w w') : GrA w w' v v := ⟨⟨hb.os, hb.tape, hb.output, hb.size, fun i hi _ => hb.block i hi⟩, .inl rfl⟩
theorem GrA.bel {w w' : World} {v v' : Value} {B : Nat} {l : List (Int × Int)} (h : GrA w w' v v') (ho : OwnC w B v l) (hB : B ≤ w.heap.size) : Below B w w' :=
  (Below.refl B w).grown h.grown hB (fun r e => (World.ownsRow.lt ho r e).1)
theorem GrA.push {w w' : World} {v v' : Value} {o : Obj} (hg : (w.alloc o).grownBy w' v.ownBlock) (hw : v'.ownBlock = v.ownBlock ∨ v'.ownBlock = some (w.heap.size + 1)) : GrA w w' v v' := by
  have hs : (w.alloc o).heap.size = w.heap.size + 1 := by simp
  have hsz := hg.size
  refine ⟨⟨hg.os, hg.tape, hg.output, by omega, fun i hi hne => ?_⟩, ?_⟩
  · rw [hg.block i (by omega) hne, Lib.alloc_old _ _ _ hi]
  · rcases hw with e | e
    · exact .inl e
    · exact .inr ⟨_, e, by omega⟩
/-- a node's box and its corner's, while cells are appended -/
structure GaAt (n : Nat) (w2 wr : World) (v v' : Value) (p : Int × Int) (lev : Int) (kk : Kd) (pp : Int) : Prop where
  cl : ClB wr n p
  nd : NR wr (n + 1) lev kk pp
  gr : GrA w2 wr v v'
  sz : w2.heap.size = n + 2
  low : ∀ q, v.ownBlock = some q → q < n
section
variable {n : Nat} {w2 wr w' : World} {v v1 v2 : Value} {p : Int × Int} {lev : Int} {kk : Kd} {pp : Int}
theorem GaAt.next (h : GaAt n w2 wr v v1 p lev kk pp) (hg : GrA wr w' v1 v2) : GaAt n w2 w' v v2 p lev kk pp := by
  have hne : ∀ i, i < n + 2 → n ≤ i → some i ≠ v1.ownBlock := fun i hi hn e => by
    rcases h.gr.own with e1 | ⟨q, e1, hq⟩
    · rw [e1] at e
      have := h.low i e.symm
      omega
    · rw [e1] at e
      injection e with e
      have := h.sz
      omega
  exact ⟨⟨(hg.grown.block _ (lt_heap6 h.cl.row) (hne n (by omega) (Nat.le_refl _))).trans h.cl.row⟩, (hg.grown.block _ (lt_heap6 h.nd) (hne (n + 1) (by omega) (by omega))).trans h.nd, h.gr.trans hg, h.sz, h.low⟩
end
end Go.Proofs.Ytgjibpgfcbdpgaa
namespace Go.Proofs.Ytgjibpgfcbdpgaa.Cel
open Go.RowKit Go.Sort

/-- Has: whether a cell is in a list -/
def hasB (l : List (Int × Int)) (q : Int × Int) : Bool := l.any fun p => decide (p = q)
end Go.Proofs.Ytgjibpgfcbdpgaa.Cel
namespace Go.Proofs.Ytgjibpgfcbdpgaa.Cel
open Go.RowKit Go.Sort

/-! ### in plain words -/
def ddS (acc : List (Int × Int)) (x : Int × Int) : List (Int × Int) := if acc.getLast? = some x then acc else acc ++ [x]
def ddL (l : List (Int × Int)) : List (Int × Int) := l.foldl ddS []
theorem ddL_snoc (l : List (Int × Int)) (x : Int × Int) : ddL (l ++ [x]) = ddS (ddL l) x := by simp [ddL, List.foldl_append]

theorem snoc_ind {P : List (Int × Int) → Prop} (h0 : P []) (hs : ∀ l x, P l → P (l ++ [x])) (l : List (Int × Int)) : P l := by
  have h : ∀ m : List (Int × Int), P m.reverse := by
    intro m
    induction m with
    | nil => exact h0
    | cons x m ih => rw [List.reverse_cons]; exact hs _ _ ih
  have := h l.reverse
  rwa [List.reverse_reverse] at this

theorem last_ddL (l : List (Int × Int)) : (ddL l).getLast? = l.getLast? := by
  refine snoc_ind (P := fun l => (ddL l).getLast? = l.getLast?) rfl (fun l x ih => ?_) l
  show (ddL (l ++ [x])).getLast? = (l ++ [x]).getLast?
  rw [ddL_snoc, ddS]
  split
  · rename_i h; rw [h]; simp
  · simp
theorem ddL_same {l : List (Int × Int)} {k : Nat} (h0 : 0 < k) (hk : k < l.length) (h : l.getD k (0, 0) = l.getD (k - 1) (0, 0)) : ddL (l.take (k + 1)) = ddL (l.take k) := by
  rw [take_snoc hk, ddL_snoc, ddS, last_ddL]
  have : (l.take k).getLast? = some (l.getD (k - 1) (0, 0)) := by
    rw [List.getLast?_eq_getElem?, List.length_take, Nat.min_eq_left (by omega), List.getElem?_take, if_pos (by omega), List.getD_eq_getElem?_getD, List.getElem?_eq_getElem (by omega)]
    rfl
  rw [this, h, if_pos rfl]
theorem ddL_other {l : List (Int × Int)} {k : Nat} (hk : k < l.length) (h : k = 0 ∨ l.getD k (0, 0) ≠ l.getD (k - 1) (0, 0)) : ddL (l.take (k + 1)) = ddL (l.take k) ++ [l.getD k (0, 0)] := by
  rw [take_snoc hk, ddL_snoc, ddS, last_ddL, if_neg]
  rcases h with h | h
  · subst h; simp
  · by_cases h0 : k = 0
    · subst h0; simp
    · have : (l.take k).getLast? = some (l.getD (k - 1) (0, 0)) := by
        rw [List.getLast?_eq_getElem?, List.length_take, Nat.min_eq_left (by omega), List.getElem?_take, if_pos (by omega), List.getD_eq_getElem?_getD, List.getElem?_eq_getElem (by omega)]
        rfl
      rw [this]
      intro e
      exact h (Option.some.inj e).symm

/-! ### clear -/
theorem fl_take (l : List (Int × Int)) (k : Nat) : fl (l.take k) = (fl l).take (k * 2) := by
  induction l generalizing k with
  | nil => simp [fl]
  | cons x l ih =>
    cases k with
    | zero => rfl
    | succ k =>
      have e1 : (k + 1) * 2 = k * 2 + 1 + 1 := by omega
      have e2 : ∀ (q : Int × Int) (m : List (Int × Int)), fl (q :: m) = .int .i64 q.1 :: .int .i64 q.2 :: fl m := fun _ _ => rfl
      rw [List.take_succ_cons, e2, e2, ih, e1]
      rfl

theorem Row.cut {w : World} {B T g n cap k : Nat} {l : List (Int × Int)} (h : Row w B T g n cap l) (hk : k ≤ n) : Row w B T g k cap (l.take k) := by
  obtain ⟨hn, hlen, h' | ⟨g', cap', cur, hv, hB, hg, hnc, hcm, hcs, htake⟩⟩ := h
  · simp at h'
  · simp only [Value.slice.injEq, Option.some.injEq, Addr.mk.injEq, and_true, true_and] at hv
    obtain ⟨rfl, rfl⟩ := hv
    have e := fl_take l k
    refine ⟨by rw [List.length_take]; omega, by rw [length_fl, List.length_take]; omega, .inr ⟨g, cap, cur, rfl, hB, hg, by omega, hcm, hcs, ?_⟩⟩
    rw [e, ← htake, List.take_take, Nat.min_eq_left (by omega)]

/-- What the second loop has done: the first kk places hold what is kept of the first p. -/
structure Packs (l : List (Int × Int)) (p kk : Nat) (cur : List (Int × Int)) : Prop where
  len : cur.length = l.length
  kept : cur.take kk = ddL (l.take p)
  size : (ddL (l.take p)).length = kk
  lt : kk < p
  high : ∀ j, p ≤ j + 1 → cur.getD j (0, 0) = l.getD j (0, 0)

theorem Packs.skip {l cur : List (Int × Int)} {p kk : Nat} (h : Packs l p kk cur) (h0 : 0 < p) (hp : p < l.length) (he : l.getD p (0, 0) = l.getD (p - 1) (0, 0)) : Packs l (p + 1) kk cur := by
  have e := ddL_same h0 hp he
  exact ⟨h.len, by rw [e]; exact h.kept, by rw [e]; exact h.size, by have := h.lt; omega, fun j hj => h.high j (by omega)⟩
theorem Packs.keep {l cur : List (Int × Int)} {p kk : Nat} (h : Packs l p kk cur) (hp : p < l.length) (he : l.getD p (0, 0) ≠ l.getD (p - 1) (0, 0)) : Packs l (p + 1) (kk + 1) (cur.set kk (l.getD p (0, 0))) := by
  have e := ddL_other hp (.inr he)
  have hlt := h.lt
  have hkl : kk < cur.length := by rw [h.len]; omega
  refine ⟨by rw [List.length_set]; exact h.len, ?_, by rw [e]; simp [h.size], by omega, fun j hj => ?_⟩
  · rw [e, ← h.kept]
    apply List.ext_getElem?
    intro i
    rw [List.getElem?_take]
    by_cases hi : i < kk
    · rw [if_pos (by omega), List.getElem?_set_ne (by omega), List.getElem?_append_left (by rw [List.length_take]; omega), List.getElem?_take, if_pos hi]
    · by_cases hi2 : i = kk
      · subst hi2
        rw [if_pos (by omega), List.getElem?_set_self hkl, List.getElem?_append_right (by rw [List.length_take]; omega)]
        have : i - (List.take i cur).length = 0 := by rw [List.length_take]; omega
        rw [this]
        rfl
      · rw [if_neg (by omega), List.getElem?_append_right (by rw [List.length_take]; omega), List.getElem?_eq_none]
        rw [List.length_take]; simp; omega
  · rw [← h.high j (by omega), List.getD_eq_getElem?_getD, List.getElem?_set_ne (by omega), List.getD_eq_getElem?_getD]

end Go.Proofs.Ytgjibpgfcbdpgaa.Cel
namespace Go.Proofs.Ytgjibpgfcbdpgaa
set_option maxRecDepth 100000
set_option linter.unusedVariables false
set_option linter.unusedSimpArgs false
open Go.RowKit Go.Sort

/-- the cells of a node, about the middle -/
def about7 (l : List Nd) (e n : Nat) : List (Int × Int) := flat l (e + 1) n (-(2 ^ e), -(2 ^ e))
/-- what Cells answers -/
def cells7 (l : List Nd) (room n : Int) : List (Int × Int) × Int :=
  if (right6 l room && hasB l n) = true then
    (if 2000 < (ndAt l n).2.2 then ([], 3) else if ((about7 l ((ndAt l n).1.toNat - 1) n.toNat).any fun p => !Cel.inB p) = true then ([], 2) else (Cel.setL (about7 l ((ndAt l n).1.toNat - 1) n.toNat), 0))
  else ([], 1)
end Go.Proofs.Ytgjibpgfcbdpgaa
namespace Go.Proofs.Ytgjibpgfcbdpgaa
set_option maxRecDepth 100000
set_option linter.unusedVariables false
set_option linter.unusedSimpArgs false

theorem kid_alive (l : List Nd) (k n : Nat) {i : Nat} (hi : i < 4) (c : Int × Int) : ∃ c', q7 k c' = i ∧ Agree k c' c ∧ alive l k (kidN l n i) c = alive l (k + 1) n c' := by
  obtain ⟨c', h1, h2⟩ := with_bit k i c hi
  refine ⟨c', h1, h2, ?_⟩
  show _ = alive l k (kidN l n (q7 k c')) c'
  rw [h1, alive_agree k _ h2]
/-- a node without cells is the empty one of its level -/
theorem emp_of {l : List Nd} {room : Int} (hr : Right6 l room) : ∀ (k n : Nat), Is l k n → (∀ c, alive l k n c = false) → Emp l k n
  | 0, n, h, ha => by
    have h0 : decide (n = 1) = false := ha (0, 0)
    have h1 := h.zero hr
    have h2 : ¬ n = 1 := by simpa using h0
    show n = 0
    omega
  | k + 1, n, h, ha => by
    have hk : ∀ i, i < 4 → ∀ c, alive l k (kidN l n i) c = false := fun i hi c => by
      obtain ⟨c', _, _, e⟩ := kid_alive l k n hi c
      rw [e]
      exact ha c'
    have he : ∀ i, i < 4 → kidN l n i = kidN l n 0 := fun i hi => alive_inj hr k _ _ (kid_is hr h hi) (kid_is hr h (by decide)) fun c => by rw [hk i hi c, hk 0 (by decide) c]
    have h0 := emp_of hr k _ (kid_is hr h (i := 0) (by decide)) (hk 0 (by decide))
    refine ⟨kidN l n 0, h0, ?_⟩
    have f1 := (fits_iff.1 (hr.fits n (h.two hr) h.lt)).first
    have e : (l.getD n deadN).2.1 = (((kidN l n 0 : Nat) : Int), ((kidN l n 0 : Nat) : Int), ((kidN l n 0 : Nat) : Int), ((kidN l n 0 : Nat) : Int)) := kd_ext fun i hi => by rw [kid_cast hr h hi, he i hi, kd_four _ i hi]
    rw [e] at f1
    exact f1
theorem kids_fit7 {l : List Nd} {room : Int} (hr : Right6 l room) {k n : Nat} (h : Is l (k + 1) n) (hk : k + 1 ≤ 42) : Fit4 l (l.getD n deadN).2.1 := by
  refine ⟨fun i hi => ?_, ?_⟩
  · have hi' := kid_is hr h hi
    have h0 := kid_is hr h (i := 0) (by decide)
    have c0 : (l.getD n deadN).2.1.1 = _ := kid_cast hr h (i := 0) (by decide)
    rw [kid_cast hr h hi, c0, ndAt_nat, ndAt_nat, hi'.lev, h0.lev]
    exact ⟨by omega, by have := hi'.lt; omega, rfl⟩
  · have h0 := kid_is hr h (i := 0) (by decide)
    have c0 : (l.getD n deadN).2.1.1 = _ := kid_cast hr h (i := 0) (by decide)
    rw [c0, ndAt_nat, h0.lev]
    omega
/-- a node that is there is found -/
theorem build_had {l : List Nd} {room : Int} (hr : Right6 l room) : ∀ (k n : Nat) (S : List (Int × Int)), k ≤ 42 → Is l k n → (∀ c, alive l k n c = S.any fun s => agreeB k s c) → buildC room k l S = (l, (n : Int), 0)
  | 0, n, S, _, h, ha => by
    have h0 : decide (n = 1) = S.any fun s => agreeB 0 s (0, 0) := ha (0, 0)
    have h1 := h.zero hr
    unfold buildC
    by_cases hS : S = []
    · subst hS
      have : ¬ n = 1 := by simpa using h0
      obtain rfl : n = 0 := by omega
      rfl
    · rw [if_neg hS]
      obtain ⟨s, t, rfl⟩ := List.exists_cons_of_ne_nil hS
      have e : agreeB 0 s (0, 0) = true := rfl
      rw [List.any_cons, e, Bool.true_or] at h0
      obtain rfl : n = 1 := by simpa using h0
      rfl
  | k + 1, n, S, hk, h, ha => by
    by_cases hS : S = []
    · subst hS
      rw [buildC_nil]
      exact empty_had hr _ _ hk (emp_of hr _ _ h fun c => by rw [ha c]; rfl)
    · unfold buildC
      rw [if_neg hS]
      have hq : ∀ i, i < 4 → buildC room k l (S.filter fun c => decide (q7 k c = i)) = (l, ((kidN l n i : Nat) : Int), 0) := fun i hi => by
        refine build_had hr k _ _ (by omega) (kid_is hr h hi) fun c => ?_
        obtain ⟨c', h1, h2, e⟩ := kid_alive l k n hi c
        rw [e, ha c', Bool.eq_iff_iff, List.any_eq_true, List.any_eq_true]
        constructor
        · rintro ⟨s, hs, hs2⟩
          obtain ⟨g1, g2⟩ := agree_succ.1 (agree_iff.1 hs2)
          exact ⟨s, List.mem_filter.2 ⟨hs, by simpa using g1.trans h1⟩, agree_iff.2 (g2.trans h2)⟩
        · rintro ⟨s, hs, hs2⟩
          obtain ⟨g1, g2⟩ := List.mem_filter.1 hs
          have g3 : q7 k s = i := by simpa using g2
          exact ⟨s, g1, agree_iff.2 (agree_succ.2 ⟨g3.trans h1.symm, (agree_iff.1 hs2).trans h2.symm⟩)⟩
      have h4 : fourTo (fun i l => buildC room k l (S.filter fun c => decide (q7 k c = i))) l 4 = (l, (l.getD n deadN).2.1, 0) := by
        have e : (l.getD n deadN).2.1 = (((kidN l n 0 : Nat) : Int), ((kidN l n 1 : Nat) : Int), ((kidN l n 2 : Nat) : Int), ((kidN l n 3 : Nat) : Int)) := kd_ext fun i hi => by
          rw [kid_cast hr h hi]
          rcases (by omega : i = 0 ∨ i = 1 ∨ i = 2 ∨ i = 3) with rfl | rfl | rfl | rfl <;> rfl
        have q0 := hq 0 (by decide)
        have q1 := hq 1 (by decide)
        have q2 := hq 2 (by decide)
        have q3 := hq 3 (by decide)
        rw [e]
        simp only [fourTo, q0, q1, q2, q3, if_pos, kset]
      unfold four
      rw [h4, if_pos rfl]
      exact put_again (kids_fit7 hr h hk) (fits_iff.1 (hr.fits n (h.two hr) h.lt)).first

/-- A node that stands for a set. -/
structure Sq (l : List Nd) (room : Int) (e n : Nat) (S : List (Int × Int)) : Prop where
  right : Right6 l room
  is : Is l (e + 1) n
  low : e ≤ 41
  set : Cel.rightB S = true
  ins : ∀ s ∈ S, insideB e s = true
  alive : ∀ c, alive l (e + 1) n c = (S.map (inwardC e)).any fun s => agreeB (e + 1) s c
section
variable {l m : List Nd} {room : Int} {e n p : Nat} {S T : List (Int × Int)}
theorem Sq.grows (h : Sq l room e n S) (g : Grows l m) (hr : Right6 m room) : Sq m room e n S := ⟨hr, h.is.grows g, h.low, h.set, h.ins, fun c => by rw [alive_grows h.right g c _ _ h.is, h.alive c]⟩
theorem inside_sq {e : Nat} {c : Int × Int} (h : insideB e c = true) : InSq (e + 1) (inwardC e c) := by
  unfold insideB at h
  have h' := of_decide_eq_true h
  have hp : (2 : Int) ^ (e + 1) = 2 ^ e * 2 := Int.pow_succ _ _
  unfold InSq inwardC
  rw [hp]
  generalize (2 : Int) ^ e = P at *
  refine ⟨?_, ?_, ?_, ?_⟩ <;> simp only <;> omega
theorem Sq.mem (h : Sq l room e n S) {c : Int × Int} (hc : insideB e c = true) : Go.Proofs.Ytgjibpgfcbdpgaa.alive l (e + 1) n (inwardC e c) = true ↔ c ∈ S := by
  rw [h.alive, List.any_eq_true]
  constructor
  · rintro ⟨s, hs, ha⟩
    obtain ⟨t, ht, rfl⟩ := List.mem_map.1 hs
    have := agree_ext (inside_sq (h.ins t ht)) (inside_sq hc) (agree_iff.1 ha)
    unfold inwardC at this
    injection this with e1 e2
    have : t = c := Prod.ext (by omega) (by omega)
    exact this ▸ ht
  · intro hs
    exact ⟨inwardC e c, List.mem_map_of_mem hs, agree_iff.2 (Agree.refl _ _)⟩
theorem Sq.same (h : Sq l room e n S) (h2 : Sq l room e n T) : S = T :=
  Cel.rises_ext ((Cel.rightB_iff _).1 h.set).2.2 ((Cel.rightB_iff _).1 h2.set).2.2 fun y => ⟨fun hy => (h2.mem (h.ins y hy)).1 ((h.mem (h.ins y hy)).2 hy), fun hy => (h.mem (h2.ins y hy)).1 ((h2.mem (h2.ins y hy)).2 hy)⟩
theorem Sq.one (h : Sq l room e n S) (h2 : Sq l room e p S) : n = p := alive_inj h.right _ _ _ h.is h2.is fun c => by rw [h.alive, h2.alive]
theorem makeZ_yes (hlow : e ≤ 41) (hS : Cel.rightB S = true) (hin : ∀ s ∈ S, insideB e s = true) : makeZ room l S ((e : Int) + 1) = buildC room (e + 1) l (S.map (inwardC e)) := by
  unfold makeZ
  have e1 : ((e : Int) + 1).toNat = e + 1 := by omega
  rw [e1, Nat.add_sub_cancel, if_pos, if_pos]
  · exact List.all_eq_true.2 hin
  · simp only [hS, Bool.and_true, Bool.and_eq_true, decide_eq_true_eq]
    omega
theorem make_ok (hr : Right6 l room) (hlow : e ≤ 41) (hS : Cel.rightB S = true) (hin : ∀ s ∈ S, insideB e s = true) (hroom : ((l.length + S.length * (e + 1) + (e + 1) : Nat) : Int) ≤ room) :
    ∃ (m : List Nd) (n : Nat), make7 l room S ((e : Int) + 1) = (m, (n : Int), 0) ∧ Grows l m ∧ Sq m room e n S ∧ m.length ≤ l.length + S.length * (e + 1) + (e + 1) := by
  obtain ⟨m, n, h', e1, hm⟩ := build_res (room := room) (K := e + 1) (by omega) (e + 1) (Nat.le_refl _) l 0 (S.map (inwardC e)) hr (by omega) ⟨0, rfl⟩ (by rw [List.length_map]; omega)
  refine ⟨m, n, ?_, hm.grows, ⟨hm.right, hm.is, hlow, hS, hin, hm.alive⟩, ?_⟩
  · unfold make7 grown6
    rw [if_pos (right_iff.2 hr), makeZ_yes hlow hS hin, e1, if_pos rfl]
  · have := hm.len
    have := hm.hi
    rw [List.length_map] at *
    omega
theorem Sq.again (h : Sq l room e n S) : make7 l room S ((e : Int) + 1) = (l, (n : Int), 0) := by
  unfold make7 grown6
  rw [if_pos (right_iff.2 h.right), makeZ_yes h.low h.set h.ins, build_had h.right _ _ _ (by have := h.low; omega) h.is h.alive, if_pos rfl]
theorem Sq.flat (h : Sq l room e n S) (c : Int × Int) : c ∈ about7 l e n ↔ c ∈ S := by
  unfold about7
  rw [mem_flat]
  have hp : (2 : Int) ^ (e + 1) = 2 ^ e * 2 := Int.pow_succ _ _
  have e2 : (c.1 - -(2 ^ e), c.2 - -(2 ^ e)) = inwardC e c := by unfold inwardC; exact Prod.ext (by omega) (by omega)
  have e3 : InAt7 (e + 1) (-(2 ^ e), -(2 ^ e)) c ↔ insideB e c = true := by
    unfold InAt7 insideB
    rw [hp, decide_eq_true_iff]
    generalize (2 : Int) ^ e = P
    simp only
    omega
  rw [e2, e3]
  exact ⟨fun ⟨h1, h2⟩ => (h.mem h1).1 h2, fun hc => ⟨h.ins c hc, (h.mem (h.ins c hc)).2 hc⟩⟩
theorem Sq.len (h : Sq l room e n S) : (about7 l e n).length = S.length :=
  ((List.perm_ext_iff_of_nodup (flat_nodup _ _ _) (((Cel.rightB_iff _).1 h.set).2.2.imp fun {a b} hab hE => by subst hE; exact absurd hab (by simp [Cel.lessB]))).2 h.flat).length_eq
theorem Sq.pop (h : Sq l room e n S) : (l.getD n deadN).2.2 = S.length := by
  have h1 := flat_pop h.right _ _ (-(2 ^ e), -(2 ^ e)) h.is
  have h2 := h.len
  have h3 := ((Cel.rightB_iff _).1 h.set).1
  unfold about7 at h2
  rw [h2] at h1
  omega
theorem Sq.has (h : Sq l room e n S) : hasB l n = true := by
  unfold hasB
  rw [decide_eq_true_iff, ndAt_nat, h.is.lev]
  have := h.is.lt
  omega
theorem Sq.cells (h : Sq l room e n S) : cells7 l room n = (S, 0) := by
  unfold cells7
  have h3 := (Cel.rightB_iff _).1 h.set
  have e1 : ((l.getD n deadN).1).toNat - 1 = e := by rw [h.is.lev]; omega
  rw [if_pos (by rw [right_iff.2 h.right, h.has]; rfl), ndAt_nat, h.pop, if_neg (by omega), e1, Int.toNat_natCast, if_neg, Cel.rises_ext (Cel.rises_setL _) h3.2.2 fun y => (Cel.mem_setL _ y).trans (h.flat y)]
  intro ha
  obtain ⟨c, hc, hb⟩ := List.any_eq_true.1 ha
  rw [h3.2.1 c ((h.flat c).1 hc)] at hb
  exact absurd hb (by decide)
end
end Go.Proofs.Ytgjibpgfcbdpgaa
namespace Go.Proofs.Ytgjibpgfcbdpgaa
set_option maxRecDepth 100000
set_option linter.unusedVariables false
set_option linter.unusedSimpArgs false

theorem agreeB_right {k : Nat} {c d d' : Int × Int} (h : Agree k d' d) : agreeB k c d' = agreeB k c d := by
  rw [Bool.eq_iff_iff, agree_iff, agree_iff]
  exact ⟨fun h' => h'.trans h, fun h' => h'.trans h.symm⟩
theorem any_set {e : Nat} {S T : List (Int × Int)} {c : Int × Int} {a : Bool} (hS : ∀ s ∈ S, insideB e s = true) (hT : ∀ s ∈ T, insideB e s = true) (hc : insideB e c = true) (hST : ∀ y, y ∈ S ↔ if y = c then a = true else y ∈ T) (d : Int × Int) :
    ((S.map (inwardC e)).any fun s => agreeB (e + 1) s d) = if agreeB (e + 1) (inwardC e c) d = true then a else (T.map (inwardC e)).any fun s => agreeB (e + 1) s d := by
  have hone : ∀ s, insideB e s = true → agreeB (e + 1) (inwardC e c) d = true → agreeB (e + 1) (inwardC e s) d = true → s = c := fun s hs h1 h2 => by
    have := agree_ext (inside_sq hs) (inside_sq hc) ((agree_iff.1 h2).trans (agree_iff.1 h1).symm)
    unfold inwardC at this
    injection this with e1 e2
    exact Prod.ext (by omega) (by omega)
  by_cases h : agreeB (e + 1) (inwardC e c) d = true
  · rw [if_pos h, Bool.eq_iff_iff, List.any_eq_true]
    constructor
    · rintro ⟨t, ht, ha⟩
      obtain ⟨s, hs, rfl⟩ := List.mem_map.1 ht
      have := (hST s).1 hs
      rwa [if_pos (hone s (hS s hs) h ha)] at this
    · intro ha
      exact ⟨_, List.mem_map_of_mem ((hST c).2 (by rw [if_pos rfl]; exact ha)), h⟩
  · rw [if_neg h, Bool.eq_iff_iff, List.any_eq_true, List.any_eq_true]
    constructor
    · rintro ⟨t, ht, ha⟩
      obtain ⟨s, hs, rfl⟩ := List.mem_map.1 ht
      have hne : ¬ s = c := fun q => by subst q; exact h ha
      have := (hST s).1 hs
      rw [if_neg hne] at this
      exact ⟨_, List.mem_map_of_mem this, ha⟩
    · rintro ⟨t, ht, ha⟩
      obtain ⟨s, hs, rfl⟩ := List.mem_map.1 ht
      have hne : ¬ s = c := fun q => by subst q; exact h ha
      exact ⟨_, List.mem_map_of_mem ((hST s).2 (by rw [if_neg hne]; exact hs)), ha⟩
section
variable {l m : List Nd} {room : Int} {e n p : Nat} {S T : List (Int × Int)} {c : Int × Int}
theorem Sq.lev7 (h : Sq l room e n S) : (ndAt l (n : Int)).1.toNat = e + 1 := by rw [ndAt_nat, h.is.lev]; omega
theorem setZ_yes (h : Sq l room e n S) (hc : insideB e c = true) (a : Bool) : setZ room l n c a = setC room (e + 1) l n (inwardC e c) a := by
  unfold setZ
  rw [if_pos h.has, h.lev7, Nat.add_sub_cancel, if_pos hc, Int.toNat_natCast]
theorem set7_yes (h : Sq l room e n S) (hc : insideB e c = true) (a : Bool) {m : List Nd} {p : Int} (hz : setC room (e + 1) l n (inwardC e c) a = (m, p, 0)) : set7 l room n c a = (m, p, 0) := by
  unfold set7 grown6
  rw [if_pos (right_iff.2 h.right), setZ_yes h hc, hz, if_pos rfl]
theorem Sq.set_fine (h : Sq l room e n S) (hc : insideB e c = true) (a : Bool) (hroom : ((l.length + (e + 1) : Nat) : Int) ≤ room) :
    ∃ (m : List Nd) (p : Nat), set7 l room n c a = (m, (p : Int), 0) ∧ Grows l m ∧ Right6 m room ∧ Is m (e + 1) p ∧ m.length ≤ l.length + (e + 1) ∧ ∀ d, Go.Proofs.Ytgjibpgfcbdpgaa.alive m (e + 1) p d = if agreeB (e + 1) (inwardC e c) d = true then a else Go.Proofs.Ytgjibpgfcbdpgaa.alive l (e + 1) n d := by
  obtain ⟨m, _, p, rfl, e1, g, r, is, len, al⟩ := set_ok (room := room) (e + 1) l n (inwardC e c) a (by have := h.low; omega) h.right h.is hroom
  exact ⟨m, p, set7_yes h hc a e1, g, r, is, len, al⟩
theorem set_mem (a : Bool) (y : Int × Int) : y ∈ (if a = true then Cel.putL c S else Cel.outL c S) ↔ if y = c then a = true else y ∈ S := by
  cases a with
  | true =>
    rw [if_pos rfl, Cel.mem_putL]
    by_cases h : y = c <;> simp [h]
  | false =>
    rw [if_neg (by decide)]
    unfold Cel.outL
    by_cases h : y = c <;> simp [h]
theorem set_right (hS : Cel.rightB S = true) (hc : Cel.inB c = true) (hl : S.length < 2000) (a : Bool) : Cel.rightB (if a = true then Cel.putL c S else Cel.outL c S) = true := by
  have h3 := (Cel.rightB_iff _).1 hS
  refine (Cel.rightB_iff _).2 ⟨?_, fun s hs => ?_, ?_⟩
  · cases a with
    | true => rw [if_pos rfl]; have := Cel.length_putL_le c S; omega
    | false => rw [if_neg (by decide)]; have : (Cel.outL c S).length ≤ S.length := List.length_filter_le _ _; omega
  · have := (set_mem a s).1 hs
    by_cases h : s = c
    · rw [h]; exact hc
    · rw [if_neg h] at this; exact h3.2.1 s this
  · cases a with
    | true => rw [if_pos rfl]; exact Cel.rises_putL _ h3.2.2
    | false => rw [if_neg (by decide)]; exact List.Pairwise.filter _ h3.2.2
theorem set_ins (hS : ∀ s ∈ S, insideB e s = true) (hc : insideB e c = true) (a : Bool) : ∀ s ∈ (if a = true then Cel.putL c S else Cel.outL c S), insideB e s = true := fun s hs => by
  have := (set_mem a s).1 hs
  by_cases h : s = c
  · rw [h]; exact hc
  · rw [if_neg h] at this; exact hS s this
/-- a cell is set -/
theorem Sq.put (h : Sq l room e n S) (hc : insideB e c = true) (hin : Cel.inB c = true) (hl : S.length < 2000) (a : Bool) (hroom : ((l.length + (e + 1) : Nat) : Int) ≤ room) :
    ∃ (m : List Nd) (p : Nat), set7 l room n c a = (m, (p : Int), 0) ∧ Grows l m ∧ Sq m room e p (if a = true then Cel.putL c S else Cel.outL c S) ∧ m.length ≤ l.length + (e + 1) := by
  obtain ⟨m, p, e1, g, r, is, len, al⟩ := h.set_fine hc a hroom
  refine ⟨m, p, e1, g, ⟨r, is, h.low, set_right h.set hin hl a, set_ins h.ins hc a, fun d => ?_⟩, len⟩
  rw [al d, any_set (set_ins h.ins hc a) h.ins hc (set_mem a) d, h.alive d]
end

/-! ### a node of four quarters that are there -/
theorem node_res {room : Int} {K : Nat} {l : List Nd} {h k : Nat} {q : Kd} {A : Nat → Int × Int → Bool} (hk : k + 1 ≤ 42) (hr : Right6 l room) (hK : h ≤ K) (he : ∃ e, Emp l h e)
    (hall : ∀ i, i < 4 → ∃ n : Nat, kd q i = (n : Int) ∧ Is l k n ∧ ∀ c, alive l k n c = A i c) (hroom : ((l.length + 1 : Nat) : Int) ≤ room) :
    Res room K l h (put6 l room q) (k + 1) (fun c => A (q7 k c) c) 1 := by
  have hlev : ∀ i, i < 4 → (ndAt l (kd q i)).1 = (k : Int) := fun i hi => by
    obtain ⟨n, en, isn, _⟩ := hall i hi
    rw [en, ndAt_nat]
    exact isn.lev
  have h0 : (ndAt l q.1).1 = (k : Int) := hlev 0 (by decide)
  have hfit : Fit4 l q := by
    refine ⟨fun i hi => ?_, by omega⟩
    obtain ⟨n, en, isn, _⟩ := hall i hi
    have h1 := hlev i hi
    have := isn.lt
    exact ⟨by omega, by omega, by rw [h1, h0]⟩
  rcases put_ok hr hfit with ⟨m', n', e', hp⟩ | ⟨_, hf, _⟩
  · obtain ⟨_, p2, p3, p4, _⟩ := hp.node hfit
    refine ⟨m', n', h, e', hp.grows, hp.right, ⟨p2, by rw [p4, h0]; omega⟩, fun c => ?_, Nat.le_refl _, hK, ?_, by have := hp.more; omega⟩
    · obtain ⟨n, en, isn, aln⟩ := hall (q7 k c) (q7_lt k c)
      show alive m' k (kidN m' n' (q7 k c)) c = _
      have : kidN m' n' (q7 k c) = n := by unfold kidN; rw [p3, en, Int.toNat_natCast]
      rw [this, alive_grows hr hp.grows c k n isn, aln c]
    · obtain ⟨e2, he2⟩ := he
      exact ⟨e2, emp_grows hp.grows _ _ he2⟩
  · omega

/-! ### a node grown -/
theorem div_zero {x P : Int} (h0 : 0 ≤ x) (h1 : x < P) : x / P = 0 := Int.ediv_eq_zero_of_lt h0 h1
theorem div_one {x P : Int} (hP : 0 < P) (h0 : P ≤ x) (h1 : x < P * 2) : x / P = 1 := by
  have e : x = (x - P) + P * 1 := by omega
  rw [e, Int.add_mul_ediv_left _ _ (by omega), div_zero (by omega) (by omega)]
  rfl
theorem grow_bits {e : Nat} {s : Int × Int} (hs : insideB e s = true) : q7 (e + 1) (inwardC (e + 1) s) = q7 e (inwardC e s) ∧ q7 e (inwardC (e + 1) s) = 3 - q7 e (inwardC e s) ∧ Agree e (inwardC (e + 1) s) (inwardC e s) := by
  have hin := inside_sq hs
  have e2 : (2 : Int) ^ (e + 1) = 2 ^ e * 2 := Int.pow_succ _ _
  have hu : inwardC (e + 1) s = ((inwardC e s).1 + 2 ^ e * 1, (inwardC e s).2 + 2 ^ e * 1) := by
    unfold inwardC
    rw [e2]
    exact Prod.ext (by simp only; omega) (by simp only; omega)
  refine ⟨?_, ?_, by rw [hu]; exact agree_shift _ _ _ _⟩
  all_goals
    rw [hu]
    unfold InSq at hin
    unfold q7
    rw [e2] at hin
    try rw [e2]
    simp only
    have hp := pow_pos7 e
    generalize (inwardC e s).1 = x at *
    generalize (inwardC e s).2 = y at *
    generalize (2 : Int) ^ e = P at *
    have key : ∀ z : Int, 0 ≤ z → z < P * 2 → (z / P = 0 ∧ (z + P * 1) / P = 1 ∧ (z + P * 1) / (P * 2) = 0) ∨ (z / P = 1 ∧ (z + P * 1) / P = 2 ∧ (z + P * 1) / (P * 2) = 1) := fun z h0 h1 => by
      have hz : (z + P * 1) / P = z / P + 1 := Int.add_mul_ediv_left _ _ (by omega)
      by_cases hlt : z < P
      · left
        rw [hz, div_zero h0 hlt, div_zero (by omega) (by omega)]
        exact ⟨rfl, rfl, rfl⟩
      · right
        rw [hz, div_one hp (by omega) h1, div_one (by omega) (by omega) (by omega)]
        exact ⟨rfl, rfl, rfl⟩
    obtain ⟨h1, h2, h3, h4⟩ := hin
    rcases key x h1 h2 with ⟨a1, a2, a3⟩ | ⟨a1, a2, a3⟩ <;> rcases key y h3 h4 with ⟨b1, b2, b3⟩ | ⟨b1, b2, b3⟩ <;> simp only [a1, a2, a3, b1, b2, b3] <;> decide
theorem grow_agree {e : Nat} {s : Int × Int} (hs : insideB e s = true) (c : Int × Int) : agreeB (e + 2) (inwardC (e + 1) s) c = true ↔ q7 e c = 3 - q7 (e + 1) c ∧ q7 e (inwardC e s) = q7 (e + 1) c ∧ Agree e (inwardC e s) c := by
  obtain ⟨h1, h2, h3⟩ := grow_bits hs
  rw [agree_iff, agree_succ, agree_succ, h1, h2]
  constructor
  · rintro ⟨a, b, d⟩
    exact ⟨by rw [← a]; exact b.symm, a, h3.symm.trans d⟩
  · rintro ⟨a, b, d⟩
    exact ⟨b, by rw [b]; exact a.symm, h3.trans d⟩
theorem growZ_yes {l : List Nd} {room : Int} {e n : Nat} {S : List (Int × Int)} (h : Sq l room e n S) (he : e + 1 ≤ 41) : growZ room l n = growC room l n e := by
  unfold growZ
  have h1 : ¬ (ndAt l (n : Int)).1 = 42 := by rw [ndAt_nat, h.is.lev]; omega
  rw [if_pos (by rw [h.has, decide_eq_true h1]; rfl), h.lev7, Int.toNat_natCast, Nat.add_sub_cancel]
theorem Sq.grow {l : List Nd} {room : Int} {e n : Nat} {S : List (Int × Int)} (h : Sq l room e n S) (he : e + 1 ≤ 41) {t : Nat} (hE : ∃ x, Emp l t x) (ht : t ≤ 42) (hroom : ((l.length + 5 + (max t e - t) : Nat) : Int) ≤ room) :
    ∃ (m : List Nd) (p : Nat), grow7 l room n = (m, (p : Int), 0) ∧ Grows l m ∧ Sq m room (e + 1) p S ∧ (∃ x, Emp m (max t e) x) ∧ m.length ≤ l.length + 5 + (max t e - t) := by
  have hr := h.right
  -- a dead node of the kids' level
  obtain ⟨l1, d, e1, g1, r1, em1, em1', len1⟩ : ∃ (l1 : List Nd) (d : Nat), emptyTo l room e = (l1, (d : Int), 0) ∧ Grows l l1 ∧ Right6 l1 room ∧ Emp l1 e d ∧ (∃ x, Emp l1 (max t e) x) ∧ l1.length ≤ l.length + (max t e - t) := by
    obtain ⟨x, hx⟩ := hE
    by_cases hte : e ≤ t
    · obtain ⟨d, hd⟩ := emp_below t x hx e hte
      exact ⟨l, d, empty_had hr e d (by omega) hd, Grows.refl l, hr, hd, ⟨x, by rw [Nat.max_eq_left hte]; exact hx⟩, by omega⟩
    · obtain ⟨m, n', e2, g, r, em, len⟩ := empty_from hr (i := t) (e := x) ht hx (e - t) (by omega) (by omega)
      rw [show t + (e - t) = e by omega] at e2 em
      exact ⟨m, n', e2, g, r, em, ⟨n', by rw [Nat.max_eq_right (by omega)]; exact em⟩, by omega⟩
  have hn1 := h.is.grows g1
  have hdis := emp_is r1 em1
  have hkd : ∀ i, i < 4 → kd (l.getD n deadN).2.1 i = ((kidN l n i : Nat) : Int) := fun i hi => kid_cast hr h.is hi
  obtain ⟨m, p, h', e3, R⟩ := four_res (room := room) (K := max t e) (l := l1) (h := max t e) (k := e + 1) (F := fun i l' => put6 l' room (growK (l.getD n deadN).2.1 (d : Int) i)) (A := fun i c => if q7 e c = 3 - i then Go.Proofs.Ytgjibpgfcbdpgaa.alive l e (kidN l n i) c else false) (cost := fun _ => 1)
    (by omega) r1 (Nat.le_refl _) em1' (fun i hi l' h' g' r' lo hi' em' len' => by
      refine node_res (A := fun j c => if j = 3 - i then Go.Proofs.Ytgjibpgfcbdpgaa.alive l e (kidN l n i) c else false) (by omega) r' hi' em' (fun j hj => ?_) (by
        have : ((List.range i).map fun _ => 1).sum ≤ 3 := by
          rcases (by omega : i = 0 ∨ i = 1 ∨ i = 2 ∨ i = 3) with rfl | rfl | rfl | rfl <;> decide
        omega)
      show ∃ n' : Nat, kd (kset ((d : Int), (d : Int), (d : Int), (d : Int)) (3 - i) (kd (l.getD n deadN).2.1 i)) j = (n' : Int) ∧ _
      rw [kd_kset _ _ (by omega) hj]
      by_cases hji : j = 3 - i
      · rw [if_pos hji]
        exact ⟨kidN l n i, hkd i hi, ((kid_is hr h.is hi).grows g1).grows g', fun c => by rw [if_pos hji, alive_grows hr (g1.trans g') c e _ (kid_is hr h.is hi)]⟩
      · rw [if_neg hji, kd_four _ j hj]
        exact ⟨d, rfl, hdis.grows g', fun c => by rw [if_neg hji]; exact emp_alive c e d (emp_grows g' _ _ em1)⟩) (by
      have : ((List.range 4).map fun _ => 1).sum = 4 := rfl
      omega)
  have hz : growC room l n e = (m, (p : Int), 0) := by
    unfold growC
    rw [e1, if_pos rfl]
    exact e3
  have hgr : grow7 l room n = (m, (p : Int), 0) := by
    unfold grow7 grown6
    rw [if_pos (right_iff.2 hr), growZ_yes h he, hz, if_pos rfl]
  have hh : h' = max t e := Nat.le_antisymm R.hi R.lo
  refine ⟨m, p, hgr, g1.trans R.grows, ⟨R.right, R.is, he, h.set, fun s hs => ?_, fun c => ?_⟩, by rw [← hh]; exact R.emp, ?_⟩
  · have := of_decide_eq_true (h.ins s hs)
    have e2 : (2 : Int) ^ (e + 1) = 2 ^ e * 2 := Int.pow_succ _ _
    have hp := pow_pos7 e
    unfold insideB
    rw [e2]
    generalize (2 : Int) ^ e = P at *
    exact decide_eq_true (by omega)
  · rw [R.alive c]
    have hq := q7_lt (e + 1) c
    obtain ⟨c', h1, h2, e4⟩ := kid_alive l e n hq c
    show (if q7 e c = 3 - q7 (e + 1) c then Go.Proofs.Ytgjibpgfcbdpgaa.alive l e (kidN l n (q7 (e + 1) c)) c else false) = _
    rw [Bool.eq_iff_iff, List.any_eq_true]
    constructor
    · intro ha
      by_cases hqq : q7 e c = 3 - q7 (e + 1) c
      · rw [if_pos hqq, e4, h.alive c', List.any_eq_true] at ha
        obtain ⟨u, hu, hua⟩ := ha
        obtain ⟨s, hs, rfl⟩ := List.mem_map.1 hu
        obtain ⟨b1, b2⟩ := agree_succ.1 (agree_iff.1 hua)
        exact ⟨_, List.mem_map_of_mem hs, (grow_agree (h.ins s hs) c).2 ⟨hqq, b1.trans h1, b2.trans h2⟩⟩
      · rw [if_neg hqq] at ha
        cases ha
    · rintro ⟨u, hu, hua⟩
      obtain ⟨s, hs, rfl⟩ := List.mem_map.1 hu
      obtain ⟨b1, b2, b3⟩ := (grow_agree (h.ins s hs) c).1 hua
      rw [if_pos b1, e4, h.alive c', List.any_eq_true]
      exact ⟨_, List.mem_map_of_mem hs, agree_iff.2 (agree_succ.2 ⟨b2.trans h1.symm, b3.trans h2.symm⟩)⟩
  · have := R.len
    have hs : ((List.range 4).map fun _ : Nat => 1).sum = 4 := rfl
    omega
end Go.Proofs.Ytgjibpgfcbdpgaa
