/-
  The document's answers of layer 8: All.
-/
import Derived.Test.YtikgnjcjbjafaaaJy
import Derived.Test.YtikgnjcjbjafaaaB25
import Derived.Test.YtikgnjcjbjafaaaB17
namespace Go.Proofs.Ytikgnjcjbjafaaa
set_option maxRecDepth 100000
set_option linter.unusedVariables false
set_option linter.unusedSimpArgs false
open Go.RowKit Go.Sort

/-- a slice of nodes that lies in none of some blocks -/
def RdOff (P : Nat → Prop) (w : World) (B : Nat) (A : Option Addr) (l : List Nd) : Prop := ∀ j, j < l.length → ∃ b off, A = some ⟨b, off, none⟩ ∧ ¬ P b ∧ b < B ∧ NdAt w b (off + j * 6) (l.getD j deadN)
theorem RdOff.rdN {P : Nat → Prop} {w : World} {B : Nat} {A : Option Addr} {l : List Nd} (h : RdOff P w B A l) : RdN w B A l := fun j hj => by
  obtain ⟨b, off, e, _, hlt, h0⟩ := h j hj
  exact ⟨b, off, e, hlt, h0⟩
theorem RdOff.set {P : Nat → Prop} {w : World} {B q j : Nat} {A : Option Addr} {l : List Nd} (h : RdOff P w B A l) (hq : P q) (u : Value) : RdOff P (w.setCell ⟨q, j, none⟩ u) B A l := fun i hi => by
  obtain ⟨b, off, e, hne, hlt, h0, h1, h2, h3, h4, h5⟩ := h i hi
  have hb : (w.setCell ⟨q, j, none⟩ u).heap[b]? = w.heap[b]? := Below.heap_setCell _ _ _ _ (by show b ≠ q; intro hh; exact hne (hh ▸ hq))
  have hc : ∀ o, (w.setCell ⟨q, j, none⟩ u).cell? ⟨b, o, none⟩ = w.cell? ⟨b, o, none⟩ := fun o => World.cell?_of_block (w := w) hb
  exact ⟨b, off, e, hne, hlt, (hc _).trans h0, (hc _).trans h1, (hc _).trans h2, (hc _).trans h3, (hc _).trans h4, (hc _).trans h5⟩
theorem RdN.off9 {P : Nat → Prop} {w : World} {B : Nat} {A : Option Addr} {l : List Nd} (h : RdN w B A l) (h2 : 2 ≤ l.length) (hP : ∀ q, P q → ∃ cs T fz, w.heap[q]? = some (.cells cs T fz) ∧ cs.size ≤ 11) : RdOff P w B A l := fun j hj => by
  obtain ⟨b, off, e, hlt, h0⟩ := h j hj
  refine ⟨b, off, e, fun hb => ?_, hlt, h0⟩
  obtain ⟨cs, T, fz, hrow, hsz⟩ := hP b hb
  obtain ⟨b', off', e', _, h1⟩ := h 1 (by omega)
  rw [e] at e'
  injection e' with e'
  injection e' with e1 e2
  subst e1 e2
  obtain ⟨_, _, _, _, _, h5⟩ := h1
  rw [Lib.cell_of_heap hrow (off + 1 * 6 + 5), Array.getElem?_eq_none (by omega)] at h5
  cases h5
theorem row2_c0 {W : World} {b T : Nat} {x y : Value} (h : W.heap[b]? = some (.cells #[x, y] T (0, 0))) : W.cell? ⟨b, 0, none⟩ = some x := by rw [Lib.cell_of_heap h]; rfl
theorem row2_c1 {W : World} {b T : Nat} {x y : Value} (h : W.heap[b]? = some (.cells #[x, y] T (0, 0))) : W.cell? ⟨b, 1, none⟩ = some y := by rw [Lib.cell_of_heap h]; rfl
/-- what All answers -/
def allZ (room : Int) (l : List Nd) (n : Nat) : List Nd × (Nat → Int) × Int := if (nineTo room l n 9).2.2 = 0 then nineTo room l n 9 else (l, fun _ => 0, (nineTo room l n 9).2.2)
/-- the boxes of the store and of what is told -/
structure E8 (w wr : World) (A : Option Addr) (n c : Nat) (room : Int) : Prop where
  st : wr.heap[w.heap.size]? = some (.cells #[.slice A n c, .int .i64 room] 27 (0, 0))
  res : wr.heap[w.heap.size + 1]? = some (.cells #[.slice none 0 0, .int .i64 0] 27 (0, 0))
  row : N9 wr (w.heap.size + 2) (fun _ => 0)
  bel : Below w.heap.size w wr
section
variable {w wr w' : World} {A : Option Addr} {n c : Nat} {room : Int}
theorem E8.size (h : E8 w wr A n c room) : w.heap.size + 3 ≤ wr.heap.size := lt_heap6 h.row
theorem E8.low (h : E8 w wr A n c room) (hb : Below (w.heap.size + 3) wr w') : E8 w w' A n c room := ⟨(hb.block _ (by omega)).trans h.st, (hb.block _ (by omega)).trans h.res, (hb.block _ (by omega)).trans h.row, h.bel.trans (hb.mono (by omega))⟩
theorem E8.below (h : E8 w wr A n c room) (hb : Below wr.heap.size wr w') : E8 w w' A n c room := h.low (hb.mono h.size)
theorem E8.s0 (h : E8 w wr A n c room) : wr.cell? ⟨w.heap.size, 0, none⟩ = some (.slice A n c) := by rw [Lib.cell_of_heap h.st]; rfl
theorem E8.s1 (h : E8 w wr A n c room) : wr.cell? ⟨w.heap.size, 1, none⟩ = some (.int .i64 room) := by rw [Lib.cell_of_heap h.st]; rfl
theorem E8.r0 (h : E8 w wr A n c room) : wr.cell? ⟨w.heap.size + 1, 0, none⟩ = some (.slice none 0 0) := by rw [Lib.cell_of_heap h.res]; rfl
theorem E8.r1 (h : E8 w wr A n c room) : wr.cell? ⟨w.heap.size + 1, 1, none⟩ = some (.int .i64 0) := by rw [Lib.cell_of_heap h.res]; rfl
theorem E8.free (h : E8 w wr A n c room) (j : Nat) : wr.frozen? ⟨w.heap.size + 1, j, none⟩ = false := Lib.frozen_of_heap h.res j
end
theorem e8_0 (w : World) (A : Option Addr) (n c : Nat) (room : Int) : E8 w (((w.alloc (.cells #[.slice A n c, .int .i64 room] 27)).alloc (.cells #[.slice none 0 0, .int .i64 0] 27)).alloc (.cells #[.int .i64 0, .int .i64 0, .int .i64 0, .int .i64 0, .int .i64 0, .int .i64 0, .int .i64 0, .int .i64 0, .int .i64 0] 61)) A n c room := by
  have h1 := (Below.refl w.heap.size w).alloc (Nat.le_refl _) (.cells #[.slice A n c, .int .i64 room] 27)
  have h2 := h1.alloc h1.size (.cells #[.slice none 0 0, .int .i64 0] 27)
  have h3 := h2.alloc h2.size (.cells #[.int .i64 0, .int .i64 0, .int .i64 0, .int .i64 0, .int .i64 0, .int .i64 0, .int .i64 0, .int .i64 0, .int .i64 0] 61)
  exact ⟨heap_old (heap_old (heap_alloc_new w _)), heap_old (heap_new (by simp)), heap_new (by simp), h3⟩
/-- what is known in All's loop: the nine so far, and the store so far -/
structure AlAt (w2 wr : World) (A2 : Option Addr) (m : List Nd) (c2 : Nat) (room : Int) (f : Nat → Int) : Prop where
  out : N9 wr w2.heap.size f
  box : StB wr (w2.heap.size + 1) A2 m c2 room
  bel : Below w2.heap.size w2 wr
section
variable {w2 wr w' : World} {A2 A3 : Option Addr} {m m' : List Nd} {c2 c3 : Nat} {room : Int} {f : Nat → Int}
theorem AlAt.below (h : AlAt w2 wr A2 m c2 room f) (hb : Below wr.heap.size wr w') : AlAt w2 w' A2 m c2 room f := ⟨h.out.below hb, h.box.below hb, Qt.more h.bel h.bel.size hb⟩
theorem AlAt.step (h : AlAt w2 wr A2 m c2 room f) (hN : NowN wr A3 m') (hc : m'.length ≤ c3) (h2 : 2 ≤ m'.length) {i : Nat} (hi : i < 9) (v : Int) :
    AlAt w2 (((wr.setCell ⟨w2.heap.size + 1, 0, none⟩ (.slice A3 m'.length c3)).setCell ⟨w2.heap.size + 1, 1, none⟩ (.int .i64 room)).setCell ⟨w2.heap.size, i, none⟩ (.int .i64 v)) A3 m' c3 room (fun j => if j = i then v else f j) := by
  have hoff := RdN.off9 (P := fun q => q = w2.heap.size ∨ q = w2.heap.size + 1) hN h2 (fun q hq => by
    rcases hq with rfl | rfl
    · exact ⟨_, _, _, h.out, Nat.le_of_ble_eq_true rfl⟩
    · exact ⟨_, _, _, h.box.row, Nat.le_of_ble_eq_true rfl⟩)
  have hrow := h.box.row
  have h3 : N9 ((wr.setCell ⟨w2.heap.size + 1, 0, none⟩ (.slice A3 m'.length c3)).setCell ⟨w2.heap.size + 1, 1, none⟩ (.int .i64 room)) w2.heap.size f :=
    ((Below.heap_setCell _ _ _ _ (by show w2.heap.size ≠ w2.heap.size + 1; omega)).trans (Below.heap_setCell _ _ _ _ (by show w2.heap.size ≠ w2.heap.size + 1; omega))).trans h.out
  have h4 := ((hoff.set (j := 0) (.inr rfl) (.slice A3 m'.length c3)).set (j := 1) (.inr rfl) (.int .i64 room)).set (j := i) (.inl rfl) (.int .i64 v)
  refine ⟨h3.set hi v, ⟨?_, h4.rdN.more (by simp [World.setCell]), hc⟩, ((h.bel.setCell (by show w2.heap.size ≤ w2.heap.size + 1; omega) _).setCell (by show w2.heap.size ≤ w2.heap.size + 1; omega) _).setCell (by show w2.heap.size ≤ w2.heap.size; omega) _⟩
  rw [Below.heap_setCell _ _ _ _ (by show w2.heap.size + 1 ≠ w2.heap.size; omega)]
  simp [World.setCell, Array.getElem?_modify, hrow]
end
set_option maxHeartbeats 16000000 in
theorem refAll_any {room : Int} {l : List Nd} (hr : Right6 l room) (A : Option Addr) (c : Nat) {e n : Nat} (w : World) (hn : Is l (e + 2) n) (hR : RdN w w.heap.size A l) (hc : l.length ≤ c) :
    Calls Try.prog 71 #[storeV A l.length c room, .int .i64 (n : Nat)] w (Nin8 (allZ room l n) room w) := by
  have hE0 := e8_0 w A l.length c room
  have HE0 := Lib.hid hE0
  have hR3 := (hR.below hE0.bel (Nat.le_refl _)).more hE0.bel.size
  have h16 := refSixteen_any hr A c room _ hn hR3
  have s0 := hE0.s0
  have s1 := hE0.s1
  have HRR := Lib.hid hR
  obtain ⟨Z, hZ⟩ : ∃ Z, Z = allZ room l n := ⟨_, rfl⟩
  rw [← hZ]
  have HZ := Lib.hid hZ
  have HRT := Lib.hid hr
  unfold storeV at h16 ⊢
  clear hE0 hR3 hR hZ hr
  go_enter Try.func71, Try.ntmps71
  go_wp2_with fail
  refine h16.mono ?_
  generalize (((w.alloc (.cells #[.slice A l.length c, .int .i64 room] 27)).alloc (.cells #[.slice none 0 0, .int .i64 0] 27)).alloc (.cells #[.int .i64 0, .int .i64 0, .int .i64 0, .int .i64 0, .int .i64 0, .int .i64 0, .int .i64 0, .int .i64 0, .int .i64 0] 61)) = wx at *
  rintro r w2 ⟨A8, c8, rfl, hc8, hR8, hb2⟩
  have hE2 := HE0.out.below hb2
  have hsz2 := hE2.size
  have hal1 := (Below.refl w2.heap.size w2).alloc (Nat.le_refl _) (.cells #[.int .i64 0, .int .i64 0, .int .i64 0, .int .i64 0, .int .i64 0, .int .i64 0, .int .i64 0, .int .i64 0, .int .i64 0] 61)
  have hal2 := hal1.alloc hal1.size (.cells #[.slice A l.length c, .int .i64 room] 27)
  have hs1 : (w2.alloc (.cells #[.int .i64 0, .int .i64 0, .int .i64 0, .int .i64 0, .int .i64 0, .int .i64 0, .int .i64 0, .int .i64 0, .int .i64 0] 61)).heap.size = w2.heap.size + 1 := by simp
  have hR2 : RdN w2 w2.heap.size A l := (HRR.out.below hE2.bel (Nat.le_refl _)).more hE2.bel.size
  have HA0 := Lib.hid (show AlAt w2 ((w2.alloc (.cells #[.int .i64 0, .int .i64 0, .int .i64 0, .int .i64 0, .int .i64 0, .int .i64 0, .int .i64 0, .int .i64 0, .int .i64 0] 61)).alloc (.cells #[.slice A l.length c, .int .i64 room] 27)) A l c room (fun _ => 0) from
    ⟨heap_old (heap_new rfl), ⟨heap_new hs1, (hR2.below hal2 (Nat.le_refl _)).more hal2.size, hc⟩, hal2⟩)
  have t0 := fun o => (World.cell?_alloc_lt w2 o _ (block_lt_of_cell hE2.s0)).trans hE2.s0
  have t1 := fun o => (World.cell?_alloc_lt w2 o _ (block_lt_of_cell hE2.s1)).trans hE2.s1
  have HE2 := Lib.hid hE2
  have HL := Lib.hid hR8
  clear h16 HE0 s0 s1 hE2 hb2 hal1 hal2 hs1 hR2 hR8
  go_wp2_with fail
  clear t0 t1
  generalize ((w2.alloc (.cells #[.int .i64 0, .int .i64 0, .int .i64 0, .int .i64 0, .int .i64 0, .int .i64 0, .int .i64 0, .int .i64 0, .int .i64 0] 61)).alloc (.cells #[.slice A l.length c, .int .i64 room] 27)) = w3 at *
  go_loopw [10] (fun u wr => ∃ i : Nat, i ≤ 9 ∧ u = .int .i64 i ∧ Hid ((nineTo room l n i).2.2 = 0) ∧ Hid (∃ A2 c2, AlAt w2 wr A2 (nineTo room l n i).1 c2 room (nineTo room l n i).2.1)) (fun u _ => 9 - (intOf u).toNat)
  case atStart => exact ⟨0, Nat.zero_le _, rfl, rfl, A, c, HA0.out⟩
  case round =>
    obtain ⟨i, hi, rfl, HERR, HH⟩ := hrel
    obtain ⟨A2, c2, HD⟩ := HH.out
    have hE := HE2.out.low (HD.bel.mono hsz2)
    by_cases hlt : i < 9
    · have hltz : (i : Int) < 9 := by omega
      have hm := nineTo_right HRT.out (n := n) i
      have hnx : nineTo room l n (i + 1) = ((put6 (nineTo room l n i).1 room (sqK l n (i / 3) (i % 3))).1, fun j => if j = i then (put6 (nineTo room l n i).1 room (sqK l n (i / 3) (i % 3))).2.1 else (nineTo room l n i).2.1 j, (put6 (nineTo room l n i).1 room (sqK l n (i / 3) (i % 3))).2.2) := by
        show (if (nineTo room l n i).2.2 = 0 then _ else _) = _
        rw [if_pos HERR.out]
      generalize (nineTo room l n i).2.1 = f at *
      generalize (nineTo room l n i).1 = M at *
      have hzr := put_right hm (sqK l n (i / 3) (i % 3))
      have hz2 := hzr.two
      have hsq := fun W (hW : Below wr.heap.size wr W) => refSq_any (l := l) (n := n) (A := A8) (c := c8) (y := i / 3) (x := i % 3) (w := W) (Now.below (Now.below HL.out HD.bel) hW) (by omega) (by omega)
      rw [show (((i / 3 : Nat)) : Int) = (i : Int) / 3 from by omega, show (((i % 3 : Nat)) : Int) = (i : Int) % 3 from by omega] at hsq
      have hpu := fun W (hW : Below wr.heap.size wr W) => refPut7 (A := A2) (c := c2) (sqK l n (i / 3) (i % 3)) ((HD.box.below hW).rd) hm HD.box.cap
      have hbx := fun W (hW : Below wr.heap.size wr W) => HD.box.below hW
      have hw3 : IntKind.i64.wrap ((i : Int) / 3) = (i : Int) / 3 := by rw [IntKind.wrap_i64]; omega
      have HSTOP := Lib.hid (fun h => nineTo_stop (room := room) (l := l) (n := n) (i := i + 1) h)
      generalize put6 M room (sqK l n (i / 3) (i % 3)) = z at *
      obtain ⟨zl, zn, ze⟩ := z
      dsimp only at hnx hz2
      generalize sqK l n (i / 3) (i % 3) = kk at *
      have HNX := Lib.hid hnx
      have HDD := Lib.hid HD
      have HEE := Lib.hid hE
      clear hnx HD HH hm hzr hE
      go_wp2_with fail
      refine region_calm_to (fun W => Below wr.heap.size wr W) (fun (a0 a9 : Act) (w9 : World) => ∃ (A9 : Option Addr) (c9 b9 : Nat), a9 = (((((((((((((((a0.put (some 23) (.agg #[.slice A2 M.length c2, .int .i64 room])).put (some 24) (.slice A8 (sxTo l n 16).length c8)).put (some 25) (.int .i64 (i : Int))).put (some 26) (.int .i64 ((i : Int) / 3))).put (some 27) (.int .i64 (i : Int))).put (some 28) (.int .i64 ((i : Int) % 3))).put (some 29) (.agg #[.int .i64 kk.1, .int .i64 kk.2.1, .int .i64 kk.2.2.1, .int .i64 kk.2.2.2])).put (some 30) (.tuple #[.agg #[.slice A9 zl.length c9, .int .i64 room], .int .i64 zn, .int .i64 ze])).put (some 22) (.tuple #[.agg #[.slice A9 zl.length c9, .int .i64 room], .int .i64 zn, .int .i64 ze])).put (some 31) (.agg #[.slice A9 zl.length c9, .int .i64 room])).put (some 32) (.int .i64 zn)).put (some 33) (.int .i64 ze)).put (some 11) (.pointer (some ⟨b9, 0, none⟩))).put (some 12) (.int .i64 zn)).put (some 13) (.int .i64 ze)) ∧ StB w9 b9 A9 zl c9 room ∧ Below wr.heap.size wr w9) (.calm 0 (.calm 1 (.calm 2 (.calm 3 (.calm 4 (.calm 5 (.two 6 12 (.two 7 12 (.calm 8 (.calm 9 (.calm 10 (.calm 11 (.only 12 (.only 13 (.only 14 (.only 15 .done)))))))) (.only 7 (.calm 8 (.calm 9 (.calm 10 (.calm 11 (.only 13 (.only 14 (.only 15 .done))))))))) (.only 6 (.only 7 (.calm 8 (.calm 9 (.calm 10 (.calm 11 (.only 13 (.only 14 (.only 15 .done)))))))))))))))) (by kernel_rfl) (by kernel_rfl) (by kernel_rfl) (by rfl) (below_drew _) ?_ ?_
      · skip
        refine ⟨_, _, (.agg #[.slice A2 M.length c2, .int .i64 room]), rfl, rfl, ⟨rfl, fun W hW => by have s0 := (hbx W hW).s0; have s1 := (hbx W hW).s1; simp only [execOp]; go_simp; done⟩, ?_⟩
        simp only [Act.put, List.getElem_toArray, List.getElem_cons_zero, List.getElem_cons_succ, List.setIfInBounds_toArray, List.set_cons_succ, List.set_cons_zero]
        refine ⟨_, _, (.slice A8 (sxTo l n 16).length c8), rfl, rfl, ⟨rfl, fun W hW => by first | exact ⟨rfl, rfl⟩ | (simp only [Act.eval, execOp]; go_simp; try exact ⟨rfl, rfl⟩)⟩, ?_⟩
        simp only [Act.put, List.getElem_toArray, List.getElem_cons_zero, List.getElem_cons_succ, List.setIfInBounds_toArray, List.set_cons_succ, List.set_cons_zero]
        refine ⟨_, _, (.int .i64 (i : Int)), rfl, rfl, ⟨rfl, fun W hW => by first | exact ⟨rfl, rfl⟩ | (simp only [Act.eval, execOp]; go_simp; try exact ⟨rfl, rfl⟩)⟩, ?_⟩
        simp only [Act.put, List.getElem_toArray, List.getElem_cons_zero, List.getElem_cons_succ, List.setIfInBounds_toArray, List.set_cons_succ, List.set_cons_zero]
        refine ⟨_, _, (.int .i64 ((i : Int) / 3)), rfl, rfl, ⟨rfl, fun W hW => by first | exact ⟨rfl, rfl⟩ | (simp only [Act.eval, execOp]; go_simp; try exact ⟨rfl, rfl⟩)⟩, ?_⟩
        simp only [Act.put, List.getElem_toArray, List.getElem_cons_zero, List.getElem_cons_succ, List.setIfInBounds_toArray, List.set_cons_succ, List.set_cons_zero]
        refine ⟨_, _, (.int .i64 (i : Int)), rfl, rfl, ⟨rfl, fun W hW => by first | exact ⟨rfl, rfl⟩ | (simp only [Act.eval, execOp]; go_simp; try exact ⟨rfl, rfl⟩)⟩, ?_⟩
        simp only [Act.put, List.getElem_toArray, List.getElem_cons_zero, List.getElem_cons_succ, List.setIfInBounds_toArray, List.set_cons_succ, List.set_cons_zero]
        refine ⟨_, _, (.int .i64 ((i : Int) % 3)), rfl, rfl, ⟨rfl, fun W hW => by first | exact ⟨rfl, rfl⟩ | (simp only [Act.eval, execOp]; go_simp; try exact ⟨rfl, rfl⟩)⟩, ?_⟩
        simp only [Act.put, List.getElem_toArray, List.getElem_cons_zero, List.getElem_cons_succ, List.setIfInBounds_toArray, List.set_cons_succ, List.set_cons_zero]
        constructor
        · skip
          refine ⟨_, rfl, ?_⟩
          go_wp2_with fail
          refine (hsq _ (below_drew wr)).mono ?_
          intro e w7 h
          obtain ⟨rfl, hb⟩ := h
          have hBc1 := Qt.more (below_drew wr) (Nat.le_refl _) hb
          have hb_0_1 := hb
          go_wp2_with fail
          refine ⟨rfl, hBc1, ?_⟩
          constructor
          · skip
            refine ⟨_, rfl, ?_⟩
            go_wp2_with fail
            refine (hpu _ hBc1).mono ?_
            intro e w8 h
            obtain ⟨v9, rfl, ⟨A9, c9, rfl, hcap9, N9⟩, hb⟩ := h
            dsimp only at hcap9 N9
            have hBc2 := Qt.more hBc1 (hBc1).size hb
            have hb_1_2 := hb
            go_wp2_with fail
            refine ⟨rfl, hBc2, ?_⟩
            refine ⟨_, _, (.tuple #[.agg #[.slice A9 zl.length c9, .int .i64 room], .int .i64 zn, .int .i64 ze]), rfl, rfl, ⟨rfl, fun W hW => by first | exact ⟨rfl, rfl⟩ | (simp only [Act.eval, execOp]; go_simp; try exact ⟨rfl, rfl⟩)⟩, ?_⟩
            simp only [Act.put, List.getElem_toArray, List.getElem_cons_zero, List.getElem_cons_succ, List.setIfInBounds_toArray, List.set_cons_succ, List.set_cons_zero]
            refine ⟨_, _, (.agg #[.slice A9 zl.length c9, .int .i64 room]), rfl, rfl, ⟨rfl, fun W hW => by first | exact ⟨rfl, rfl⟩ | (simp only [Act.eval, execOp]; go_simp; try exact ⟨rfl, rfl⟩)⟩, ?_⟩
            simp only [Act.put, List.getElem_toArray, List.getElem_cons_zero, List.getElem_cons_succ, List.setIfInBounds_toArray, List.set_cons_succ, List.set_cons_zero]
            refine ⟨_, _, (.int .i64 zn), rfl, rfl, ⟨rfl, fun W hW => by first | exact ⟨rfl, rfl⟩ | (simp only [Act.eval, execOp]; go_simp; try exact ⟨rfl, rfl⟩)⟩, ?_⟩
            simp only [Act.put, List.getElem_toArray, List.getElem_cons_zero, List.getElem_cons_succ, List.setIfInBounds_toArray, List.set_cons_succ, List.set_cons_zero]
            refine ⟨_, _, (.int .i64 ze), rfl, rfl, ⟨rfl, fun W hW => by first | exact ⟨rfl, rfl⟩ | (simp only [Act.eval, execOp]; go_simp; try exact ⟨rfl, rfl⟩)⟩, ?_⟩
            simp only [Act.put, List.getElem_toArray, List.getElem_cons_zero, List.getElem_cons_succ, List.setIfInBounds_toArray, List.set_cons_succ, List.set_cons_zero]
            refine ⟨_, rfl, ?_⟩
            have hBa3 := (hBc2).alloc (hBc2).size (.cells #[.slice none 0 0, .int .i64 0] 27)
            have hra3 : (w8.alloc (.cells #[.slice none 0 0, .int .i64 0] 27 (0, 0))).heap[w8.heap.size]? = _ := heap_alloc_new w8 (.cells #[.slice none 0 0, .int .i64 0] 27 (0, 0))
            go_wp2_with fail
            refine ⟨rfl, hBa3, ?_⟩
            have hle_w8 : wr.heap.size ≤ w8.heap.size := (hBc2).size
            have hB9 := (hBc2).alloc (hBc2).size (.cells #[.slice A9 zl.length c9, .int .i64 room] 27)
            have hS9 := stB_new N9 hcap9 room
            refine ⟨_, rfl, ?_⟩
            go_wp2_with fail
            refine ⟨rfl, hB9, ?_⟩
            refine ⟨_, rfl, ?_⟩
            go_wp2_with fail
            refine ⟨rfl, hB9, ?_⟩
            refine ⟨_, rfl, ?_⟩
            go_wp2_with fail
            refine ⟨rfl, hB9, ?_⟩
            show ∃ (A9 : Option Addr) (c9 b9 : Nat), _
            refine ⟨A9, c9, w8.heap.size, ?_, hS9, hB9⟩
            first | rfl | simp only [Act.put, List.getElem_toArray, List.getElem_cons_zero, List.getElem_cons_succ, List.setIfInBounds_toArray, List.set_cons_succ, List.set_cons_zero]
          · skip
            refine ⟨_, rfl, ?_⟩
            have hBa2 := (hBc1).alloc (hBc1).size (.cells #[.slice none 0 0, .int .i64 0] 27)
            have hra2 : (w7.alloc (.cells #[.slice none 0 0, .int .i64 0] 27 (0, 0))).heap[w7.heap.size]? = _ := heap_alloc_new w7 (.cells #[.slice none 0 0, .int .i64 0] 27 (0, 0))
            go_wp2_with fail
            refine ⟨rfl, hBa2, ?_⟩
            have hle_w7 : wr.heap.size ≤ w7.heap.size := (hBc1).size
            refine ⟨_, rfl, ?_⟩
            go_wp2_with fail
            refine (hpu _ hBa2).mono ?_
            intro e w8 h
            obtain ⟨v9, rfl, ⟨A9, c9, rfl, hcap9, N9⟩, hb⟩ := h
            dsimp only at hcap9 N9
            have hBc4 := Qt.more hBa2 (hBa2).size hb
            have hrw4 := (hb.block _ (lt_heap6 hra2)).trans hra2
            have hb_1_4 := hb
            have f0 : w8.frozen? ⟨w7.heap.size, 0, none⟩ = false := Lib.frozen_of_heap hrw4 0
            have f1 : w8.frozen? ⟨w7.heap.size, 1, none⟩ = false := Lib.frozen_of_heap hrw4 1
            have g0 : w8.cell? ⟨w7.heap.size, 0, none⟩ = some (.slice none 0 0) := by rw [Lib.cell_of_heap hrw4]; rfl
            have g1 : w8.cell? ⟨w7.heap.size, 1, none⟩ = some (.int .i64 0) := by rw [Lib.cell_of_heap hrw4]; rfl
            go_wp2_with fail
            refine ⟨rfl, hBc4, ?_⟩
            refine ⟨_, _, (.tuple #[.agg #[.slice A9 zl.length c9, .int .i64 room], .int .i64 zn, .int .i64 ze]), rfl, rfl, ⟨rfl, fun W hW => by first | exact ⟨rfl, rfl⟩ | (simp only [Act.eval, execOp]; go_simp; try exact ⟨rfl, rfl⟩)⟩, ?_⟩
            simp only [Act.put, List.getElem_toArray, List.getElem_cons_zero, List.getElem_cons_succ, List.setIfInBounds_toArray, List.set_cons_succ, List.set_cons_zero]
            refine ⟨_, _, (.agg #[.slice A9 zl.length c9, .int .i64 room]), rfl, rfl, ⟨rfl, fun W hW => by first | exact ⟨rfl, rfl⟩ | (simp only [Act.eval, execOp]; go_simp; try exact ⟨rfl, rfl⟩)⟩, ?_⟩
            simp only [Act.put, List.getElem_toArray, List.getElem_cons_zero, List.getElem_cons_succ, List.setIfInBounds_toArray, List.set_cons_succ, List.set_cons_zero]
            refine ⟨_, _, (.int .i64 zn), rfl, rfl, ⟨rfl, fun W hW => by first | exact ⟨rfl, rfl⟩ | (simp only [Act.eval, execOp]; go_simp; try exact ⟨rfl, rfl⟩)⟩, ?_⟩
            simp only [Act.put, List.getElem_toArray, List.getElem_cons_zero, List.getElem_cons_succ, List.setIfInBounds_toArray, List.set_cons_succ, List.set_cons_zero]
            refine ⟨_, _, (.int .i64 ze), rfl, rfl, ⟨rfl, fun W hW => by first | exact ⟨rfl, rfl⟩ | (simp only [Act.eval, execOp]; go_simp; try exact ⟨rfl, rfl⟩)⟩, ?_⟩
            simp only [Act.put, List.getElem_toArray, List.getElem_cons_zero, List.getElem_cons_succ, List.setIfInBounds_toArray, List.set_cons_succ, List.set_cons_zero]
            have hB9 := ((hBc4.setCell (p := ⟨w7.heap.size, 0, none⟩) (hle_w7) (.slice A9 zl.length c9)).setCell (p := ⟨w7.heap.size, 1, none⟩) (hle_w7) (.int .i64 room))
            have hS9 := stB_put (room := room) hrw4 N9 hcap9
            refine ⟨_, rfl, ?_⟩
            go_wp2_with fail
            refine ⟨rfl, hB9, ?_⟩
            refine ⟨_, rfl, ?_⟩
            go_wp2_with fail
            refine ⟨rfl, hB9, ?_⟩
            refine ⟨_, rfl, ?_⟩
            go_wp2_with fail
            refine ⟨rfl, hB9, ?_⟩
            show ∃ (A9 : Option Addr) (c9 b9 : Nat), _
            refine ⟨A9, c9, w7.heap.size, ?_, hS9, hB9⟩
            first | rfl | simp only [Act.put, List.getElem_toArray, List.getElem_cons_zero, List.getElem_cons_succ, List.setIfInBounds_toArray, List.set_cons_succ, List.set_cons_zero]
        · skip
          refine ⟨_, rfl, ?_⟩
          have hBa1 := ((below_drew wr)).alloc (Nat.le_refl _) (.cells #[.slice none 0 0, .int .i64 0] 27)
          have hra1 : (wr.drew.alloc (.cells #[.slice none 0 0, .int .i64 0] 27 (0, 0))).heap[wr.heap.size]? = _ := heap_alloc_new wr.drew (.cells #[.slice none 0 0, .int .i64 0] 27 (0, 0))
          go_wp2_with fail
          refine ⟨rfl, hBa1, ?_⟩
          refine ⟨_, rfl, ?_⟩
          go_wp2_with fail
          refine (hsq _ hBa1).mono ?_
          intro e w7 h
          obtain ⟨rfl, hb⟩ := h
          have hBc6 := Qt.more hBa1 (hBa1).size hb
          have hrw6 := (hb.block _ (lt_heap6 hra1)).trans hra1
          have hb_0_6 := hb
          go_wp2_with fail
          refine ⟨rfl, hBc6, ?_⟩
          refine ⟨_, rfl, ?_⟩
          go_wp2_with fail
          refine (hpu _ hBc6).mono ?_
          intro e w8 h
          obtain ⟨v9, rfl, ⟨A9, c9, rfl, hcap9, N9⟩, hb⟩ := h
          dsimp only at hcap9 N9
          have hBc7 := Qt.more hBc6 (hBc6).size hb
          have hrw7 := (hb.block _ (lt_heap6 hrw6)).trans hrw6
          have hb_1_7 := hb
          have f0 : w8.frozen? ⟨wr.heap.size, 0, none⟩ = false := Lib.frozen_of_heap hrw7 0
          have f1 : w8.frozen? ⟨wr.heap.size, 1, none⟩ = false := Lib.frozen_of_heap hrw7 1
          have g0 : w8.cell? ⟨wr.heap.size, 0, none⟩ = some (.slice none 0 0) := by rw [Lib.cell_of_heap hrw7]; rfl
          have g1 : w8.cell? ⟨wr.heap.size, 1, none⟩ = some (.int .i64 0) := by rw [Lib.cell_of_heap hrw7]; rfl
          go_wp2_with fail
          refine ⟨rfl, hBc7, ?_⟩
          refine ⟨_, _, (.tuple #[.agg #[.slice A9 zl.length c9, .int .i64 room], .int .i64 zn, .int .i64 ze]), rfl, rfl, ⟨rfl, fun W hW => by first | exact ⟨rfl, rfl⟩ | (simp only [Act.eval, execOp]; go_simp; try exact ⟨rfl, rfl⟩)⟩, ?_⟩
          simp only [Act.put, List.getElem_toArray, List.getElem_cons_zero, List.getElem_cons_succ, List.setIfInBounds_toArray, List.set_cons_succ, List.set_cons_zero]
          refine ⟨_, _, (.agg #[.slice A9 zl.length c9, .int .i64 room]), rfl, rfl, ⟨rfl, fun W hW => by first | exact ⟨rfl, rfl⟩ | (simp only [Act.eval, execOp]; go_simp; try exact ⟨rfl, rfl⟩)⟩, ?_⟩
          simp only [Act.put, List.getElem_toArray, List.getElem_cons_zero, List.getElem_cons_succ, List.setIfInBounds_toArray, List.set_cons_succ, List.set_cons_zero]
          refine ⟨_, _, (.int .i64 zn), rfl, rfl, ⟨rfl, fun W hW => by first | exact ⟨rfl, rfl⟩ | (simp only [Act.eval, execOp]; go_simp; try exact ⟨rfl, rfl⟩)⟩, ?_⟩
          simp only [Act.put, List.getElem_toArray, List.getElem_cons_zero, List.getElem_cons_succ, List.setIfInBounds_toArray, List.set_cons_succ, List.set_cons_zero]
          refine ⟨_, _, (.int .i64 ze), rfl, rfl, ⟨rfl, fun W hW => by first | exact ⟨rfl, rfl⟩ | (simp only [Act.eval, execOp]; go_simp; try exact ⟨rfl, rfl⟩)⟩, ?_⟩
          simp only [Act.put, List.getElem_toArray, List.getElem_cons_zero, List.getElem_cons_succ, List.setIfInBounds_toArray, List.set_cons_succ, List.set_cons_zero]
          have hB9 := ((hBc7.setCell (p := ⟨wr.heap.size, 0, none⟩) (Nat.le_refl _) (.slice A9 zl.length c9)).setCell (p := ⟨wr.heap.size, 1, none⟩) (Nat.le_refl _) (.int .i64 room))
          have hS9 := stB_put (room := room) hrw7 N9 hcap9
          refine ⟨_, rfl, ?_⟩
          go_wp2_with fail
          refine ⟨rfl, hB9, ?_⟩
          refine ⟨_, rfl, ?_⟩
          go_wp2_with fail
          refine ⟨rfl, hB9, ?_⟩
          refine ⟨_, rfl, ?_⟩
          go_wp2_with fail
          refine ⟨rfl, hB9, ?_⟩
          show ∃ (A9 : Option Addr) (c9 b9 : Nat), _
          refine ⟨A9, c9, wr.heap.size, ?_, hS9, hB9⟩
          first | rfl | simp only [Act.put, List.getElem_toArray, List.getElem_cons_zero, List.getElem_cons_succ, List.setIfInBounds_toArray, List.set_cons_succ, List.set_cons_zero]
      rintro a9 w9 ⟨A9, c9, b9, rfl, hS9, hb9⟩
      simp only [Act.put, List.setIfInBounds_toArray, List.set_cons_succ, List.set_cons_zero]
      have hD9 := HDD.out.below hb9
      have hE9 := HEE.out.below hb9
      clear hsq hpu hbx
      by_cases hze : ze = 0
      · subst hze
        have u0 := hS9.s0
        have u1 := hS9.s1
        have g0 := hD9.box.s0
        have g1 := hD9.box.s1
        have f0 := hD9.box.f0
        have f1 := hD9.box.f1
        have hst := hD9.step hS9.rd hS9.cap hz2 hlt zn
        have n0 : ∀ u v, ((w9.setCell ⟨w2.heap.size + 1, 0, none⟩ u).setCell ⟨w2.heap.size + 1, 1, none⟩ v).cell? ⟨w2.heap.size, i, none⟩ = some (.int .i64 (f i)) := fun u v => N9.c (((Below.heap_setCell _ _ _ _ (by show w2.heap.size ≠ w2.heap.size + 1; omega)).trans (Below.heap_setCell _ _ _ _ (by show w2.heap.size ≠ w2.heap.size + 1; omega))).trans hD9.out) hlt
        have k0 : ∀ u v, ((w9.setCell ⟨w2.heap.size + 1, 0, none⟩ u).setCell ⟨w2.heap.size + 1, 1, none⟩ v).frozen? ⟨w2.heap.size, i, none⟩ = false := fun u v => N9.f (((Below.heap_setCell _ _ _ _ (by show w2.heap.size ≠ w2.heap.size + 1; omega)).trans (Below.heap_setCell _ _ _ _ (by show w2.heap.size ≠ w2.heap.size + 1; omega))).trans hD9.out) i
        have HST := Lib.hid hst
        clear hst hD9 hE9 hS9 hb9 HDD HEE
        go_wp2_with fail
        go_roundw
        case measure => simp [intOf]; omega
        case rel => exact ⟨i + 1, by omega, by go_num, by rw [HNX.out]; exact rfl, A9, c9, by rw [HNX.out]; exact HST.out⟩
      · have hzd : decide (ze = 0) = false := decide_eq_false hze
        have h9 : nineTo room l n 9 = (zl, fun j => if j = i then zn else f j, ze) := by
          have := HSTOP.out (by rw [HNX.out]; exact hze) (9 - (i + 1))
          rw [show i + 1 + (9 - (i + 1)) = 9 by omega] at this
          rw [this, HNX.out]
        have hZ : Z = (l, fun _ => 0, ze) := by rw [HZ.out]; unfold allZ; rw [h9, if_neg hze]
        clear HZ
        subst hZ
        have s0 := hE9.s0
        have s1 := hE9.s1
        have r0 := hE9.r0
        have r1 := hE9.r1
        have f0 := hE9.free 0
        have f1 := hE9.free 1
        have n0 := hE9.row.c (p := 0) (by decide)
        have k0 := hE9.row.f 0
        have n1 := hE9.row.c (p := 1) (by decide)
        have k1 := hE9.row.f 1
        have n2 := hE9.row.c (p := 2) (by decide)
        have k2 := hE9.row.f 2
        have n3 := hE9.row.c (p := 3) (by decide)
        have k3 := hE9.row.f 3
        have n4 := hE9.row.c (p := 4) (by decide)
        have k4 := hE9.row.f 4
        have n5 := hE9.row.c (p := 5) (by decide)
        have k5 := hE9.row.f 5
        have n6 := hE9.row.c (p := 6) (by decide)
        have k6 := hE9.row.f 6
        have n7 := hE9.row.c (p := 7) (by decide)
        have k7 := hE9.row.f 7
        have n8 := hE9.row.c (p := 8) (by decide)
        have k8 := hE9.row.f 8
        have hoff : RdOff (fun q => w.heap.size ≤ q) w9 w.heap.size A l := fun j hj => by
          obtain ⟨b, off, e, hlt, h0⟩ := (HRR.out.below hE9.bel (Nat.le_refl _)) j hj
          exact ⟨b, off, e, by omega, hlt, h0⟩
        have HT := Lib.hid (f9_told (C := fun W => RdOff (fun q => w.heap.size ≤ q) W w.heap.size A l) (B := w.heap.size) ⟨hE9.res, hE9.row, hE9.bel, hE9.bel.size, hoff⟩ (fun W b j x hb h => h.set (by rcases hb with rfl | rfl <;> omega) x) (.slice A l.length c) (.int .i64 room) 0 0 0 0 0 0 0 0 0)
        clear hD9 hE9 hS9 hb9 HDD HEE h9 hoff
        go_wp2_with fail
        refine bodyPost_ret (results_cells rfl _ _ _ _ _ _ _ _ _ _ _ _ rfl rfl HT.out.res HT.out.row Try.underlying27 rfl (by kernel_rfl) Try.underlying61 rfl (by kernel_rfl)) rfl ?_
        exact ⟨A, c, rfl, hc, HT.out.c.rdN.more HT.out.lo, HT.out.bel⟩
    · obtain rfl : i = 9 := by omega
      have hltz : ¬ ((9 : Nat) : Int) < 9 := by decide
      have hm2 := (nineTo_right HRT.out (n := n) 9).two
      have hZ : Z = ((nineTo room l n 9).1, (nineTo room l n 9).2.1, 0) := by
        rw [HZ.out]
        unfold allZ
        rw [if_pos HERR.out]
        exact Prod.ext rfl (Prod.ext rfl HERR.out)
      clear HZ HERR HH
      subst hZ
      generalize (nineTo room l n 9).2.1 = f at *
      generalize (nineTo room l n 9).1 = M at *
      have hEd := hE.below (below_drew wr)
      have hDd := HD.below (below_drew wr)
      have hoff := RdN.off9 (P := fun q => q = w.heap.size + 1 ∨ q = w.heap.size + 2) hDd.box.rd hm2 (fun q hq => by
        rcases hq with rfl | rfl
        · exact ⟨_, _, _, hEd.res, Nat.le_of_ble_eq_true rfl⟩
        · exact ⟨_, _, _, hEd.row, Nat.le_of_ble_eq_true rfl⟩)
      have hcl : ∀ (W : World) (b j : Nat) (x : Value), (b = w.heap.size + 1 ∨ b = w.heap.size + 2) → (N9 W w2.heap.size f ∧ W.heap[w2.heap.size + 1]? = some (.cells #[.slice A2 M.length c2, .int .i64 room] 27 (0, 0))) → (N9 (W.setCell ⟨b, j, none⟩ x) w2.heap.size f ∧ (W.setCell ⟨b, j, none⟩ x).heap[w2.heap.size + 1]? = some (.cells #[.slice A2 M.length c2, .int .i64 room] 27 (0, 0))) := fun W b j x hb h =>
        ⟨(Below.heap_setCell _ _ _ _ (by show w2.heap.size ≠ b; omega)).trans h.1, (Below.heap_setCell _ _ _ _ (by show w2.heap.size + 1 ≠ b; omega)).trans h.2⟩
      have hC0 : N9 wr.drew w2.heap.size f ∧ wr.drew.heap[w2.heap.size + 1]? = some (.cells #[.slice A2 M.length c2, .int .i64 room] 27 (0, 0)) := ⟨hDd.out, hDd.box.row⟩
      have hC2 := hcl _ _ 1 (.int .i64 room) (.inl rfl) (hcl _ _ 0 (.slice A2 M.length c2) (.inl rfl) hC0)
      have hC3 := hcl _ _ 8 (.int .i64 (f 8)) (.inr rfl) (hcl _ _ 7 (.int .i64 (f 7)) (.inr rfl) (hcl _ _ 6 (.int .i64 (f 6)) (.inr rfl) (hcl _ _ 5 (.int .i64 (f 5)) (.inr rfl) (hcl _ _ 4 (.int .i64 (f 4)) (.inr rfl) (hcl _ _ 3 (.int .i64 (f 3)) (.inr rfl) (hcl _ _ 2 (.int .i64 (f 2)) (.inr rfl) (hcl _ _ 1 (.int .i64 (f 1)) (.inr rfl) (hcl _ _ 0 (.int .i64 (f 0)) (.inr rfl) hC2))))))))
      have HT := Lib.hid (f9_told (C := fun W => RdOff (fun q => q = w.heap.size + 1 ∨ q = w.heap.size + 2) W wr.drew.heap.size A2 M) (B := wr.drew.heap.size) ⟨hEd.res, hEd.row, hEd.bel, Nat.le_refl _, hoff⟩ (fun W b j x hb h => h.set hb x) (.slice A2 M.length c2) (.int .i64 room) (f 0) (f 1) (f 2) (f 3) (f 4) (f 5) (f 6) (f 7) (f 8))
      have hcap := HD.box.cap
      have r0 := hEd.r0
      have r1 := hEd.r1
      have f0 := hEd.free 0
      have f1 := hEd.free 1
      have n0 := fun u v => N9.c (p := 0) (((Below.heap_setCell (wr.drew.setCell ⟨w.heap.size + 1, 0, none⟩ u) ⟨w.heap.size + 1, 1, none⟩ v _ (by show w.heap.size + 2 ≠ w.heap.size + 1; omega)).trans (Below.heap_setCell wr.drew ⟨w.heap.size + 1, 0, none⟩ u _ (by show w.heap.size + 2 ≠ w.heap.size + 1; omega))).trans hEd.row) (by decide)
      have k0 := fun u v => N9.f (((Below.heap_setCell (wr.drew.setCell ⟨w.heap.size + 1, 0, none⟩ u) ⟨w.heap.size + 1, 1, none⟩ v _ (by show w.heap.size + 2 ≠ w.heap.size + 1; omega)).trans (Below.heap_setCell wr.drew ⟨w.heap.size + 1, 0, none⟩ u _ (by show w.heap.size + 2 ≠ w.heap.size + 1; omega))).trans hEd.row) 0
      have n1 := fun u v => N9.c (p := 1) (((Below.heap_setCell (wr.drew.setCell ⟨w.heap.size + 1, 0, none⟩ u) ⟨w.heap.size + 1, 1, none⟩ v _ (by show w.heap.size + 2 ≠ w.heap.size + 1; omega)).trans (Below.heap_setCell wr.drew ⟨w.heap.size + 1, 0, none⟩ u _ (by show w.heap.size + 2 ≠ w.heap.size + 1; omega))).trans hEd.row) (by decide)
      have k1 := fun u v => N9.f (((Below.heap_setCell (wr.drew.setCell ⟨w.heap.size + 1, 0, none⟩ u) ⟨w.heap.size + 1, 1, none⟩ v _ (by show w.heap.size + 2 ≠ w.heap.size + 1; omega)).trans (Below.heap_setCell wr.drew ⟨w.heap.size + 1, 0, none⟩ u _ (by show w.heap.size + 2 ≠ w.heap.size + 1; omega))).trans hEd.row) 1
      have n2 := fun u v => N9.c (p := 2) (((Below.heap_setCell (wr.drew.setCell ⟨w.heap.size + 1, 0, none⟩ u) ⟨w.heap.size + 1, 1, none⟩ v _ (by show w.heap.size + 2 ≠ w.heap.size + 1; omega)).trans (Below.heap_setCell wr.drew ⟨w.heap.size + 1, 0, none⟩ u _ (by show w.heap.size + 2 ≠ w.heap.size + 1; omega))).trans hEd.row) (by decide)
      have k2 := fun u v => N9.f (((Below.heap_setCell (wr.drew.setCell ⟨w.heap.size + 1, 0, none⟩ u) ⟨w.heap.size + 1, 1, none⟩ v _ (by show w.heap.size + 2 ≠ w.heap.size + 1; omega)).trans (Below.heap_setCell wr.drew ⟨w.heap.size + 1, 0, none⟩ u _ (by show w.heap.size + 2 ≠ w.heap.size + 1; omega))).trans hEd.row) 2
      have n3 := fun u v => N9.c (p := 3) (((Below.heap_setCell (wr.drew.setCell ⟨w.heap.size + 1, 0, none⟩ u) ⟨w.heap.size + 1, 1, none⟩ v _ (by show w.heap.size + 2 ≠ w.heap.size + 1; omega)).trans (Below.heap_setCell wr.drew ⟨w.heap.size + 1, 0, none⟩ u _ (by show w.heap.size + 2 ≠ w.heap.size + 1; omega))).trans hEd.row) (by decide)
      have k3 := fun u v => N9.f (((Below.heap_setCell (wr.drew.setCell ⟨w.heap.size + 1, 0, none⟩ u) ⟨w.heap.size + 1, 1, none⟩ v _ (by show w.heap.size + 2 ≠ w.heap.size + 1; omega)).trans (Below.heap_setCell wr.drew ⟨w.heap.size + 1, 0, none⟩ u _ (by show w.heap.size + 2 ≠ w.heap.size + 1; omega))).trans hEd.row) 3
      have n4 := fun u v => N9.c (p := 4) (((Below.heap_setCell (wr.drew.setCell ⟨w.heap.size + 1, 0, none⟩ u) ⟨w.heap.size + 1, 1, none⟩ v _ (by show w.heap.size + 2 ≠ w.heap.size + 1; omega)).trans (Below.heap_setCell wr.drew ⟨w.heap.size + 1, 0, none⟩ u _ (by show w.heap.size + 2 ≠ w.heap.size + 1; omega))).trans hEd.row) (by decide)
      have k4 := fun u v => N9.f (((Below.heap_setCell (wr.drew.setCell ⟨w.heap.size + 1, 0, none⟩ u) ⟨w.heap.size + 1, 1, none⟩ v _ (by show w.heap.size + 2 ≠ w.heap.size + 1; omega)).trans (Below.heap_setCell wr.drew ⟨w.heap.size + 1, 0, none⟩ u _ (by show w.heap.size + 2 ≠ w.heap.size + 1; omega))).trans hEd.row) 4
      have n5 := fun u v => N9.c (p := 5) (((Below.heap_setCell (wr.drew.setCell ⟨w.heap.size + 1, 0, none⟩ u) ⟨w.heap.size + 1, 1, none⟩ v _ (by show w.heap.size + 2 ≠ w.heap.size + 1; omega)).trans (Below.heap_setCell wr.drew ⟨w.heap.size + 1, 0, none⟩ u _ (by show w.heap.size + 2 ≠ w.heap.size + 1; omega))).trans hEd.row) (by decide)
      have k5 := fun u v => N9.f (((Below.heap_setCell (wr.drew.setCell ⟨w.heap.size + 1, 0, none⟩ u) ⟨w.heap.size + 1, 1, none⟩ v _ (by show w.heap.size + 2 ≠ w.heap.size + 1; omega)).trans (Below.heap_setCell wr.drew ⟨w.heap.size + 1, 0, none⟩ u _ (by show w.heap.size + 2 ≠ w.heap.size + 1; omega))).trans hEd.row) 5
      have n6 := fun u v => N9.c (p := 6) (((Below.heap_setCell (wr.drew.setCell ⟨w.heap.size + 1, 0, none⟩ u) ⟨w.heap.size + 1, 1, none⟩ v _ (by show w.heap.size + 2 ≠ w.heap.size + 1; omega)).trans (Below.heap_setCell wr.drew ⟨w.heap.size + 1, 0, none⟩ u _ (by show w.heap.size + 2 ≠ w.heap.size + 1; omega))).trans hEd.row) (by decide)
      have k6 := fun u v => N9.f (((Below.heap_setCell (wr.drew.setCell ⟨w.heap.size + 1, 0, none⟩ u) ⟨w.heap.size + 1, 1, none⟩ v _ (by show w.heap.size + 2 ≠ w.heap.size + 1; omega)).trans (Below.heap_setCell wr.drew ⟨w.heap.size + 1, 0, none⟩ u _ (by show w.heap.size + 2 ≠ w.heap.size + 1; omega))).trans hEd.row) 6
      have n7 := fun u v => N9.c (p := 7) (((Below.heap_setCell (wr.drew.setCell ⟨w.heap.size + 1, 0, none⟩ u) ⟨w.heap.size + 1, 1, none⟩ v _ (by show w.heap.size + 2 ≠ w.heap.size + 1; omega)).trans (Below.heap_setCell wr.drew ⟨w.heap.size + 1, 0, none⟩ u _ (by show w.heap.size + 2 ≠ w.heap.size + 1; omega))).trans hEd.row) (by decide)
      have k7 := fun u v => N9.f (((Below.heap_setCell (wr.drew.setCell ⟨w.heap.size + 1, 0, none⟩ u) ⟨w.heap.size + 1, 1, none⟩ v _ (by show w.heap.size + 2 ≠ w.heap.size + 1; omega)).trans (Below.heap_setCell wr.drew ⟨w.heap.size + 1, 0, none⟩ u _ (by show w.heap.size + 2 ≠ w.heap.size + 1; omega))).trans hEd.row) 7
      have n8 := fun u v => N9.c (p := 8) (((Below.heap_setCell (wr.drew.setCell ⟨w.heap.size + 1, 0, none⟩ u) ⟨w.heap.size + 1, 1, none⟩ v _ (by show w.heap.size + 2 ≠ w.heap.size + 1; omega)).trans (Below.heap_setCell wr.drew ⟨w.heap.size + 1, 0, none⟩ u _ (by show w.heap.size + 2 ≠ w.heap.size + 1; omega))).trans hEd.row) (by decide)
      have k8 := fun u v => N9.f (((Below.heap_setCell (wr.drew.setCell ⟨w.heap.size + 1, 0, none⟩ u) ⟨w.heap.size + 1, 1, none⟩ v _ (by show w.heap.size + 2 ≠ w.heap.size + 1; omega)).trans (Below.heap_setCell wr.drew ⟨w.heap.size + 1, 0, none⟩ u _ (by show w.heap.size + 2 ≠ w.heap.size + 1; omega))).trans hEd.row) 8
      have HC0 := Lib.hid hC0
      have HC2 := Lib.hid hC2
      have HC3 := Lib.hid hC3
      clear hC0 hC2 hC3 hcl hoff hEd hDd hE HD
      go_wp2_with fail
      refine region_calm_to (fun W => N9 W w2.heap.size f ∧ W.heap[w2.heap.size + 1]? = some (.cells #[.slice A2 M.length c2, .int .i64 room] 27 (0, 0))) (fun (a0 a9 : Act) (w9 : World) => a9 = (((a0.put (some 43) (.agg #[.slice A2 M.length c2, .int .i64 room])).put (some 44) (.agg (row9 f))).put (some 6) (.int .i64 0)) ∧ (∃ g, Hid (F9 w w9 (fun W => RdOff (fun q => q = w.heap.size + 1 ∨ q = w.heap.size + 2) W wr.drew.heap.size A2 M) wr.drew.heap.size (.slice A2 M.length c2) (.int .i64 room) g) ∧ row9 g = row9 f)) (.calm 0 (.calm 1 (.only 2 (.only 3 (.calm 4 .done))))) (by kernel_rfl) (by kernel_rfl) (by kernel_rfl) (by rfl) HC0.out ?_ ?_
      · skip
        generalize wr.drew = wd at *
        refine ⟨_, _, (.agg #[.slice A2 M.length c2, .int .i64 room]), rfl, rfl, ⟨rfl, fun W hW => by have s0 := row2_c0 hW.2; have s1 := row2_c1 hW.2; simp only [execOp]; go_simp; done⟩, ?_⟩
        simp only [Act.put, List.getElem_toArray, List.getElem_cons_zero, List.getElem_cons_succ, List.setIfInBounds_toArray, List.set_cons_succ, List.set_cons_zero]
        refine ⟨_, _, (.agg (row9 f)), rfl, rfl, ⟨rfl, fun W hW => load9_quiet W _ f hW.1 _ _ _ rfl rfl⟩, ?_⟩
        simp only [Act.put, List.getElem_toArray, List.getElem_cons_zero, List.getElem_cons_succ, List.setIfInBounds_toArray, List.set_cons_succ, List.set_cons_zero]
        refine ⟨_, rfl, ?_⟩
        go_wp2_with fail
        refine ⟨rfl, HC2.out, ?_⟩
        refine ⟨_, rfl, ?_⟩
        go_wp2_with fail
        refine ⟨rfl, HC3.out, ?_⟩
        refine ⟨_, _, (.int .i64 0), rfl, rfl, ⟨rfl, fun W hW => by first | exact ⟨rfl, rfl⟩ | (simp only [Act.eval, execOp]; go_simp; try exact ⟨rfl, rfl⟩)⟩, ?_⟩
        simp only [Act.put, List.getElem_toArray, List.getElem_cons_zero, List.getElem_cons_succ, List.setIfInBounds_toArray, List.set_cons_succ, List.set_cons_zero]
        refine ⟨?_, _, HT, by simp⟩
        first | rfl | simp only [Act.put, List.getElem_toArray, List.getElem_cons_zero, List.getElem_cons_succ, List.setIfInBounds_toArray, List.set_cons_succ, List.set_cons_zero]
      rintro a9 w9 ⟨rfl, g, HF, hg⟩
      simp only [Act.put, List.setIfInBounds_toArray, List.set_cons_succ, List.set_cons_zero]
      have hrow : N9 w9 (w.heap.size + 2) f := by have h := HF.out.row; unfold N9 at *; rw [hg] at h; exact h
      have HW := Lib.hid hrow
      clear hrow HT HC0 HC2 HC3 r0 r1 f0 f1
      go_wp2_with fail
      refine bodyPost_ret (results_cells rfl _ _ _ _ _ _ _ _ _ _ _ _ rfl rfl HF.out.res HW.out Try.underlying27 rfl (by kernel_rfl) Try.underlying61 rfl (by kernel_rfl)) rfl ?_
      exact ⟨A2, c2, rfl, hcap, HF.out.c.rdN.more HF.out.lo, HF.out.bel⟩
end Go.Proofs.Ytikgnjcjbjafaaa
