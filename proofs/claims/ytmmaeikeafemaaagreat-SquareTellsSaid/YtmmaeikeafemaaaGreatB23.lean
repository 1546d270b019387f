/-
  Texts that the claims of this seat share, part 23.
-/
import Derived.Test.YtmmaeikeafemaaaGreatB20
import Derived.Test.YtmmaeikeafemaaaGreatB22
import Derived.Test.YtmmaeikeafemaaaGreatB11
set_option linter.unusedVariables false
set_option linter.unusedSimpArgs false
namespace Go.Proofs.YtmmaeikeafemaaaGreat
set_option maxRecDepth 100000
set_option linter.unusedVariables false
set_option linter.unusedSimpArgs false
open Go.RowKit Go.Sort

theorem setC_agree {room : Int} {s c : Int × Int} {a : Bool} : ∀ (k : Nat) (l : List Nd) (n : Nat), Agree k s c → setC room k l n s a = setC room k l n c a
  | 0, _, _, _ => rfl
  | k + 1, l, n, h => by
    obtain ⟨h1, h2⟩ := agree_succ.1 h
    unfold setC
    rw [h1, setC_agree k l _ h2]
theorem setC_qr {room : Int} {l : List Nd} {k n : Nat} {c : Int × Int} {a : Bool} (h : insideB k c = true) : setC room (k + 1) l n (hfC (k + 1) c) a = if (setC room k l (kidN l n (qrK c)) (hfC k (qrD k c)) a).2.2 = 0 then put6 (setC room k l (kidN l n (qrK c)) (hfC k (qrD k c)) a).1 room (kset (l.getD n deadN).2.1 (qrK c) (setC room k l (kidN l n (qrK c)) (hfC k (qrD k c)) a).2.1) else ((setC room k l (kidN l n (qrK c)) (hfC k (qrD k c)) a).1, 0, (setC room k l (kidN l n (qrK c)) (hfC k (qrD k c)) a).2.2) := by
  have e : setC room k l (kidN l n (qrK c)) (hfC k (qrD k c)) a = setC room k l (kidN l n (q7 k (inwardC k c))) (inwardC k c) a := by rw [q7_qr h, setC_agree k l _ (agree_qr k c)]
  rw [e, ← q7_qr h]
  rfl
/-- what is known in set: the boxes of the store, the place, what is told, the node -/
structure SeAt (w wr : World) (A : Option Addr) (n c : Nat) (room : Int) (p : Int × Int) (lev : Int) (kk : Kd) (pp : Int) : Prop where
  st : wr.heap[w.heap.size]? = some (.cells #[.slice A n c, .int .i64 room] 26 (0, 0))
  cl : ClB wr (w.heap.size + 1) p
  res : wr.heap[w.heap.size + 2]? = some (.cells #[.slice none 0 0, .int .i64 0] 26 (0, 0))
  nd : NR wr (w.heap.size + 3) lev kk pp
  bel : Below w.heap.size w wr
section
variable {w wr w' : World} {A : Option Addr} {n c : Nat} {room : Int} {p : Int × Int} {lev : Int} {kk : Kd} {pp : Int}
theorem SeAt.sz (h : SeAt w wr A n c room p lev kk pp) : w.heap.size + 4 ≤ wr.heap.size := lt_heap6 h.nd
theorem SeAt.low (h : SeAt w wr A n c room p lev kk pp) (hb : Below (w.heap.size + 4) wr w') : SeAt w w' A n c room p lev kk pp :=
  ⟨(hb.block _ (by omega)).trans h.st, ⟨(hb.block _ (by omega)).trans h.cl.row⟩, (hb.block _ (by omega)).trans h.res, (hb.block _ (by omega)).trans h.nd, h.bel.trans (hb.mono (by omega))⟩
theorem SeAt.below (h : SeAt w wr A n c room p lev kk pp) (hb : Below wr.heap.size wr w') : SeAt w w' A n c room p lev kk pp := h.low (hb.mono h.sz)
theorem SeAt.s0 (h : SeAt w wr A n c room p lev kk pp) : wr.cell? ⟨w.heap.size, 0, none⟩ = some (.slice A n c) := by rw [Lib.cell_of_heap h.st]; rfl
theorem SeAt.s1 (h : SeAt w wr A n c room p lev kk pp) : wr.cell? ⟨w.heap.size, 1, none⟩ = some (.int .i64 room) := by rw [Lib.cell_of_heap h.st]; rfl
theorem SeAt.r0 (h : SeAt w wr A n c room p lev kk pp) : wr.cell? ⟨w.heap.size + 2, 0, none⟩ = some (.slice none 0 0) := by rw [Lib.cell_of_heap h.res]; rfl
theorem SeAt.r1 (h : SeAt w wr A n c room p lev kk pp) : wr.cell? ⟨w.heap.size + 2, 1, none⟩ = some (.int .i64 0) := by rw [Lib.cell_of_heap h.res]; rfl
theorem SeAt.free (h : SeAt w wr A n c room p lev kk pp) (j : Nat) : wr.frozen? ⟨w.heap.size + 2, j, none⟩ = false := Lib.frozen_of_heap h.res j
theorem SeAt.told {A2 : Option Addr} {pl : List Nd} (h : SeAt w wr A n c room p lev kk pp) (hN : NowN wr A2 pl) (u v : Value) : ((wr.setCell ⟨w.heap.size + 2, 0, none⟩ u).setCell ⟨w.heap.size + 2, 1, none⟩ v).heap[w.heap.size + 2]? = some (.cells #[u, v] 26 (0, 0)) ∧ Below w.heap.size w ((wr.setCell ⟨w.heap.size + 2, 0, none⟩ u).setCell ⟨w.heap.size + 2, 1, none⟩ v) ∧ NowN ((wr.setCell ⟨w.heap.size + 2, 0, none⟩ u).setCell ⟨w.heap.size + 2, 1, none⟩ v) A2 pl := by
  have hr := h.res
  exact ⟨by simp [World.setCell, Array.getElem?_modify, hr], below_set2c h.bel (by omega) u v, (rdN_told hN h.res).more (by simp [World.setCell])⟩
end
theorem SeAt.kid {w wr : World} {A : Option Addr} {n c : Nat} {room : Int} {p : Int × Int} {lev : Int} {kk : Kd} {pp : Int} (h : SeAt w wr A n c room p lev kk pp) {i : Nat} (hi : i < 4) (v : Int) : SeAt w (wr.setCell ⟨w.heap.size + 3, 1 + i, none⟩ (.int .i64 v)) A n c room p lev (kset kk i v) pp := by
  have ho : ∀ b, b ≠ w.heap.size + 3 → (wr.setCell ⟨w.heap.size + 3, 1 + i, none⟩ (.int .i64 v)).heap[b]? = wr.heap[b]? := fun b hb => Below.heap_setCell _ _ _ _ (by show b ≠ w.heap.size + 3; exact hb)
  exact ⟨(ho _ (by omega)).trans h.st, ⟨(ho _ (by omega)).trans h.cl.row⟩, (ho _ (by omega)).trans h.res, h.nd.set hi v, h.bel.setCell (by show w.heap.size ≤ w.heap.size + 3; omega) _⟩
/-- a slice of two nodes and more does not lie in a block of eleven cells at most -/
theorem rdN_two {w : World} {B q T j : Nat} {A : Option Addr} {l : List Nd} {cs : Array Value} {fz : Nat × Nat} (h : RdN w B A l) (h2 : 2 ≤ l.length) (hrow : w.heap[q]? = some (.cells cs T fz)) (hsz : cs.size ≤ 11) (u : Value) : RdN (w.setCell ⟨q, j, none⟩ u) B A l := fun i hi => by
  obtain ⟨b, off, e, hlt, h0⟩ := h i hi
  have hne : b ≠ q := fun hb => by
    subst hb
    obtain ⟨b', off', e', _, h1⟩ := h 1 (by omega)
    rw [e] at e'
    injection e' with e'
    injection e' with e1 e2
    subst e1 e2
    obtain ⟨_, _, _, _, _, h5⟩ := h1
    rw [Lib.cell_of_heap hrow (off + 1 * 6 + 5), Array.getElem?_eq_none (by omega)] at h5
    cases h5
  have hb : (w.setCell ⟨q, j, none⟩ u).heap[b]? = w.heap[b]? := Below.heap_setCell _ _ _ _ (by show b ≠ q; exact hne)
  have hc : ∀ o, (w.setCell ⟨q, j, none⟩ u).cell? ⟨b, o, none⟩ = w.cell? ⟨b, o, none⟩ := fun o => World.cell?_of_block (w := w) hb
  obtain ⟨h0, h1, h2, h3, h4, h5⟩ := h0
  exact ⟨b, off, e, hlt, (hc _).trans h0, (hc _).trans h1, (hc _).trans h2, (hc _).trans h3, (hc _).trans h4, (hc _).trans h5⟩
/-- with no error it is what was told -/
def WhenZ (ze : Int) (M zl : List Nd) : Prop := ze = 0 → M = zl
def SetAt (l : List Nd) (room : Int) (k : Nat) : Prop := ∀ (A : Option Addr) (c : Nat) (n : Nat) (p : Int × Int) (a : Bool) (w : World), Is l k n → RdN w w.heap.size A l → l.length ≤ c → InK k p →
    Calls Tryz.prog 54 #[storeV A l.length c room, .int .i64 (n : Nat), cellV p, .bool a] w (PutE (setC room k l n (hfC k p) a) room w)
set_option maxHeartbeats 16000000 in
theorem set_at {room : Int} (l : List Nd) (hr : Right6 l room) : ∀ k, k ≤ 42 → SetAt l room k := by
  intro k
  induction k with
  | zero =>
    intro _ A c n p a w hn hR hc hin
    have HRR := Lib.hid hR
    obtain ⟨b0, off, rfl, hbB, hcell⟩ := hR.at_ (by have := hr.two; omega)
    obtain ⟨x0, x1, x2, x3, x4, x5⟩ := hcell n hn.lt
    obtain ⟨px, py⟩ := p
    have hlev : (l.getD n deadN).1 = 0 := hn.lev
    rw [hlev] at x0
    have hnz : (n : Int) < (l.length : Int) := by have := hn.lt; omega
    have hal1 := (Below.refl w.heap.size w).alloc (Nat.le_refl _) (.cells #[.slice (some ⟨b0, off, none⟩) l.length c, .int .i64 room] 26)
    have hal2 := hal1.alloc hal1.size (.cells #[.int .i64 px, .int .i64 py] 28)
    have hal2 := hal2.alloc hal2.size (.cells #[.slice none 0 0, .int .i64 0] 26)
    have y0 := Qt.keep hal2 x0
    have y1 := Qt.keep hal2 x1
    have y2 := Qt.keep hal2 x2
    have y3 := Qt.keep hal2 x3
    have y4 := Qt.keep hal2 x4
    have y5 := Qt.keep hal2 x5
    generalize (l.getD n deadN) = x at *
    obtain ⟨lv, kk, pp⟩ := x
    dsimp only at y1 y2 y3 y4 y5
    have hs1 : (w.alloc (.cells #[.slice (some ⟨b0, off, none⟩) l.length c, .int .i64 room] 26)).heap.size = w.heap.size + 1 := by simp
    have hs2 : ((w.alloc (.cells #[.slice (some ⟨b0, off, none⟩) l.length c, .int .i64 room] 26)).alloc (.cells #[.int .i64 px, .int .i64 py] 28)).heap.size = w.heap.size + 2 := by simp
    have hs3 : (((w.alloc (.cells #[.slice (some ⟨b0, off, none⟩) l.length c, .int .i64 room] 26)).alloc (.cells #[.int .i64 px, .int .i64 py] 28)).alloc (.cells #[.slice none 0 0, .int .i64 0] 26)).heap.size = w.heap.size + 3 := by simp
    have hal3 := hal2.alloc hal2.size (.cells #[.int .i64 0, .int .i64 kk.1, .int .i64 kk.2.1, .int .i64 kk.2.2.1, .int .i64 kk.2.2.2, .int .i64 pp] 57)
    have HF0 := Lib.hid (show SeAt w ((((w.alloc (.cells #[.slice (some ⟨b0, off, none⟩) l.length c, .int .i64 room] 26)).alloc (.cells #[.int .i64 px, .int .i64 py] 28)).alloc (.cells #[.slice none 0 0, .int .i64 0] 26)).alloc (.cells #[.int .i64 0, .int .i64 kk.1, .int .i64 kk.2.1, .int .i64 kk.2.2.1, .int .i64 kk.2.2.2, .int .i64 pp] 57)) (some ⟨b0, off, none⟩) l.length c room (px, py) 0 kk pp from
      ⟨heap_old (heap_old (heap_old (heap_new rfl))), ⟨heap_old (heap_old (heap_new hs1))⟩, heap_old (heap_new hs2), heap_new hs3, hal3⟩)
    have s0 : (((w.alloc (.cells #[.slice (some ⟨b0, off, none⟩) l.length c, .int .i64 room] 26)).alloc (.cells #[.int .i64 px, .int .i64 py] 28)).alloc (.cells #[.slice none 0 0, .int .i64 0] 26)).cell? ⟨w.heap.size, 0, none⟩ = some (.slice (some ⟨b0, off, none⟩) l.length c) := by rw [Lib.cell_of_heap (heap_old (heap_old (heap_new rfl)))]; rfl
    have hf : setC room 0 l n (hfC 0 (px, py)) a = (l, if a = true then 1 else 0, 0) := rfl
    rw [hf]
    have hal4 := hal1.alloc hal1.size (.cells #[.int .i64 px, .int .i64 py] 28)
    have hal4 := hal4.alloc hal4.size (.cells #[.slice (some ⟨b0, off, none⟩) l.length c, .int .i64 room] 26)
    have hal4 := hal4.alloc hal4.size (.cells #[.int .i64 0, .int .i64 kk.1, .int .i64 kk.2.1, .int .i64 kk.2.2.1, .int .i64 kk.2.2.2, .int .i64 pp] 57)
    have HT : Hid (((((w.alloc (.cells #[.slice (some ⟨b0, off, none⟩) l.length c, .int .i64 room] 26)).alloc (.cells #[.int .i64 px, .int .i64 py] 28)).alloc (.cells #[.slice (some ⟨b0, off, none⟩) l.length c, .int .i64 room] 26)).alloc (.cells #[.int .i64 0, .int .i64 kk.1, .int .i64 kk.2.1, .int .i64 kk.2.2.1, .int .i64 kk.2.2.2, .int .i64 pp] 57)).heap[w.heap.size + 2]? = some (.cells #[.slice (some ⟨b0, off, none⟩) l.length c, .int .i64 room] 26 (0, 0)) ∧ Below w.heap.size w ((((w.alloc (.cells #[.slice (some ⟨b0, off, none⟩) l.length c, .int .i64 room] 26)).alloc (.cells #[.int .i64 px, .int .i64 py] 28)).alloc (.cells #[.slice (some ⟨b0, off, none⟩) l.length c, .int .i64 room] 26)).alloc (.cells #[.int .i64 0, .int .i64 kk.1, .int .i64 kk.2.1, .int .i64 kk.2.2.1, .int .i64 kk.2.2.2, .int .i64 pp] 57)) ∧ NowN ((((w.alloc (.cells #[.slice (some ⟨b0, off, none⟩) l.length c, .int .i64 room] 26)).alloc (.cells #[.int .i64 px, .int .i64 py] 28)).alloc (.cells #[.slice (some ⟨b0, off, none⟩) l.length c, .int .i64 room] 26)).alloc (.cells #[.int .i64 0, .int .i64 kk.1, .int .i64 kk.2.1, .int .i64 kk.2.2.1, .int .i64 kk.2.2.2, .int .i64 pp] 57)) (some ⟨b0, off, none⟩) l) := ⟨heap_old (heap_new hs2), hal4, (HRR.out.below hal4 (Nat.le_refl _)).more hal4.size⟩
    have t0 := HF0.out.s0
    have t1 := HF0.out.s1
    have r0 := HF0.out.r0
    have r1 := HF0.out.r1
    have fr0 := HF0.out.free 0
    have fr1 := HF0.out.free 1
    have l0 := HF0.out.nd.lev_
    unfold storeV cellV
    clear hcell x0 x1 x2 x3 x4 x5 hal1 hal2 hal3 hal4 hR hs1 hs2 hs3 hf hn hlev HF0
    cases a with
    | true =>
      go_enter Tryz.func54, Tryz.ntmps54
      go_wp2_with fail
      clear r0 r1 fr0 fr1 t0 t1
      refine bodyPost_ret (results_cell3 rfl _ _ _ _ _ _ _ rfl HT.out.1 Tryz.underlying26 rfl (by kernel_rfl)) rfl ?_
      exact PutR.putE (p := (l, 1, 0)) ⟨_, rfl, ⟨_, c, rfl, hc, HT.out.2.2⟩, HT.out.2.1⟩
    | false =>
      go_enter Tryz.func54, Tryz.ntmps54
      go_wp2_with fail
      clear r0 r1 fr0 fr1 t0 t1
      refine bodyPost_ret (results_cell3 rfl _ _ _ _ _ _ _ rfl HT.out.1 Tryz.underlying26 rfl (by kernel_rfl)) rfl ?_
      exact PutR.putE (p := (l, 0, 0)) ⟨_, rfl, ⟨_, c, rfl, hc, HT.out.2.2⟩, HT.out.2.1⟩
  | succ k ih =>
    intro hk A c n p a w hn hR hc hin
    have HRR := Lib.hid hR
    have hbd := inK_bd (by omega) hin
    rw [setC_qr hin]
    have hq := fun W => refQuarter_any k (by omega) p hbd W
    have hinq := inK_qr hin
    have hq4 := qrK_lt p
    obtain ⟨b0, off, rfl, hbB, hcell⟩ := hR.at_ (by have := hr.two; omega)
    obtain ⟨x0, x1, x2, x3, x4, x5⟩ := hcell n hn.lt
    rw [hn.lev, show ((k + 1 : Nat) : Int) = (k : Int) + 1 by omega] at x0
    obtain ⟨px, py⟩ := p
    have hal1 := (Below.refl w.heap.size w).alloc (Nat.le_refl _) (.cells #[.slice (some ⟨b0, off, none⟩) l.length c, .int .i64 room] 26)
    have hal2 := hal1.alloc hal1.size (.cells #[.int .i64 px, .int .i64 py] 28)
    have hal2 := hal2.alloc hal2.size (.cells #[.slice none 0 0, .int .i64 0] 26)
    have y0 := Qt.keep hal2 x0
    have y1 := Qt.keep hal2 x1
    have y2 := Qt.keep hal2 x2
    have y3 := Qt.keep hal2 x3
    have y4 := Qt.keep hal2 x4
    have y5 := Qt.keep hal2 x5
    have hkid : kd (l.getD n deadN).2.1 (qrK (px, py)) = ((kidN l n (qrK (px, py)) : Nat) : Int) := kid_cast hr hn hq4
    have hkis := kid_is hr hn hq4
    have hih := ih (by omega)
    have hzr := setC_right k l (kidN l n (qrK (px, py))) (hfC k (qrD k (px, py))) a hr
    have hset0 := fun W (hR' : RdN W W.heap.size (some ⟨b0, off, none⟩) l) => hih (some ⟨b0, off, none⟩) c (kidN l n (qrK (px, py))) (qrD k (px, py)) a W hkis hR' hc hinq
    generalize setC room k l (kidN l n (qrK (px, py))) (hfC k (qrD k (px, py))) a = z at *
    obtain ⟨zl, zn, ze⟩ := z
    dsimp only at hzr
    have hz2 := hzr.two
    rw [← hkid] at hset0
    obtain ⟨⟨lv, kk, pp⟩, hnode⟩ : ∃ x, x = l.getD n deadN := ⟨_, rfl⟩
    rw [← hnode] at y1 y2 y3 y4 y5 hset0 ⊢
    dsimp only at y1 y2 y3 y4 y5 hset0 ⊢
    have hnz : (n : Int) < (l.length : Int) := by have := hn.lt; omega
    have hs1 : (w.alloc (.cells #[.slice (some ⟨b0, off, none⟩) l.length c, .int .i64 room] 26)).heap.size = w.heap.size + 1 := by simp
    have hs2 : ((w.alloc (.cells #[.slice (some ⟨b0, off, none⟩) l.length c, .int .i64 room] 26)).alloc (.cells #[.int .i64 px, .int .i64 py] 28)).heap.size = w.heap.size + 2 := by simp
    have hs3 : (((w.alloc (.cells #[.slice (some ⟨b0, off, none⟩) l.length c, .int .i64 room] 26)).alloc (.cells #[.int .i64 px, .int .i64 py] 28)).alloc (.cells #[.slice none 0 0, .int .i64 0] 26)).heap.size = w.heap.size + 3 := by simp
    have hal3 := hal2.alloc hal2.size (.cells #[.int .i64 ((k : Int) + 1), .int .i64 kk.1, .int .i64 kk.2.1, .int .i64 kk.2.2.1, .int .i64 kk.2.2.2, .int .i64 pp] 57)
    have HF0 := Lib.hid (show SeAt w ((((w.alloc (.cells #[.slice (some ⟨b0, off, none⟩) l.length c, .int .i64 room] 26)).alloc (.cells #[.int .i64 px, .int .i64 py] 28)).alloc (.cells #[.slice none 0 0, .int .i64 0] 26)).alloc (.cells #[.int .i64 ((k : Int) + 1), .int .i64 kk.1, .int .i64 kk.2.1, .int .i64 kk.2.2.1, .int .i64 kk.2.2.2, .int .i64 pp] 57)) (some ⟨b0, off, none⟩) l.length c room (px, py) ((k : Int) + 1) kk pp from
      ⟨heap_old (heap_old (heap_old (heap_new rfl))), ⟨heap_old (heap_old (heap_new hs1))⟩, heap_old (heap_new hs2), heap_new hs3, hal3⟩)
    have s0 : (((w.alloc (.cells #[.slice (some ⟨b0, off, none⟩) l.length c, .int .i64 room] 26)).alloc (.cells #[.int .i64 px, .int .i64 py] 28)).alloc (.cells #[.slice none 0 0, .int .i64 0] 26)).cell? ⟨w.heap.size, 0, none⟩ = some (.slice (some ⟨b0, off, none⟩) l.length c) := by rw [Lib.cell_of_heap (heap_old (heap_old (heap_new rfl)))]; rfl
    have l0 := HF0.out.nd.lev_
    have c0 := HF0.out.cl.c0
    have c1 := HF0.out.cl.c1
    dsimp only at c0 c1
    have hk1 : (((k : Int) + 1) == 0) = false := beq_eq_false_iff_ne.2 (by omega)
    have hk2 : ¬ (k : Int) + 1 = 0 := by omega
    have hput := fun (A2 : Option Addr) (c2 : Nat) W (hN : RdN W W.heap.size A2 zl) (hc2 : zl.length ≤ c2) => refPut7 (A := A2) (c := c2) (kset kk (qrK (px, py)) zn) hN hzr hc2
    unfold storeV cellV at hset0
    unfold cellV at hq
    unfold storeV cellV
    generalize qrK (px, py) = kq at *
    generalize qrD k (px, py) = dd at *
    obtain ⟨dx, dy⟩ := dd
    dsimp only at hq hset0
    obtain ⟨Y, hY⟩ : ∃ Y, Y = (if ze = 0 then put6 zl room (kset kk kq zn) else (zl, 0, ze)) := ⟨_, rfl⟩
    rw [← hY]
    have HY := Lib.hid hY
    clear hY
    have HS0 := Lib.hid hset0
    have HQ := Lib.hid hq
    have HPUT := Lib.hid hput
    clear hcell x0 x1 x2 x3 x4 x5 hnode hkid hkis hal1 hal2 hal3 hR ih hih hs1 hs2 hs3 hinq hset0 hq hin hbd hzr hput
    go_enter Tryz.func54, Tryz.ntmps54
    go_wp2_with fail
    clear y0 y1 y2 y3 y4 y5 l0 c0 c1 s0
    generalize ((((w.alloc (.cells #[.slice (some ⟨b0, off, none⟩) l.length c, .int .i64 room] 26)).alloc (.cells #[.int .i64 px, .int .i64 py] 28)).alloc (.cells #[.slice none 0 0, .int .i64 0] 26)).alloc (.cells #[.int .i64 ((k : Int) + 1), .int .i64 kk.1, .int .i64 kk.2.1, .int .i64 kk.2.2.1, .int .i64 kk.2.2.2, .int .i64 pp] 57)) = w3 at *
    refine (HQ.out w3).mono ?_
    rintro r w4 ⟨rfl, hb4⟩
    have hF4 := HF0.out.below hb4
    have hal := (Below.refl w4.heap.size w4).alloc (Nat.le_refl _) (.cells #[.int .i64 dx, .int .i64 dy] 28)
    have HF5 := Lib.hid (hF4.below hal)
    have HD5 := Lib.hid (clB_new (w := w4) (dx, dy))
    clear hb4 hF4 hal HF0 HQ
    go_wp2_with fail
    generalize (w4.alloc (.cells #[.int .i64 dx, .int .i64 dy] 28)) = v5 at *
    generalize w4.heap.size = db at *
    have hq4z : (kq : Int) < 4 := by omega
    have hst := fun W (hW : Below v5.heap.size v5 W) => HF5.out.below hW
    have hkq := fun W (hW : Below v5.heap.size v5 W) => (HF5.out.below hW).nd.kid hq4
    have hdd := fun W (hW : Below v5.heap.size v5 W) => HD5.out.below hW
    have hset := fun W (hW : Below v5.heap.size v5 W) => HS0.out W ((HRR.out.below (HF5.out.below hW).bel (Nat.le_refl _)).more (HF5.out.below hW).bel.size)
    refine region_calm_to (fun W => Below v5.heap.size v5 W) (fun (a0 a9 : Act) (w9 : World) => ∃ (M : List Nd) (A9 : Option Addr) (c9 b9 : Nat), a9 = (((((((((((((((a0.put (some 41) (.agg #[.slice (some ⟨b0, off, none⟩) l.length c, .int .i64 room])).put (some 42) (.int .i64 (kq : Int))).put (some 43) (.pointer (some ⟨w.heap.size + 3, 1, none⟩))).put (some 44) (.pointer (some ⟨w.heap.size + 3, 1 + kq, none⟩))).put (some 45) (.int .i64 (kd kk kq))).put (some 46) (.agg #[.int .i64 dx, .int .i64 dy])).put (some 47) (.bool a)).put (some 48) (.tuple #[.agg #[.slice A9 M.length c9, .int .i64 room], .int .i64 zn, .int .i64 ze])).put (some 40) (.tuple #[.agg #[.slice A9 M.length c9, .int .i64 room], .int .i64 zn, .int .i64 ze])).put (some 49) (.agg #[.slice A9 M.length c9, .int .i64 room])).put (some 50) (.int .i64 zn)).put (some 51) (.int .i64 ze)).put (some 14) (.pointer (some ⟨b9, 0, none⟩))).put (some 15) (.int .i64 zn)).put (some 16) (.int .i64 ze)) ∧ (Hid (WhenZ ze M zl) ∧ StB w9 b9 A9 M c9 room ∧ Below v5.heap.size v5 w9)) (.calm 0 (.calm 1 (.calm 2 (.calm 3 (.calm 4 (.calm 5 (.calm 6 (.two 7 12 (.calm 8 (.calm 9 (.calm 10 (.calm 11 (.only 12 (.only 13 (.only 14 (.only 15 .done)))))))) (.only 7 (.calm 8 (.calm 9 (.calm 10 (.calm 11 (.only 13 (.only 14 (.only 15 .done)))))))))))))))) (by kernel_rfl) (by kernel_rfl) (by kernel_rfl) (by rfl) (below_drew _) ?_ ?_
    · skip
      refine ⟨_, _, (.agg #[.slice (some ⟨b0, off, none⟩) l.length c, .int .i64 room]), rfl, rfl, ⟨rfl, fun W hW => by have s0 := (hst W hW).s0; have s1 := (hst W hW).s1; simp only [execOp]; go_simp; done⟩, ?_⟩
      simp only [Act.put, List.getElem_toArray, List.getElem_cons_zero, List.getElem_cons_succ, List.setIfInBounds_toArray, List.set_cons_succ, List.set_cons_zero]
      refine ⟨_, _, (.int .i64 (kq : Int)), rfl, rfl, ⟨rfl, fun W hW => by first | exact ⟨rfl, rfl⟩ | (simp only [Act.eval, execOp]; go_simp; try exact ⟨rfl, rfl⟩)⟩, ?_⟩
      simp only [Act.put, List.getElem_toArray, List.getElem_cons_zero, List.getElem_cons_succ, List.setIfInBounds_toArray, List.set_cons_succ, List.set_cons_zero]
      refine ⟨_, _, (.pointer (some ⟨w.heap.size + 3, 1, none⟩)), rfl, rfl, ⟨rfl, fun W hW => by first | exact ⟨rfl, rfl⟩ | (simp only [Act.eval, execOp]; go_simp; try exact ⟨rfl, rfl⟩)⟩, ?_⟩
      simp only [Act.put, List.getElem_toArray, List.getElem_cons_zero, List.getElem_cons_succ, List.setIfInBounds_toArray, List.set_cons_succ, List.set_cons_zero]
      refine ⟨_, _, (.pointer (some ⟨w.heap.size + 3, 1 + kq, none⟩)), rfl, rfl, ⟨rfl, fun W hW => by first | exact ⟨rfl, rfl⟩ | (simp only [Act.eval, execOp]; go_simp; try exact ⟨rfl, rfl⟩)⟩, ?_⟩
      simp only [Act.put, List.getElem_toArray, List.getElem_cons_zero, List.getElem_cons_succ, List.setIfInBounds_toArray, List.set_cons_succ, List.set_cons_zero]
      refine ⟨_, _, (.int .i64 (kd kk kq)), rfl, rfl, ⟨rfl, fun W hW => by have s0 := hkq W hW; simp only [execOp]; go_simp; done⟩, ?_⟩
      simp only [Act.put, List.getElem_toArray, List.getElem_cons_zero, List.getElem_cons_succ, List.setIfInBounds_toArray, List.set_cons_succ, List.set_cons_zero]
      refine ⟨_, _, (.agg #[.int .i64 dx, .int .i64 dy]), rfl, rfl, ⟨rfl, fun W hW => by have s0 := (hdd W hW).c0; have s1 := (hdd W hW).c1; simp only at s0 s1; simp only [execOp]; go_simp; done⟩, ?_⟩
      simp only [Act.put, List.getElem_toArray, List.getElem_cons_zero, List.getElem_cons_succ, List.setIfInBounds_toArray, List.set_cons_succ, List.set_cons_zero]
      refine ⟨_, _, (.bool a), rfl, rfl, ⟨rfl, fun W hW => by first | exact ⟨rfl, rfl⟩ | (simp only [Act.eval, execOp]; go_simp; try exact ⟨rfl, rfl⟩)⟩, ?_⟩
      simp only [Act.put, List.getElem_toArray, List.getElem_cons_zero, List.getElem_cons_succ, List.setIfInBounds_toArray, List.set_cons_succ, List.set_cons_zero]
      constructor
      · skip
        refine ⟨_, rfl, ?_⟩
        go_wp2_with fail
        refine (hset _ (below_drew v5)).mono ?_
        intro e w8 h
        obtain ⟨M, A9, c9, hM, rfl, hcap9, N9, hb⟩ := putE_box h
        have HM := Lib.hid (show WhenZ ze M zl from hM)
        clear hM h
        have hBc1 := Qt.more (below_drew v5) (Nat.le_refl _) hb
        have hb_0_1 := hb
        go_wp2_with fail
        refine ⟨rfl, hBc1, ?_⟩
        refine ⟨_, _, (.tuple #[.agg #[.slice A9 M.length c9, .int .i64 room], .int .i64 zn, .int .i64 ze]), rfl, rfl, ⟨rfl, fun W hW => by first | exact ⟨rfl, rfl⟩ | (simp only [Act.eval, execOp]; go_simp; try exact ⟨rfl, rfl⟩)⟩, ?_⟩
        simp only [Act.put, List.getElem_toArray, List.getElem_cons_zero, List.getElem_cons_succ, List.setIfInBounds_toArray, List.set_cons_succ, List.set_cons_zero]
        refine ⟨_, _, (.agg #[.slice A9 M.length c9, .int .i64 room]), rfl, rfl, ⟨rfl, fun W hW => by first | exact ⟨rfl, rfl⟩ | (simp only [Act.eval, execOp]; go_simp; try exact ⟨rfl, rfl⟩)⟩, ?_⟩
        simp only [Act.put, List.getElem_toArray, List.getElem_cons_zero, List.getElem_cons_succ, List.setIfInBounds_toArray, List.set_cons_succ, List.set_cons_zero]
        refine ⟨_, _, (.int .i64 zn), rfl, rfl, ⟨rfl, fun W hW => by first | exact ⟨rfl, rfl⟩ | (simp only [Act.eval, execOp]; go_simp; try exact ⟨rfl, rfl⟩)⟩, ?_⟩
        simp only [Act.put, List.getElem_toArray, List.getElem_cons_zero, List.getElem_cons_succ, List.setIfInBounds_toArray, List.set_cons_succ, List.set_cons_zero]
        refine ⟨_, _, (.int .i64 ze), rfl, rfl, ⟨rfl, fun W hW => by first | exact ⟨rfl, rfl⟩ | (simp only [Act.eval, execOp]; go_simp; try exact ⟨rfl, rfl⟩)⟩, ?_⟩
        simp only [Act.put, List.getElem_toArray, List.getElem_cons_zero, List.getElem_cons_succ, List.setIfInBounds_toArray, List.set_cons_succ, List.set_cons_zero]
        refine ⟨_, rfl, ?_⟩
        have hBa2 := (hBc1).alloc (hBc1).size (.cells #[.slice none 0 0, .int .i64 0] 26)
        have hra2 : (w8.alloc (.cells #[.slice none 0 0, .int .i64 0] 26 (0, 0))).heap[w8.heap.size]? = _ := heap_alloc_new w8 (.cells #[.slice none 0 0, .int .i64 0] 26 (0, 0))
        go_wp2_with fail
        refine ⟨rfl, hBa2, ?_⟩
        have hle_w8 : v5.heap.size ≤ w8.heap.size := (hBc1).size
        have hB9 := (hBc1).alloc (hBc1).size (.cells #[.slice A9 M.length c9, .int .i64 room] 26)
        have hS9 := stB_new N9 hcap9 room
        refine ⟨_, rfl, ?_⟩
        go_wp2_with fail
        refine ⟨rfl, hB9, ?_⟩
        refine ⟨_, rfl, ?_⟩
        go_wp2_with fail
        refine ⟨rfl, hB9, ?_⟩
        refine ⟨_, rfl, ?_⟩
        go_wp2_with fail
        refine ⟨rfl, hB9, ?_⟩
        show ∃ (M : List Nd) (A9 : Option Addr) (c9 b9 : Nat), _
        refine ⟨M, A9, c9, w8.heap.size, ?_, HM, hS9, hB9⟩
        first | rfl | simp only [Act.put, List.getElem_toArray, List.getElem_cons_zero, List.getElem_cons_succ, List.setIfInBounds_toArray, List.set_cons_succ, List.set_cons_zero]
      · skip
        refine ⟨_, rfl, ?_⟩
        have hBa1 := ((below_drew v5)).alloc (Nat.le_refl _) (.cells #[.slice none 0 0, .int .i64 0] 26)
        have hra1 : (v5.drew.alloc (.cells #[.slice none 0 0, .int .i64 0] 26 (0, 0))).heap[v5.heap.size]? = _ := heap_alloc_new v5.drew (.cells #[.slice none 0 0, .int .i64 0] 26 (0, 0))
        go_wp2_with fail
        refine ⟨rfl, hBa1, ?_⟩
        refine ⟨_, rfl, ?_⟩
        go_wp2_with fail
        refine (hset _ hBa1).mono ?_
        intro e w8 h
        obtain ⟨M, A9, c9, hM, rfl, hcap9, N9, hb⟩ := putE_box h
        have HM := Lib.hid (show WhenZ ze M zl from hM)
        clear hM h
        have hBc3 := Qt.more hBa1 (hBa1).size hb
        have hrw3 := (hb.block _ (lt_heap6 hra1)).trans hra1
        have hb_0_3 := hb
        have f0 : w8.frozen? ⟨v5.heap.size, 0, none⟩ = false := Lib.frozen_of_heap hrw3 0
        have f1 : w8.frozen? ⟨v5.heap.size, 1, none⟩ = false := Lib.frozen_of_heap hrw3 1
        have g0 : w8.cell? ⟨v5.heap.size, 0, none⟩ = some (.slice none 0 0) := by rw [Lib.cell_of_heap hrw3]; rfl
        have g1 : w8.cell? ⟨v5.heap.size, 1, none⟩ = some (.int .i64 0) := by rw [Lib.cell_of_heap hrw3]; rfl
        go_wp2_with fail
        refine ⟨rfl, hBc3, ?_⟩
        refine ⟨_, _, (.tuple #[.agg #[.slice A9 M.length c9, .int .i64 room], .int .i64 zn, .int .i64 ze]), rfl, rfl, ⟨rfl, fun W hW => by first | exact ⟨rfl, rfl⟩ | (simp only [Act.eval, execOp]; go_simp; try exact ⟨rfl, rfl⟩)⟩, ?_⟩
        simp only [Act.put, List.getElem_toArray, List.getElem_cons_zero, List.getElem_cons_succ, List.setIfInBounds_toArray, List.set_cons_succ, List.set_cons_zero]
        refine ⟨_, _, (.agg #[.slice A9 M.length c9, .int .i64 room]), rfl, rfl, ⟨rfl, fun W hW => by first | exact ⟨rfl, rfl⟩ | (simp only [Act.eval, execOp]; go_simp; try exact ⟨rfl, rfl⟩)⟩, ?_⟩
        simp only [Act.put, List.getElem_toArray, List.getElem_cons_zero, List.getElem_cons_succ, List.setIfInBounds_toArray, List.set_cons_succ, List.set_cons_zero]
        refine ⟨_, _, (.int .i64 zn), rfl, rfl, ⟨rfl, fun W hW => by first | exact ⟨rfl, rfl⟩ | (simp only [Act.eval, execOp]; go_simp; try exact ⟨rfl, rfl⟩)⟩, ?_⟩
        simp only [Act.put, List.getElem_toArray, List.getElem_cons_zero, List.getElem_cons_succ, List.setIfInBounds_toArray, List.set_cons_succ, List.set_cons_zero]
        refine ⟨_, _, (.int .i64 ze), rfl, rfl, ⟨rfl, fun W hW => by first | exact ⟨rfl, rfl⟩ | (simp only [Act.eval, execOp]; go_simp; try exact ⟨rfl, rfl⟩)⟩, ?_⟩
        simp only [Act.put, List.getElem_toArray, List.getElem_cons_zero, List.getElem_cons_succ, List.setIfInBounds_toArray, List.set_cons_succ, List.set_cons_zero]
        have hB9 := ((hBc3.setCell (p := ⟨v5.heap.size, 0, none⟩) (Nat.le_refl _) (.slice A9 M.length c9)).setCell (p := ⟨v5.heap.size, 1, none⟩) (Nat.le_refl _) (.int .i64 room))
        have hS9 := stB_put (room := room) hrw3 N9 hcap9
        refine ⟨_, rfl, ?_⟩
        go_wp2_with fail
        refine ⟨rfl, hB9, ?_⟩
        refine ⟨_, rfl, ?_⟩
        go_wp2_with fail
        refine ⟨rfl, hB9, ?_⟩
        refine ⟨_, rfl, ?_⟩
        go_wp2_with fail
        refine ⟨rfl, hB9, ?_⟩
        show ∃ (M : List Nd) (A9 : Option Addr) (c9 b9 : Nat), _
        refine ⟨M, A9, c9, v5.heap.size, ?_, HM, hS9, hB9⟩
        first | rfl | simp only [Act.put, List.getElem_toArray, List.getElem_cons_zero, List.getElem_cons_succ, List.setIfInBounds_toArray, List.set_cons_succ, List.set_cons_zero]
    rintro a9 w9 ⟨M, A9, c9, b9, rfl, HM, hS9, hb9⟩
    simp only [Act.put, List.setIfInBounds_toArray, List.set_cons_succ, List.set_cons_zero]
    have hF9 := HF5.out.below hb9
    have hbne : b9 ≠ w.heap.size + 3 := fun h => by
      have hr1 := hS9.row
      rw [h] at hr1
      rw [show _ = _ from hF9.nd] at hr1
      injection hr1 with hr1
      injection hr1 with _ hr1 _
      exact absurd hr1 (by decide)
    clear hst hkq hdd hset hb9 HF5 HD5
    by_cases hze : ze = 0
    · subst hze
      have hM := HM.out rfl
      subst hM
      have k0 := hF9.nd.kid hq4
      have f0 : w9.frozen? ⟨w.heap.size + 3, 1 + kq, none⟩ = false := Lib.frozen_of_heap hF9.nd _
      have hF10 := hF9.kid hq4 zn
      have hS10 : StB (w9.setCell ⟨w.heap.size + 3, 1 + kq, none⟩ (.int .i64 zn)) b9 A9 M c9 room := ⟨(Below.heap_setCell _ _ _ _ (by show b9 ≠ w.heap.size + 3; exact hbne)).trans hS9.row, (rdN_two hS9.rd hz2 hF9.nd (Nat.le_of_ble_eq_true rfl) _).more (by simp [World.setCell]), hS9.cap⟩
      have hc1 := HPUT.out A9 c9 _ hS10.rd hS10.cap
      generalize kset kk kq zn = K at *
      have u0 := hS10.s0
      have u1 := hS10.s1
      have n0 := hF10.nd.kid (i := 0) (by decide)
      have n1 := hF10.nd.kid (i := 1) (by decide)
      have n2 := hF10.nd.kid (i := 2) (by decide)
      have n3 := hF10.nd.kid (i := 3) (by decide)
      simp only [kd] at n0 n1 n2 n3
      have HF10 := Lib.hid hF10
      clear hF9 hS9 hbne hF10 hS10 HPUT
      go_wp2_with fail
      clear k0 f0
      generalize (w9.setCell ⟨w.heap.size + 3, 1 + kq, none⟩ (.int .i64 zn)) = w10 at *
      refine hc1.mono ?_
      rintro e w11 ⟨v9, rfl, ⟨A2, c2, rfl, hc2, hR2⟩, hb11⟩
      have hD := HF10.out.below hb11
      have r0 := hD.r0
      have r1 := hD.r1
      have fr0 := hD.free 0
      have fr1 := hD.free 1
      generalize put6 M room K = y at *
      have HT := Lib.hid (hD.told hR2 (.slice A2 y.1.length c2) (.int .i64 room))
      clear hc1 hb11 hR2 hD HF10 u0 u1 n0 n1 n2 n3
      go_wp2_with fail
      clear r0 r1 fr0 fr1
      refine bodyPost_ret (results_cell3 rfl _ _ _ _ _ _ _ rfl HT.out.1 Tryz.underlying26 rfl (by kernel_rfl)) rfl ?_
      rw [HY.out]; first | rw [if_pos trivial] | rw [if_pos rfl]
      exact PutR.putE ⟨_, rfl, ⟨A2, c2, rfl, hc2, HT.out.2.2⟩, HT.out.2.1⟩
    · skip
      have hzd : decide (ze = 0) = false := decide_eq_false hze
      have s0 := hF9.s0
      have s1 := hF9.s1
      have r0 := hF9.r0
      have r1 := hF9.r1
      have fr0 := hF9.free 0
      have fr1 := hF9.free 1
      have HT := Lib.hid (hF9.told ((HRR.out.below hF9.bel (Nat.le_refl _)).more hF9.bel.size) (.slice (some ⟨b0, off, none⟩) l.length c) (.int .i64 room))
      clear hF9 hS9 HM HPUT hbne
      go_wp2_with fail
      clear r0 r1 fr0 fr1 s0 s1
      refine bodyPost_ret (results_cell3 rfl _ _ _ _ _ _ _ rfl HT.out.1 Tryz.underlying26 rfl (by kernel_rfl)) rfl ?_
      rw [HY.out, if_neg hze]
      exact ⟨l, fun h => absurd h hze, _, rfl, ⟨_, c, rfl, hc, HT.out.2.2⟩, HT.out.2.1⟩
/-- what is known in Set: the boxes of the store, the place, what is told -/
structure S3At (w wr : World) (A : Option Addr) (n c : Nat) (room : Int) (p : Int × Int) : Prop where
  st : wr.heap[w.heap.size]? = some (.cells #[.slice A n c, .int .i64 room] 26 (0, 0))
  cl : ClB wr (w.heap.size + 1) p
  res : wr.heap[w.heap.size + 2]? = some (.cells #[.slice none 0 0, .int .i64 0] 26 (0, 0))
  bel : Below w.heap.size w wr
section
variable {w wr w' : World} {A : Option Addr} {n c : Nat} {room : Int} {p : Int × Int}
theorem S3At.below (h : S3At w wr A n c room p) (hb : Below wr.heap.size wr w') : S3At w w' A n c room p :=
  ⟨(hb.block _ (lt_heap6 h.st)).trans h.st, h.cl.below hb, (hb.block _ (lt_heap6 h.res)).trans h.res, Qt.more h.bel h.bel.size hb⟩
theorem S3At.s0 (h : S3At w wr A n c room p) : wr.cell? ⟨w.heap.size, 0, none⟩ = some (.slice A n c) := by rw [Lib.cell_of_heap h.st]; rfl
theorem S3At.s1 (h : S3At w wr A n c room p) : wr.cell? ⟨w.heap.size, 1, none⟩ = some (.int .i64 room) := by rw [Lib.cell_of_heap h.st]; rfl
theorem S3At.r0 (h : S3At w wr A n c room p) : wr.cell? ⟨w.heap.size + 2, 0, none⟩ = some (.slice none 0 0) := by rw [Lib.cell_of_heap h.res]; rfl
theorem S3At.r1 (h : S3At w wr A n c room p) : wr.cell? ⟨w.heap.size + 2, 1, none⟩ = some (.int .i64 0) := by rw [Lib.cell_of_heap h.res]; rfl
theorem S3At.free (h : S3At w wr A n c room p) (j : Nat) : wr.frozen? ⟨w.heap.size + 2, j, none⟩ = false := Lib.frozen_of_heap h.res j
theorem S3At.told {A2 : Option Addr} {pl : List Nd} (h : S3At w wr A n c room p) (hN : NowN wr A2 pl) (u v : Value) : ((wr.setCell ⟨w.heap.size + 2, 0, none⟩ u).setCell ⟨w.heap.size + 2, 1, none⟩ v).heap[w.heap.size + 2]? = some (.cells #[u, v] 26 (0, 0)) ∧ Below w.heap.size w ((wr.setCell ⟨w.heap.size + 2, 0, none⟩ u).setCell ⟨w.heap.size + 2, 1, none⟩ v) ∧ NowN ((wr.setCell ⟨w.heap.size + 2, 0, none⟩ u).setCell ⟨w.heap.size + 2, 1, none⟩ v) A2 pl := by
  have hr := h.res
  exact ⟨by simp [World.setCell, Array.getElem?_modify, hr], below_set2c h.bel (by omega) u v, (rdN_told hN h.res).more (by simp [World.setCell])⟩
theorem s3At_0 (w : World) (A : Option Addr) (n c : Nat) (room : Int) (p : Int × Int) : S3At w (((w.alloc (.cells #[.slice A n c, .int .i64 room] 26)).alloc (.cells #[.int .i64 p.1, .int .i64 p.2] 28)).alloc (.cells #[.slice none 0 0, .int .i64 0] 26)) A n c room p := by
  have h1 := (Below.refl w.heap.size w).alloc (Nat.le_refl _) (.cells #[.slice A n c, .int .i64 room] 26)
  have h2 := h1.alloc h1.size (.cells #[.int .i64 p.1, .int .i64 p.2] 28)
  have h3 := h2.alloc h2.size (.cells #[.slice none 0 0, .int .i64 0] 26)
  exact ⟨heap_old (heap_old (heap_new rfl)), ⟨heap_old (heap_new (by simp))⟩, heap_new (by simp), h3⟩
end
set_option maxHeartbeats 16000000 in
theorem refSet7_any (A : Option Addr) (l : List Nd) (c : Nat) (room n : Int) (p : Int × Int) (a : Bool) (w : World) (hR : RdN w w.heap.size A l) (hl : l.length ≤ 1000000) (hc : l.length ≤ c) (hw : ∀ i, i < l.length → -9223372036854775808 ≤ (l.getD i deadN).1 ∧ (l.getD i deadN).1 ≤ 9223372036854775807) (hx : I64 p.1) (hy : I64 p.2) :
    Calls Tryz.prog 21 #[storeV A l.length c room, .int .i64 n, cellV p, .bool a] w (PutR (set7 l room n p a) room w) := by
  have hG0 := s3At_0 w A l.length c room p
  have hmay := refMay7_any A l c room n _ ((hR.below hG0.bel (Nat.le_refl _)).more hG0.bel.size) hl hw
  have s0 := hG0.s0
  have s1 := hG0.s1
  have HG := Lib.hid hG0
  have HRR := Lib.hid hR
  obtain ⟨px, py⟩ := p
  dsimp only at hx hy
  cases hb : (right6 l room && hasB l n) with
  | false =>
    rw [hb] at hmay
    have hz : set7 l room n (px, py) a = (l, 0, 1) := by
      unfold set7 grown6
      by_cases hr : right6 l room = true
      · rw [if_pos hr]
        rw [hr, Bool.true_and] at hb
        unfold setZ
        rw [hb, if_neg Bool.false_ne_true]
        rfl
      · rw [if_neg hr]
    rw [hz]
    unfold storeV at hmay ⊢
    unfold cellV
    clear hz hR hw hb hG0
    go_enter Tryz.func21, Tryz.ntmps21
    go_wp2_with fail
    refine hmay.mono ?_
    rintro r w1 ⟨rfl, hb1⟩
    have hD := HG.out.below hb1
    have t0 := hD.s0
    have t1 := hD.s1
    have r0 := hD.r0
    have r1 := hD.r1
    have fr0 := hD.free 0
    have fr1 := hD.free 1
    have HT := Lib.hid (hD.told ((HRR.out.below hD.bel (Nat.le_refl _)).more hD.bel.size) (.slice A l.length c) (.int .i64 room))
    clear hb1 hmay s0 s1 HG hD
    go_wp2_with fail
    clear r0 r1 fr0 fr1 t0 t1
    refine bodyPost_ret (results_cell3 rfl _ _ _ _ _ _ _ rfl HT.out.1 Tryz.underlying26 rfl (by kernel_rfl)) rfl ?_
    exact ⟨_, rfl, ⟨A, c, rfl, hc, HT.out.2.2⟩, HT.out.2.1⟩
  | true =>
    rw [hb] at hmay
    obtain ⟨hr0, hh⟩ := Bool.and_eq_true_iff.1 hb
    have hr := right_iff.1 hr0
    have hhs := hh
    unfold hasB at hh
    rw [decide_eq_true_eq] at hh
    obtain ⟨h1, h2, h3⟩ := hh
    obtain ⟨m, rfl⟩ : ∃ m : Nat, n = (m : Int) := ⟨n.toNat, by omega⟩
    rw [ndAt_nat] at h3
    have hbd := right_bd hr m (by omega)
    obtain ⟨e, he⟩ : ∃ e : Nat, (l.getD m deadN).1 = (e : Int) + 1 := ⟨((l.getD m deadN).1 - 1).toNat, by omega⟩
    have hIs : Is l (e + 1) m := ⟨by omega, by rw [he]; omega⟩
    have hz : set7 l room (m : Int) (px, py) a = if insideB e (px, py) = true then (if (setC room (e + 1) l m (hfC (e + 1) (px, py)) a).2.2 = 0 then setC room (e + 1) l m (hfC (e + 1) (px, py)) a else (l, 0, (setC room (e + 1) l m (hfC (e + 1) (px, py)) a).2.2)) else (l, 0, 2) := by
      unfold set7 grown6 setZ
      rw [if_pos hr0, if_pos hhs, ndAt_nat, he, show ((e : Int) + 1).toNat - 1 = e by omega, show ((e : Int) + 1).toNat = e + 1 by omega, Int.toNat_natCast]
      by_cases hi : insideB e (px, py) = true
      · rw [if_pos hi, if_pos hi]; rfl
      · rw [if_neg hi, if_neg hi]; rfl
    obtain ⟨Y, hY⟩ : ∃ Y, Y = set7 l room (m : Int) (px, py) a := ⟨_, rfl⟩
    rw [← hY]
    rw [hz] at hY
    obtain ⟨b0, off, rfl, hbB, hcell⟩ := hR.at_ (by omega)
    have x0 := (hcell m (by omega)).1
    rw [he] at x0
    have HX := Lib.hid x0
    have hmz : (m : Int) < (l.length : Int) := by omega
    have hin := fun W => refIn7_any e (by omega) (px, py) hx hy W
    have hset0 := fun (hi : insideB e (px, py) = true) W (hR' : RdN W W.heap.size (some ⟨b0, off, none⟩) l) => set_at l hr (e + 1) (by omega) (some ⟨b0, off, none⟩) c m (px, py) a W hIs hR' hc hi
    unfold storeV cellV at hset0
    unfold cellV at hin
    dsimp only at hin hset0
    have HSET := Lib.hid hset0
    have HIN := Lib.hid hin
    unfold storeV at hmay ⊢
    unfold cellV
    clear hz hR hw hb hG0 hIs he hbd hr hr0 hhs hcell x0 hset0 hin
    generalize setC room (e + 1) l m (hfC (e + 1) (px, py)) a = z at *
    obtain ⟨zl, zn, ze⟩ := z
    dsimp only at hY
    have HY := Lib.hid hY
    clear hY
    go_enter Tryz.func21, Tryz.ntmps21
    go_wp2_with fail
    refine hmay.mono ?_
    rintro r w1 ⟨rfl, hb1⟩
    have hG1 := HG.out.below hb1
    have HG1 := Lib.hid hG1
    have k0 := Qt.cell_in hG1.s0
    have k1 := Qt.cell_in hG1.s1
    have c0 := Qt.cell_in hG1.cl.c0
    have c1 := Qt.cell_in hG1.cl.c1
    have x0 := Qt.cell_in (Qt.keep hG1.bel HX.out)
    dsimp only at c0 c1
    have hin := fun W (_ : Below w1.heap.size w1 W) => HIN.out W
    cases hi : insideB e (px, py) with
    | false =>
      rw [hi] at hin
      have HI := Lib.hid hi
      clear hb1 hmay s0 s1 HG hG1 hi HSET HIN
      go_wp2_with fail
      refine Qt.below_all (by kernel_rfl) (by kernel_rfl) ?_
      iterate 9 (go_big_quiet_step (first | (go_at_call 31; exact Qt.at_call' hin)))
      refine wpQuiet_nil ?_
      intro w6 hb6
      have hD := HG1.out.below hb6
      have t0 := hD.s0
      have t1 := hD.s1
      have r0 := hD.r0
      have r1 := hD.r1
      have fr0 := hD.free 0
      have fr1 := hD.free 1
      have HT := Lib.hid (hD.told ((HRR.out.below hD.bel (Nat.le_refl _)).more hD.bel.size) (.slice (some ⟨b0, off, none⟩) l.length c) (.int .i64 room))
      clear hin k0 k1 c0 c1 x0 hb6 HG1 hD
      go_wp2_with fail
      clear r0 r1 fr0 fr1 t0 t1
      refine bodyPost_ret (results_cell3 rfl _ _ _ _ _ _ _ rfl HT.out.1 Tryz.underlying26 rfl (by kernel_rfl)) rfl ?_
      rw [HY.out, if_neg (by rw [HI.out]; decide)]
      exact ⟨_, rfl, ⟨_, c, rfl, hc, HT.out.2.2⟩, HT.out.2.1⟩
    | true =>
      rw [hi] at hin
      have HI := Lib.hid hi
      have hset1 := HSET.out hi
      have HS1 := Lib.hid hset1
      clear hb1 hmay s0 s1 HG hG1 hi HSET HIN hset1
      go_wp2_with fail
      refine Qt.below_all (by kernel_rfl) (by kernel_rfl) ?_
      iterate 9 (go_big_quiet_step (first | (go_at_call 31; exact Qt.at_call' hin)))
      refine wpQuiet_nil ?_
      intro w6 hb6
      have hG6 := HG1.out.below hb6
      have HG6 := Lib.hid hG6
      have t0 := hG6.s0
      have t1 := hG6.s1
      have u0 := hG6.cl.c0
      have u1 := hG6.cl.c1
      dsimp only at u0 u1
      have hc1 := HS1.out w6 ((HRR.out.below hG6.bel (Nat.le_refl _)).more hG6.bel.size)
      clear hin k0 k1 c0 c1 x0 hb6 HG1 hG6 HS1
      go_wp2_with fail
      refine hc1.mono ?_
      intro r w7 h
      obtain ⟨M, A9, c9, hM, rfl, hcap9, N9, hb⟩ := putE_box h
      have HM := Lib.hid (show WhenZ ze M zl from hM)
      clear hM
      have hal := (Below.refl w7.heap.size w7).alloc (Nat.le_refl _) (.cells #[.slice A9 M.length c9, .int .i64 room] 26)
      have hS8 := stB_new N9 hcap9 room
      have hD := (HG6.out.below hb).below hal
      have q0 := hD.s0
      have q1 := hD.s1
      have v0 := hS8.s0
      have v1 := hS8.s1
      have r0 := hD.r0
      have r1 := hD.r1
      have fr0 := hD.free 0
      have fr1 := hD.free 1
      have HS8 := Lib.hid hS8
      have HD := Lib.hid hD
      have HCAP := Lib.hid hcap9
      clear h hc1 hb hal N9 t0 t1 u0 u1 HG6 hD hS8 hcap9
      by_cases hze : ze = 0
      · subst hze
        have hM := HM.out rfl
        subst hM
        have HT := Lib.hid (HD.out.told HS8.out.rd (.slice A9 M.length c9) (.int .i64 room))
        go_wp2_with fail
        clear r0 r1 fr0 fr1 q0 q1 v0 v1
        refine bodyPost_ret (results_cell3 rfl _ _ _ _ _ _ _ rfl HT.out.1 Tryz.underlying26 rfl (by kernel_rfl)) rfl ?_
        rw [HY.out, if_pos HI.out]; first | rw [if_pos trivial] | rw [if_pos rfl]
        exact ⟨_, rfl, ⟨A9, c9, rfl, HCAP.out, HT.out.2.2⟩, HT.out.2.1⟩
      · skip
        have hzd : decide (ze = 0) = false := decide_eq_false hze
        have HT := Lib.hid (HD.out.told ((HRR.out.below HD.out.bel (Nat.le_refl _)).more HD.out.bel.size) (.slice (some ⟨b0, off, none⟩) l.length c) (.int .i64 room))
        go_wp2_with fail
        clear r0 r1 fr0 fr1 q0 q1 v0 v1
        refine bodyPost_ret (results_cell3 rfl _ _ _ _ _ _ _ rfl HT.out.1 Tryz.underlying26 rfl (by kernel_rfl)) rfl ?_
        rw [HY.out, if_pos HI.out, if_neg hze]
        exact ⟨_, rfl, ⟨_, c, rfl, hc, HT.out.2.2⟩, HT.out.2.1⟩
end Go.Proofs.YtmmaeikeafemaaaGreat
namespace Go.Proofs.YtmmaeikeafemaaaGreat
set_option maxRecDepth 100000
set_option linter.unusedVariables false
set_option linter.unusedSimpArgs false
open Go.RowKit Go.Sort

/-- what is known in Larger: the store's box, what is told, the kids, the store so far, the new kids -/
structure LaAt (w wr : World) (A : Option Addr) (n c : Nat) (room : Int) (kk : Kd) (ab kb : Nat) (A2 : Option Addr) (m : List Nd) (c2 : Nat) (q : Kd) : Prop where
  st : wr.heap[w.heap.size]? = some (.cells #[.slice A n c, .int .i64 room] 26 (0, 0))
  res : wr.heap[w.heap.size + 1]? = some (.cells #[.slice none 0 0, .int .i64 0] 26 (0, 0))
  x : KR wr (w.heap.size + 2) kk
  bx : StB wr ab A2 m c2 room
  kids : KR wr kb q
  bel : Below w.heap.size w wr
section
variable {w wr w' : World} {A A2 A3 : Option Addr} {n c c2 c3 ab kb : Nat} {room : Int} {kk q : Kd} {m m' : List Nd}
theorem LaAt.below (h : LaAt w wr A n c room kk ab kb A2 m c2 q) (hb : Below wr.heap.size wr w') : LaAt w w' A n c room kk ab kb A2 m c2 q :=
  ⟨(hb.block _ (lt_heap6 h.st)).trans h.st, (hb.block _ (lt_heap6 h.res)).trans h.res, (hb.block _ (lt_heap6 h.x)).trans h.x, h.bx.below hb, (hb.block _ (lt_heap6 h.kids)).trans h.kids, Qt.more h.bel h.bel.size hb⟩
theorem LaAt.put (h : LaAt w wr A n c room kk ab kb A2 m c2 q) (hab : w.heap.size + 3 ≤ ab) (hkb : ab < kb) (hN : NowN wr A3 m') (hc : m'.length ≤ c3) : LaAt w ((wr.setCell ⟨ab, 0, none⟩ (.slice A3 m'.length c3)).setCell ⟨ab, 1, none⟩ (.int .i64 room)) A n c room kk ab kb A3 m' c3 q := by
  have ho : ∀ b, b ≠ ab → ((wr.setCell ⟨ab, 0, none⟩ (.slice A3 m'.length c3)).setCell ⟨ab, 1, none⟩ (.int .i64 room)).heap[b]? = wr.heap[b]? := fun b hb => (Below.heap_setCell _ _ _ _ (by show b ≠ ab; exact hb)).trans (Below.heap_setCell _ _ _ _ (by show b ≠ ab; exact hb))
  exact ⟨(ho _ (by omega)).trans h.st, (ho _ (by omega)).trans h.res, (ho _ (by omega)).trans h.x, stB_put (room := room) h.bx.row hN hc, (ho _ (by omega)).trans h.kids, below_set2c h.bel (by omega) _ _⟩
theorem LaAt.kid (h : LaAt w wr A n c room kk ab kb A2 m c2 q) (hab : w.heap.size + 3 ≤ ab) (hkb : ab < kb) {j : Nat} (hj : j < 4) (v : Int) : LaAt w (wr.setCell ⟨kb, j, none⟩ (.int .i64 v)) A n c room kk ab kb A2 m c2 (kset q j v) := by
  have ho : ∀ b, b ≠ kb → (wr.setCell ⟨kb, j, none⟩ (.int .i64 v)).heap[b]? = wr.heap[b]? := fun b hb => Below.heap_setCell _ _ _ _ (by show b ≠ kb; exact hb)
  exact ⟨(ho _ (by omega)).trans h.st, (ho _ (by omega)).trans h.res, (ho _ (by omega)).trans h.x, ⟨(ho _ (by omega)).trans h.bx.row, (rdN_set h.bx.rd h.kids (Nat.le_of_ble_eq_true rfl) _).more (by simp [World.setCell]), h.bx.cap⟩, h.kids.set hj v, h.bel.setCell (by show w.heap.size ≤ kb; omega) _⟩
theorem LaAt.s0 (h : LaAt w wr A n c room kk ab kb A2 m c2 q) : wr.cell? ⟨w.heap.size, 0, none⟩ = some (.slice A n c) := by rw [Lib.cell_of_heap h.st]; rfl
theorem LaAt.s1 (h : LaAt w wr A n c room kk ab kb A2 m c2 q) : wr.cell? ⟨w.heap.size, 1, none⟩ = some (.int .i64 room) := by rw [Lib.cell_of_heap h.st]; rfl
theorem LaAt.r0 (h : LaAt w wr A n c room kk ab kb A2 m c2 q) : wr.cell? ⟨w.heap.size + 1, 0, none⟩ = some (.slice none 0 0) := by rw [Lib.cell_of_heap h.res]; rfl
theorem LaAt.r1 (h : LaAt w wr A n c room kk ab kb A2 m c2 q) : wr.cell? ⟨w.heap.size + 1, 1, none⟩ = some (.int .i64 0) := by rw [Lib.cell_of_heap h.res]; rfl
theorem LaAt.free (h : LaAt w wr A n c room kk ab kb A2 m c2 q) (j : Nat) : wr.frozen? ⟨w.heap.size + 1, j, none⟩ = false := Lib.frozen_of_heap h.res j
theorem LaAt.told {A4 : Option Addr} {pl : List Nd} (h : LaAt w wr A n c room kk ab kb A2 m c2 q) (hN : NowN wr A4 pl) (u v : Value) : ((wr.setCell ⟨w.heap.size + 1, 0, none⟩ u).setCell ⟨w.heap.size + 1, 1, none⟩ v).heap[w.heap.size + 1]? = some (.cells #[u, v] 26 (0, 0)) ∧ Below w.heap.size w ((wr.setCell ⟨w.heap.size + 1, 0, none⟩ u).setCell ⟨w.heap.size + 1, 1, none⟩ v) ∧ NowN ((wr.setCell ⟨w.heap.size + 1, 0, none⟩ u).setCell ⟨w.heap.size + 1, 1, none⟩ v) A4 pl := by
  have hr := h.res
  exact ⟨by simp [World.setCell, Array.getElem?_modify, hr], below_set2c h.bel (by omega) u v, (rdN_told hN h.res).more (by simp [World.setCell])⟩
end
set_option maxHeartbeats 16000000 in
theorem refLarger_any {room : Int} {l : List Nd} (hr : Right6 l room) (A : Option Addr) (c : Nat) {e n : Nat} (w : World) (he : e ≤ 42) (hn : Is l (e + 1) n) (hR : RdN w w.heap.size A l) (hc : l.length ≤ c) :
    Calls Tryz.prog 47 #[storeV A l.length c room, .int .i64 (n : Nat)] w (PutR (grown6 l room (growC room l n e)) room w) := by
  have HRR := Lib.hid hR
  have hE0 := e7_0 hR hc room
  obtain ⟨b0, off, rfl, hbB, hcell⟩ := hR.at_ (by have := hr.two; omega)
  obtain ⟨x0, x1, x2, x3, x4, x5⟩ := hcell n hn.lt
  rw [hn.lev, show ((e + 1 : Nat) : Int) = (e : Int) + 1 by omega] at x0
  have y0 := Qt.keep hE0.bel x0
  have y1 := Qt.keep hE0.bel x1
  have y2 := Qt.keep hE0.bel x2
  have y3 := Qt.keep hE0.bel x3
  have y4 := Qt.keep hE0.bel x4
  obtain ⟨Y, hY⟩ : ∃ Y, Y = grown6 l room (growC room l n e) := ⟨_, rfl⟩
  rw [← hY]
  have hemp := fun W (hW : RdN W W.heap.size (some ⟨b0, off, none⟩) l) => refEmpty7_any (some ⟨b0, off, none⟩) l c room e W hW hr hc he
  have her := emptyTo_right7 hr e
  unfold grown6 growC at hY
  rw [if_pos (right_iff.2 hr)] at hY
  generalize emptyTo l room e = E at *
  obtain ⟨el, dn, de⟩ := E
  dsimp only at her hY
  obtain ⟨⟨lv, kk, pp⟩, hnode⟩ : ∃ x, x = l.getD n deadN := ⟨_, rfl⟩
  rw [← hnode] at y1 y2 y3 y4 hY
  dsimp only at y1 y2 y3 y4 hY
  have hnz : (n : Int) < (l.length : Int) := by have := hn.lt; omega
  have hs2 : ((w.alloc (.cells #[.slice (some ⟨b0, off, none⟩) l.length c, .int .i64 room] 26)).alloc (.cells #[.slice none 0 0, .int .i64 0] 26)).heap.size = w.heap.size + 2 := by simp
  have hal := (Below.refl _ ((w.alloc (.cells #[.slice (some ⟨b0, off, none⟩) l.length c, .int .i64 room] 26)).alloc (.cells #[.slice none 0 0, .int .i64 0] 26))).alloc (Nat.le_refl _) (.cells #[.int .i64 kk.1, .int .i64 kk.2.1, .int .i64 kk.2.2.1, .int .i64 kk.2.2.2] 55)
  have HE := Lib.hid (hE0.below hal)
  have HX := Lib.hid (show KR (((w.alloc (.cells #[.slice (some ⟨b0, off, none⟩) l.length c, .int .i64 room] 26)).alloc (.cells #[.slice none 0 0, .int .i64 0] 26)).alloc (.cells #[.int .i64 kk.1, .int .i64 kk.2.1, .int .i64 kk.2.2.1, .int .i64 kk.2.2.2] 55)) (w.heap.size + 2) kk from heap_new hs2)
  have HL0 := Lib.hid x0
  have s0 := hE0.s0
  have s1 := hE0.s1
  have hadd : (e : Int) + 1 - 1 = (e : Int) := by omega
  have hwk : IntKind.i64.wrap ((e : Int)) = (e : Int) := by rw [IntKind.wrap_i64]; omega
  have HY := Lib.hid hY
  have HER := Lib.hid her
  unfold storeV at hemp ⊢
  clear hcell x0 x1 x2 x3 x4 x5 hnode hal hE0 hR hs2 hY hbB hn hr her
  go_enter Tryz.func47, Tryz.ntmps47
  go_wp2_with fail
  clear y0 y1 y2 y3 y4 s0 s1
  generalize (((w.alloc (.cells #[.slice (some ⟨b0, off, none⟩) l.length c, .int .i64 room] 26)).alloc (.cells #[.slice none 0 0, .int .i64 0] 26)).alloc (.cells #[.int .i64 kk.1, .int .i64 kk.2.1, .int .i64 kk.2.2.1, .int .i64 kk.2.2.2] 55)) = v3 at *
  have hst := fun W (hW : Below v3.heap.size v3 W) => HE.out.below hW
  have hlv := fun W (hW : Below v3.heap.size v3 W) => Qt.keep (HE.out.below hW).bel HL0.out
  have hem := fun W (hW : Below v3.heap.size v3 W) => hemp W ((HE.out.below hW).st.rd)
  refine region_calm_to (fun W => Below v3.heap.size v3 W) (fun (a0 a9 : Act) (w9 : World) => ∃ (A9 : Option Addr) (c9 b9 : Nat), a9 = ((((((((((((((((a0.put (some 27) (.agg #[.slice (some ⟨b0, off, none⟩) l.length c, .int .i64 room])).put (some 28) (.pointer (some ⟨w.heap.size, 0, none⟩))).put (some 29) (.slice (some ⟨b0, off, none⟩) l.length c)).put (some 30) (.int .i64 (n : Int))).put (some 31) (.pointer (some ⟨b0, off + n * 6, none⟩))).put (some 32) (.pointer (some ⟨b0, off + n * 6, none⟩))).put (some 33) (.int .i64 ((e : Int) + 1))).put (some 34) (.int .i64 (e : Int))).put (some 35) (.tuple #[.agg #[.slice A9 el.length c9, .int .i64 room], .int .i64 dn, .int .i64 de])).put (some 26) (.tuple #[.agg #[.slice A9 el.length c9, .int .i64 room], .int .i64 dn, .int .i64 de])).put (some 36) (.agg #[.slice A9 el.length c9, .int .i64 room])).put (some 37) (.int .i64 dn)).put (some 38) (.int .i64 de)).put (some 8) (.pointer (some ⟨b9, 0, none⟩))).put (some 9) (.int .i64 dn)).put (some 10) (.int .i64 de)) ∧ (v3.heap.size ≤ b9 ∧ StB w9 b9 A9 el c9 room ∧ Below v3.heap.size v3 w9)) (.calm 0 (.calm 1 (.calm 2 (.calm 3 (.calm 4 (.calm 5 (.calm 6 (.calm 7 (.two 8 13 (.calm 9 (.calm 10 (.calm 11 (.calm 12 (.only 13 (.only 14 (.only 15 (.only 16 .done)))))))) (.only 8 (.calm 9 (.calm 10 (.calm 11 (.calm 12 (.only 14 (.only 15 (.only 16 .done))))))))))))))))) (by kernel_rfl) (by kernel_rfl) (by kernel_rfl) (by rfl) (below_drew _) ?_ ?_
  · skip
    refine ⟨_, _, (.agg #[.slice (some ⟨b0, off, none⟩) l.length c, .int .i64 room]), rfl, rfl, ⟨rfl, fun W hW => by have s0 := (hst W hW).s0; have s1 := (hst W hW).s1; simp only [execOp]; go_simp; done⟩, ?_⟩
    simp only [Act.put, List.getElem_toArray, List.getElem_cons_zero, List.getElem_cons_succ, List.setIfInBounds_toArray, List.set_cons_succ, List.set_cons_zero]
    refine ⟨_, _, (.pointer (some ⟨w.heap.size, 0, none⟩)), rfl, rfl, ⟨rfl, fun W hW => by first | exact ⟨rfl, rfl⟩ | (simp only [Act.eval, execOp]; go_simp; try exact ⟨rfl, rfl⟩)⟩, ?_⟩
    simp only [Act.put, List.getElem_toArray, List.getElem_cons_zero, List.getElem_cons_succ, List.setIfInBounds_toArray, List.set_cons_succ, List.set_cons_zero]
    refine ⟨_, _, (.slice (some ⟨b0, off, none⟩) l.length c), rfl, rfl, ⟨rfl, fun W hW => by have s0 := (hst W hW).s0; simp only [execOp]; go_simp; done⟩, ?_⟩
    simp only [Act.put, List.getElem_toArray, List.getElem_cons_zero, List.getElem_cons_succ, List.setIfInBounds_toArray, List.set_cons_succ, List.set_cons_zero]
    refine ⟨_, _, (.int .i64 (n : Int)), rfl, rfl, ⟨rfl, fun W hW => by first | exact ⟨rfl, rfl⟩ | (simp only [Act.eval, execOp]; go_simp; try exact ⟨rfl, rfl⟩)⟩, ?_⟩
    simp only [Act.put, List.getElem_toArray, List.getElem_cons_zero, List.getElem_cons_succ, List.setIfInBounds_toArray, List.set_cons_succ, List.set_cons_zero]
    refine ⟨_, _, (.pointer (some ⟨b0, off + n * 6, none⟩)), rfl, rfl, ⟨rfl, fun W hW => by first | exact ⟨rfl, rfl⟩ | (simp only [Act.eval, execOp]; go_simp; try exact ⟨rfl, rfl⟩)⟩, ?_⟩
    simp only [Act.put, List.getElem_toArray, List.getElem_cons_zero, List.getElem_cons_succ, List.setIfInBounds_toArray, List.set_cons_succ, List.set_cons_zero]
    refine ⟨_, _, (.pointer (some ⟨b0, off + n * 6, none⟩)), rfl, rfl, ⟨rfl, fun W hW => by first | exact ⟨rfl, rfl⟩ | (simp only [Act.eval, execOp]; go_simp; try exact ⟨rfl, rfl⟩)⟩, ?_⟩
    simp only [Act.put, List.getElem_toArray, List.getElem_cons_zero, List.getElem_cons_succ, List.setIfInBounds_toArray, List.set_cons_succ, List.set_cons_zero]
    refine ⟨_, _, (.int .i64 ((e : Int) + 1)), rfl, rfl, ⟨rfl, fun W hW => by have s0 := hlv W hW; simp only [execOp]; go_simp; done⟩, ?_⟩
    simp only [Act.put, List.getElem_toArray, List.getElem_cons_zero, List.getElem_cons_succ, List.setIfInBounds_toArray, List.set_cons_succ, List.set_cons_zero]
    refine ⟨_, _, (.int .i64 (e : Int)), rfl, rfl, ⟨rfl, fun W hW => by first | exact ⟨rfl, rfl⟩ | (simp only [Act.eval, execOp]; go_simp; try exact ⟨rfl, rfl⟩)⟩, ?_⟩
    simp only [Act.put, List.getElem_toArray, List.getElem_cons_zero, List.getElem_cons_succ, List.setIfInBounds_toArray, List.set_cons_succ, List.set_cons_zero]
    constructor
    · skip
      refine ⟨_, rfl, ?_⟩
      go_wp2_with fail
      refine (hem _ (below_drew v3)).mono ?_
      intro e w8 h
      obtain ⟨A9, c9, rfl, hcap9, N9, hb⟩ := putR_box h
      clear h
      have hBc1 := Qt.more (below_drew v3) (Nat.le_refl _) hb
      have hb_0_1 := hb
      go_wp2_with fail
      refine ⟨rfl, hBc1, ?_⟩
      refine ⟨_, _, (.tuple #[.agg #[.slice A9 el.length c9, .int .i64 room], .int .i64 dn, .int .i64 de]), rfl, rfl, ⟨rfl, fun W hW => by first | exact ⟨rfl, rfl⟩ | (simp only [Act.eval, execOp]; go_simp; try exact ⟨rfl, rfl⟩)⟩, ?_⟩
      simp only [Act.put, List.getElem_toArray, List.getElem_cons_zero, List.getElem_cons_succ, List.setIfInBounds_toArray, List.set_cons_succ, List.set_cons_zero]
      refine ⟨_, _, (.agg #[.slice A9 el.length c9, .int .i64 room]), rfl, rfl, ⟨rfl, fun W hW => by first | exact ⟨rfl, rfl⟩ | (simp only [Act.eval, execOp]; go_simp; try exact ⟨rfl, rfl⟩)⟩, ?_⟩
      simp only [Act.put, List.getElem_toArray, List.getElem_cons_zero, List.getElem_cons_succ, List.setIfInBounds_toArray, List.set_cons_succ, List.set_cons_zero]
      refine ⟨_, _, (.int .i64 dn), rfl, rfl, ⟨rfl, fun W hW => by first | exact ⟨rfl, rfl⟩ | (simp only [Act.eval, execOp]; go_simp; try exact ⟨rfl, rfl⟩)⟩, ?_⟩
      simp only [Act.put, List.getElem_toArray, List.getElem_cons_zero, List.getElem_cons_succ, List.setIfInBounds_toArray, List.set_cons_succ, List.set_cons_zero]
      refine ⟨_, _, (.int .i64 de), rfl, rfl, ⟨rfl, fun W hW => by first | exact ⟨rfl, rfl⟩ | (simp only [Act.eval, execOp]; go_simp; try exact ⟨rfl, rfl⟩)⟩, ?_⟩
      simp only [Act.put, List.getElem_toArray, List.getElem_cons_zero, List.getElem_cons_succ, List.setIfInBounds_toArray, List.set_cons_succ, List.set_cons_zero]
      refine ⟨_, rfl, ?_⟩
      have hBa2 := (hBc1).alloc (hBc1).size (.cells #[.slice none 0 0, .int .i64 0] 26)
      have hra2 : (w8.alloc (.cells #[.slice none 0 0, .int .i64 0] 26 (0, 0))).heap[w8.heap.size]? = _ := heap_alloc_new w8 (.cells #[.slice none 0 0, .int .i64 0] 26 (0, 0))
      go_wp2_with fail
      refine ⟨rfl, hBa2, ?_⟩
      have hle_w8 : v3.heap.size ≤ w8.heap.size := (hBc1).size
      have hB9 := (hBc1).alloc (hBc1).size (.cells #[.slice A9 el.length c9, .int .i64 room] 26)
      have hS9 := stB_new N9 hcap9 room
      have HAB : v3.heap.size ≤ w8.heap.size := by first | exact hle_w8 | exact Nat.le_refl _
      refine ⟨_, rfl, ?_⟩
      go_wp2_with fail
      refine ⟨rfl, hB9, ?_⟩
      refine ⟨_, rfl, ?_⟩
      go_wp2_with fail
      refine ⟨rfl, hB9, ?_⟩
      refine ⟨_, rfl, ?_⟩
      go_wp2_with fail
      refine ⟨rfl, hB9, ?_⟩
      show ∃ (A9 : Option Addr) (c9 b9 : Nat), _
      refine ⟨A9, c9, w8.heap.size, ?_, HAB, hS9, hB9⟩
      first | rfl | simp only [Act.put, List.getElem_toArray, List.getElem_cons_zero, List.getElem_cons_succ, List.setIfInBounds_toArray, List.set_cons_succ, List.set_cons_zero]
    · skip
      refine ⟨_, rfl, ?_⟩
      have hBa1 := ((below_drew v3)).alloc (Nat.le_refl _) (.cells #[.slice none 0 0, .int .i64 0] 26)
      have hra1 : (v3.drew.alloc (.cells #[.slice none 0 0, .int .i64 0] 26 (0, 0))).heap[v3.heap.size]? = _ := heap_alloc_new v3.drew (.cells #[.slice none 0 0, .int .i64 0] 26 (0, 0))
      go_wp2_with fail
      refine ⟨rfl, hBa1, ?_⟩
      refine ⟨_, rfl, ?_⟩
      go_wp2_with fail
      refine (hem _ hBa1).mono ?_
      intro e w8 h
      obtain ⟨A9, c9, rfl, hcap9, N9, hb⟩ := putR_box h
      clear h
      have hBc3 := Qt.more hBa1 (hBa1).size hb
      have hrw3 := (hb.block _ (lt_heap6 hra1)).trans hra1
      have hb_0_3 := hb
      have f0 : w8.frozen? ⟨v3.heap.size, 0, none⟩ = false := Lib.frozen_of_heap hrw3 0
      have f1 : w8.frozen? ⟨v3.heap.size, 1, none⟩ = false := Lib.frozen_of_heap hrw3 1
      have g0 : w8.cell? ⟨v3.heap.size, 0, none⟩ = some (.slice none 0 0) := by rw [Lib.cell_of_heap hrw3]; rfl
      have g1 : w8.cell? ⟨v3.heap.size, 1, none⟩ = some (.int .i64 0) := by rw [Lib.cell_of_heap hrw3]; rfl
      go_wp2_with fail
      refine ⟨rfl, hBc3, ?_⟩
      refine ⟨_, _, (.tuple #[.agg #[.slice A9 el.length c9, .int .i64 room], .int .i64 dn, .int .i64 de]), rfl, rfl, ⟨rfl, fun W hW => by first | exact ⟨rfl, rfl⟩ | (simp only [Act.eval, execOp]; go_simp; try exact ⟨rfl, rfl⟩)⟩, ?_⟩
      simp only [Act.put, List.getElem_toArray, List.getElem_cons_zero, List.getElem_cons_succ, List.setIfInBounds_toArray, List.set_cons_succ, List.set_cons_zero]
      refine ⟨_, _, (.agg #[.slice A9 el.length c9, .int .i64 room]), rfl, rfl, ⟨rfl, fun W hW => by first | exact ⟨rfl, rfl⟩ | (simp only [Act.eval, execOp]; go_simp; try exact ⟨rfl, rfl⟩)⟩, ?_⟩
      simp only [Act.put, List.getElem_toArray, List.getElem_cons_zero, List.getElem_cons_succ, List.setIfInBounds_toArray, List.set_cons_succ, List.set_cons_zero]
      refine ⟨_, _, (.int .i64 dn), rfl, rfl, ⟨rfl, fun W hW => by first | exact ⟨rfl, rfl⟩ | (simp only [Act.eval, execOp]; go_simp; try exact ⟨rfl, rfl⟩)⟩, ?_⟩
      simp only [Act.put, List.getElem_toArray, List.getElem_cons_zero, List.getElem_cons_succ, List.setIfInBounds_toArray, List.set_cons_succ, List.set_cons_zero]
      refine ⟨_, _, (.int .i64 de), rfl, rfl, ⟨rfl, fun W hW => by first | exact ⟨rfl, rfl⟩ | (simp only [Act.eval, execOp]; go_simp; try exact ⟨rfl, rfl⟩)⟩, ?_⟩
      simp only [Act.put, List.getElem_toArray, List.getElem_cons_zero, List.getElem_cons_succ, List.setIfInBounds_toArray, List.set_cons_succ, List.set_cons_zero]
      have hB9 := ((hBc3.setCell (p := ⟨v3.heap.size, 0, none⟩) (Nat.le_refl _) (.slice A9 el.length c9)).setCell (p := ⟨v3.heap.size, 1, none⟩) (Nat.le_refl _) (.int .i64 room))
      have hS9 := stB_put (room := room) hrw3 N9 hcap9
      have HAB : v3.heap.size ≤ v3.heap.size := by first | exact Nat.le_refl _ | exact hle_v3
      refine ⟨_, rfl, ?_⟩
      go_wp2_with fail
      refine ⟨rfl, hB9, ?_⟩
      refine ⟨_, rfl, ?_⟩
      go_wp2_with fail
      refine ⟨rfl, hB9, ?_⟩
      refine ⟨_, rfl, ?_⟩
      go_wp2_with fail
      refine ⟨rfl, hB9, ?_⟩
      show ∃ (A9 : Option Addr) (c9 b9 : Nat), _
      refine ⟨A9, c9, v3.heap.size, ?_, HAB, hS9, hB9⟩
      first | rfl | simp only [Act.put, List.getElem_toArray, List.getElem_cons_zero, List.getElem_cons_succ, List.setIfInBounds_toArray, List.set_cons_succ, List.set_cons_zero]
  rintro a9 w9 ⟨A9, c9, ab, rfl, hab, hS9, hb9⟩
  simp only [Act.put, List.setIfInBounds_toArray, List.set_cons_succ, List.set_cons_zero]
  have hE9 := HE.out.below hb9
  have hX9 := (hb9.block _ (lt_heap6 HX.out)).trans HX.out
  have hab3 : w.heap.size + 3 ≤ ab := by have := lt_heap6 HX.out; omega
  clear hst hlv hem hemp hb9 hab HL0 HX
  by_cases hde : de = 0
  · subst hde
    have hal := (Below.refl w9.heap.size w9).alloc (Nat.le_refl _) (.cells #[.int .i64 0, .int .i64 0, .int .i64 0, .int .i64 0] 55)
    have hkb : ab < w9.heap.size := lt_heap6 hS9.row
    have HA0 := Lib.hid (show LaAt w (w9.alloc (.cells #[.int .i64 0, .int .i64 0, .int .i64 0, .int .i64 0] 55)) (some ⟨b0, off, none⟩) l.length c room kk ab w9.heap.size A9 el c9 (0, 0, 0, 0) from
      ⟨heap_old hE9.st.row, heap_old hE9.res, heap_old hX9, hS9.below hal, heap_new rfl, Qt.more hE9.bel hE9.bel.size hal⟩)
    clear hal hE9 hX9 hS9 HE
    go_wp2_with fail
    generalize (w9.alloc (.cells #[.int .i64 0, .int .i64 0, .int .i64 0, .int .i64 0] 55)) = w10 at *
    generalize w9.heap.size = kb at *
    go_loopw [12] (fun u wr => ∃ i : Nat, i ≤ 4 ∧ u = .int .i64 i ∧ Hid ((fourTo (fun i l' => put6 l' room (growK kk dn i)) el i).2.2 = 0) ∧ Hid (∃ A2 c2, LaAt w wr (some ⟨b0, off, none⟩) l.length c room kk ab kb A2 (fourTo (fun i l' => put6 l' room (growK kk dn i)) el i).1 c2 (fourTo (fun i l' => put6 l' room (growK kk dn i)) el i).2.1)) (fun u _ => 4 - (intOf u).toNat)
    case atStart => exact ⟨0, Nat.zero_le _, rfl, rfl, A9, c9, HA0.out⟩
    case round =>
      obtain ⟨i, hi, rfl, HERR, HH⟩ := hrel
      obtain ⟨A2, c2, HD⟩ := HH.out
      by_cases hlt : i < 4
      · have hltz : (i : Int) < 4 := by omega
        have hm := fourTo_right (F := fun i l' => put6 l' room (growK kk dn i)) (fun i l' _ h => put_right h _) HER.out i (by omega)
        have hnx : fourTo (fun i l' => put6 l' room (growK kk dn i)) el (i + 1) = ((put6 (fourTo (fun i l' => put6 l' room (growK kk dn i)) el i).1 room (growK kk dn i)).1, kset (fourTo (fun i l' => put6 l' room (growK kk dn i)) el i).2.1 i (put6 (fourTo (fun i l' => put6 l' room (growK kk dn i)) el i).1 room (growK kk dn i)).2.1, (put6 (fourTo (fun i l' => put6 l' room (growK kk dn i)) el i).1 room (growK kk dn i)).2.2) := by
          show (if (fourTo (fun i l' => put6 l' room (growK kk dn i)) el i).2.2 = 0 then _ else _) = _
          rw [if_pos HERR.out]
        have HSTOP := Lib.hid (fun h => fourTo_stop (F := fun i l' => put6 l' room (growK kk dn i)) (l := el) (i := i + 1) h)
        generalize hF : (fun (i : Nat) (l' : List Nd) => put6 l' room (growK kk dn i)) = F at *
        generalize (fourTo F el i).2.1 = q at *
        generalize (fourTo F el i).1 = M at *
        have hpu := fun W (hW : RdN W W.heap.size A2 M) => refPut7 (A := A2) (c := c2) (growK kk dn i) hW hm HD.bx.cap
        generalize put6 M room (growK kk dn i) = z at *
        obtain ⟨zl, zn, ze⟩ := z
        dsimp only at hnx
        have HNX := Lib.hid hnx
        have HD0 := Lib.hid HD
        have HPU := Lib.hid hpu
        clear hnx hpu HH hm HD HA0 hF
        obtain ⟨x9, hx9⟩ : ∃ x9, x9 = wr := ⟨_, rfl⟩
        rw [← hx9] at HD0 ⊢
        clear hx9
        rcases (by omega : i = 0 ∨ i = 1 ∨ i = 2 ∨ i = 3) with rfl | rfl | rfl | rfl
        · have hK : growK kk dn 0 = (dn, dn, dn, kk.1) := rfl
          have hpu := HPU.out
          rw [hK] at hpu
          dsimp only at hpu
          have hal := (Below.refl x9.heap.size x9).alloc (Nat.le_refl _) (.cells #[.int .i64 dn, .int .i64 dn, .int .i64 dn, .int .i64 kk.1] 55)
          have HD1 := Lib.hid (HD0.out.below hal)
          have g0 : x9.cell? ⟨w.heap.size + 2, 0, none⟩ = some (.int .i64 kk.1) := HD0.out.x.c (j := 0) (by decide)
          have g0 : ∀ o, (x9.alloc o).cell? ⟨w.heap.size + 2, 0, none⟩ = some (.int .i64 kk.1) := fun o => (World.cell?_alloc_lt x9 o _ (block_lt_of_cell g0)).trans g0
          have hq : KR (x9.alloc (.cells #[.int .i64 dn, .int .i64 dn, .int .i64 dn, .int .i64 kk.1] 55)) x9.heap.size (dn, dn, dn, kk.1) := heap_new rfl
          have q0 := hq.c (j := 0) (by decide)
          have q1 := hq.c (j := 1) (by decide)
          have q2 := hq.c (j := 2) (by decide)
          have q3 := hq.c (j := 3) (by decide)
          simp only [kd] at q0 q1 q2 q3
          have u0 := HD1.out.bx.s0
          have u1 := HD1.out.bx.s1
          have hc1 := hpu _ HD1.out.bx.rd
          clear hpu hal hq HPU hK HD0
          go_wp2_with fail
          clear g0 q0 q1 q2 q3 u0 u1
          generalize (x9.alloc (.cells #[.int .i64 dn, .int .i64 dn, .int .i64 dn, .int .i64 kk.1] 55)) = v9 at *
          generalize x9.heap.size = qb at *
          refine hc1.mono ?_
          rintro e w11 ⟨v8, rfl, ⟨A5, c5, rfl, hc5, hR5⟩, hb11⟩
          dsimp only at hc5 hR5
          have hal := (Below.refl w11.heap.size w11).alloc (Nat.le_refl _) (.cells #[.slice A5 zl.length c5, .int .i64 room] 26)
          have hS := stB_new hR5 hc5 room
          have hD := (HD1.out.below hb11).below hal
          have HS := Lib.hid hS
          have HD2 := Lib.hid hD
          have v0 := hS.s0
          have v1 := hS.s1
          clear hc1 hb11 hR5 hal HD1
          by_cases hze : ze = 0
          · subst hze
            have a0 := hD.bx.s0
            have a1 := hD.bx.s1
            have f0 := hD.bx.f0
            have f1 := hD.bx.f1
            have hP := hD.put hab3 hkb hS.rd hS.cap
            have k0 := hP.kids.c (j := 0) (by decide)
            have kf : ((((w11.alloc (.cells #[.slice A5 zl.length c5, .int .i64 room] 26))).setCell ⟨ab, 0, none⟩ (.slice A5 zl.length c5)).setCell ⟨ab, 1, none⟩ (.int .i64 room)).frozen? ⟨kb, 0, none⟩ = false := Lib.frozen_of_heap hP.kids 0
            have HQ := Lib.hid (hP.kid hab3 hkb (j := 0) (by decide) zn)
            clear hS hD hP HS HD2
            go_wp2_with fail
            clear v0 v1 a0 a1 f0 f1 k0 kf
            go_roundw
            case measure => simp [intOf]
            case rel => exact ⟨1, by decide, by go_num, by rw [HNX.out]; exact rfl, A5, c5, by rw [HNX.out]; exact HQ.out⟩
          · have hzd : decide (ze = 0) = false := decide_eq_false hze
            have h4 : (fourTo F el 4).2.2 = ze := by
              have := HSTOP.out (by rw [HNX.out]; exact hze) (4 - 1)
              rw [show 1 + (4 - 1) = 4 from rfl] at this
              rw [this, HNX.out]
            have hYe : Y = (l, 0, ze) := by
              have h := HY.out
              first | rw [if_pos trivial] at h | rw [if_pos rfl] at h
              unfold four at h
              simp only [h4, if_neg hze] at h
              exact h
            clear HY
            subst hYe
            have s0 := hD.s0
            have s1 := hD.s1
            have r0 := hD.r0
            have r1 := hD.r1
            have fr0 := hD.free 0
            have fr1 := hD.free 1
            have HT := Lib.hid (hD.told ((HRR.out.below hD.bel (Nat.le_refl _)).more hD.bel.size) (.slice (some ⟨b0, off, none⟩) l.length c) (.int .i64 room))
            clear hS hD HS HD2 h4 HNX HSTOP HERR
            go_wp2_with fail
            clear r0 r1 fr0 fr1 s0 s1 v0 v1
            refine bodyPost_ret (results_cell3 rfl _ _ _ _ _ _ _ rfl HT.out.1 Tryz.underlying26 rfl (by kernel_rfl)) rfl ?_
            exact ⟨_, rfl, ⟨_, c, rfl, hc, HT.out.2.2⟩, HT.out.2.1⟩
        · have hK : growK kk dn 1 = (dn, dn, kk.2.1, dn) := rfl
          have hpu := HPU.out
          rw [hK] at hpu
          dsimp only at hpu
          have hal := (Below.refl x9.heap.size x9).alloc (Nat.le_refl _) (.cells #[.int .i64 dn, .int .i64 dn, .int .i64 kk.2.1, .int .i64 dn] 55)
          have HD1 := Lib.hid (HD0.out.below hal)
          have g0 : x9.cell? ⟨w.heap.size + 2, 1, none⟩ = some (.int .i64 kk.2.1) := HD0.out.x.c (j := 1) (by decide)
          have g0 : ∀ o, (x9.alloc o).cell? ⟨w.heap.size + 2, 1, none⟩ = some (.int .i64 kk.2.1) := fun o => (World.cell?_alloc_lt x9 o _ (block_lt_of_cell g0)).trans g0
          have hq : KR (x9.alloc (.cells #[.int .i64 dn, .int .i64 dn, .int .i64 kk.2.1, .int .i64 dn] 55)) x9.heap.size (dn, dn, kk.2.1, dn) := heap_new rfl
          have q0 := hq.c (j := 0) (by decide)
          have q1 := hq.c (j := 1) (by decide)
          have q2 := hq.c (j := 2) (by decide)
          have q3 := hq.c (j := 3) (by decide)
          simp only [kd] at q0 q1 q2 q3
          have u0 := HD1.out.bx.s0
          have u1 := HD1.out.bx.s1
          have hc1 := hpu _ HD1.out.bx.rd
          clear hpu hal hq HPU hK HD0
          go_wp2_with fail
          clear g0 q0 q1 q2 q3 u0 u1
          generalize (x9.alloc (.cells #[.int .i64 dn, .int .i64 dn, .int .i64 kk.2.1, .int .i64 dn] 55)) = v9 at *
          generalize x9.heap.size = qb at *
          refine hc1.mono ?_
          rintro e w11 ⟨v8, rfl, ⟨A5, c5, rfl, hc5, hR5⟩, hb11⟩
          dsimp only at hc5 hR5
          have hal := (Below.refl w11.heap.size w11).alloc (Nat.le_refl _) (.cells #[.slice A5 zl.length c5, .int .i64 room] 26)
          have hS := stB_new hR5 hc5 room
          have hD := (HD1.out.below hb11).below hal
          have HS := Lib.hid hS
          have HD2 := Lib.hid hD
          have v0 := hS.s0
          have v1 := hS.s1
          clear hc1 hb11 hR5 hal HD1
          by_cases hze : ze = 0
          · subst hze
            have a0 := hD.bx.s0
            have a1 := hD.bx.s1
            have f0 := hD.bx.f0
            have f1 := hD.bx.f1
            have hP := hD.put hab3 hkb hS.rd hS.cap
            have k0 := hP.kids.c (j := 1) (by decide)
            have kf : ((((w11.alloc (.cells #[.slice A5 zl.length c5, .int .i64 room] 26))).setCell ⟨ab, 0, none⟩ (.slice A5 zl.length c5)).setCell ⟨ab, 1, none⟩ (.int .i64 room)).frozen? ⟨kb, 1, none⟩ = false := Lib.frozen_of_heap hP.kids 1
            have HQ := Lib.hid (hP.kid hab3 hkb (j := 1) (by decide) zn)
            clear hS hD hP HS HD2
            go_wp2_with fail
            clear v0 v1 a0 a1 f0 f1 k0 kf
            go_roundw
            case measure => simp [intOf]
            case rel => exact ⟨2, by decide, by go_num, by rw [HNX.out]; exact rfl, A5, c5, by rw [HNX.out]; exact HQ.out⟩
          · have hzd : decide (ze = 0) = false := decide_eq_false hze
            have h4 : (fourTo F el 4).2.2 = ze := by
              have := HSTOP.out (by rw [HNX.out]; exact hze) (4 - 2)
              rw [show 2 + (4 - 2) = 4 from rfl] at this
              rw [this, HNX.out]
            have hYe : Y = (l, 0, ze) := by
              have h := HY.out
              first | rw [if_pos trivial] at h | rw [if_pos rfl] at h
              unfold four at h
              simp only [h4, if_neg hze] at h
              exact h
            clear HY
            subst hYe
            have s0 := hD.s0
            have s1 := hD.s1
            have r0 := hD.r0
            have r1 := hD.r1
            have fr0 := hD.free 0
            have fr1 := hD.free 1
            have HT := Lib.hid (hD.told ((HRR.out.below hD.bel (Nat.le_refl _)).more hD.bel.size) (.slice (some ⟨b0, off, none⟩) l.length c) (.int .i64 room))
            clear hS hD HS HD2 h4 HNX HSTOP HERR
            go_wp2_with fail
            clear r0 r1 fr0 fr1 s0 s1 v0 v1
            refine bodyPost_ret (results_cell3 rfl _ _ _ _ _ _ _ rfl HT.out.1 Tryz.underlying26 rfl (by kernel_rfl)) rfl ?_
            exact ⟨_, rfl, ⟨_, c, rfl, hc, HT.out.2.2⟩, HT.out.2.1⟩
        · have hK : growK kk dn 2 = (dn, kk.2.2.1, dn, dn) := rfl
          have hpu := HPU.out
          rw [hK] at hpu
          dsimp only at hpu
          have hal := (Below.refl x9.heap.size x9).alloc (Nat.le_refl _) (.cells #[.int .i64 dn, .int .i64 kk.2.2.1, .int .i64 dn, .int .i64 dn] 55)
          have HD1 := Lib.hid (HD0.out.below hal)
          have g0 : x9.cell? ⟨w.heap.size + 2, 2, none⟩ = some (.int .i64 kk.2.2.1) := HD0.out.x.c (j := 2) (by decide)
          have g0 : ∀ o, (x9.alloc o).cell? ⟨w.heap.size + 2, 2, none⟩ = some (.int .i64 kk.2.2.1) := fun o => (World.cell?_alloc_lt x9 o _ (block_lt_of_cell g0)).trans g0
          have hq : KR (x9.alloc (.cells #[.int .i64 dn, .int .i64 kk.2.2.1, .int .i64 dn, .int .i64 dn] 55)) x9.heap.size (dn, kk.2.2.1, dn, dn) := heap_new rfl
          have q0 := hq.c (j := 0) (by decide)
          have q1 := hq.c (j := 1) (by decide)
          have q2 := hq.c (j := 2) (by decide)
          have q3 := hq.c (j := 3) (by decide)
          simp only [kd] at q0 q1 q2 q3
          have u0 := HD1.out.bx.s0
          have u1 := HD1.out.bx.s1
          have hc1 := hpu _ HD1.out.bx.rd
          clear hpu hal hq HPU hK HD0
          go_wp2_with fail
          clear g0 q0 q1 q2 q3 u0 u1
          generalize (x9.alloc (.cells #[.int .i64 dn, .int .i64 kk.2.2.1, .int .i64 dn, .int .i64 dn] 55)) = v9 at *
          generalize x9.heap.size = qb at *
          refine hc1.mono ?_
          rintro e w11 ⟨v8, rfl, ⟨A5, c5, rfl, hc5, hR5⟩, hb11⟩
          dsimp only at hc5 hR5
          have hal := (Below.refl w11.heap.size w11).alloc (Nat.le_refl _) (.cells #[.slice A5 zl.length c5, .int .i64 room] 26)
          have hS := stB_new hR5 hc5 room
          have hD := (HD1.out.below hb11).below hal
          have HS := Lib.hid hS
          have HD2 := Lib.hid hD
          have v0 := hS.s0
          have v1 := hS.s1
          clear hc1 hb11 hR5 hal HD1
          by_cases hze : ze = 0
          · subst hze
            have a0 := hD.bx.s0
            have a1 := hD.bx.s1
            have f0 := hD.bx.f0
            have f1 := hD.bx.f1
            have hP := hD.put hab3 hkb hS.rd hS.cap
            have k0 := hP.kids.c (j := 2) (by decide)
            have kf : ((((w11.alloc (.cells #[.slice A5 zl.length c5, .int .i64 room] 26))).setCell ⟨ab, 0, none⟩ (.slice A5 zl.length c5)).setCell ⟨ab, 1, none⟩ (.int .i64 room)).frozen? ⟨kb, 2, none⟩ = false := Lib.frozen_of_heap hP.kids 2
            have HQ := Lib.hid (hP.kid hab3 hkb (j := 2) (by decide) zn)
            clear hS hD hP HS HD2
            go_wp2_with fail
            clear v0 v1 a0 a1 f0 f1 k0 kf
            go_roundw
            case measure => simp [intOf]
            case rel => exact ⟨3, by decide, by go_num, by rw [HNX.out]; exact rfl, A5, c5, by rw [HNX.out]; exact HQ.out⟩
          · have hzd : decide (ze = 0) = false := decide_eq_false hze
            have h4 : (fourTo F el 4).2.2 = ze := by
              have := HSTOP.out (by rw [HNX.out]; exact hze) (4 - 3)
              rw [show 3 + (4 - 3) = 4 from rfl] at this
              rw [this, HNX.out]
            have hYe : Y = (l, 0, ze) := by
              have h := HY.out
              first | rw [if_pos trivial] at h | rw [if_pos rfl] at h
              unfold four at h
              simp only [h4, if_neg hze] at h
              exact h
            clear HY
            subst hYe
            have s0 := hD.s0
            have s1 := hD.s1
            have r0 := hD.r0
            have r1 := hD.r1
            have fr0 := hD.free 0
            have fr1 := hD.free 1
            have HT := Lib.hid (hD.told ((HRR.out.below hD.bel (Nat.le_refl _)).more hD.bel.size) (.slice (some ⟨b0, off, none⟩) l.length c) (.int .i64 room))
            clear hS hD HS HD2 h4 HNX HSTOP HERR
            go_wp2_with fail
            clear r0 r1 fr0 fr1 s0 s1 v0 v1
            refine bodyPost_ret (results_cell3 rfl _ _ _ _ _ _ _ rfl HT.out.1 Tryz.underlying26 rfl (by kernel_rfl)) rfl ?_
            exact ⟨_, rfl, ⟨_, c, rfl, hc, HT.out.2.2⟩, HT.out.2.1⟩
        · have hK : growK kk dn 3 = (kk.2.2.2, dn, dn, dn) := rfl
          have hpu := HPU.out
          rw [hK] at hpu
          dsimp only at hpu
          have hal := (Below.refl x9.heap.size x9).alloc (Nat.le_refl _) (.cells #[.int .i64 kk.2.2.2, .int .i64 dn, .int .i64 dn, .int .i64 dn] 55)
          have HD1 := Lib.hid (HD0.out.below hal)
          have g0 : x9.cell? ⟨w.heap.size + 2, 3, none⟩ = some (.int .i64 kk.2.2.2) := HD0.out.x.c (j := 3) (by decide)
          have g0 : ∀ o, (x9.alloc o).cell? ⟨w.heap.size + 2, 3, none⟩ = some (.int .i64 kk.2.2.2) := fun o => (World.cell?_alloc_lt x9 o _ (block_lt_of_cell g0)).trans g0
          have hq : KR (x9.alloc (.cells #[.int .i64 kk.2.2.2, .int .i64 dn, .int .i64 dn, .int .i64 dn] 55)) x9.heap.size (kk.2.2.2, dn, dn, dn) := heap_new rfl
          have q0 := hq.c (j := 0) (by decide)
          have q1 := hq.c (j := 1) (by decide)
          have q2 := hq.c (j := 2) (by decide)
          have q3 := hq.c (j := 3) (by decide)
          simp only [kd] at q0 q1 q2 q3
          have u0 := HD1.out.bx.s0
          have u1 := HD1.out.bx.s1
          have hc1 := hpu _ HD1.out.bx.rd
          clear hpu hal hq HPU hK HD0
          go_wp2_with fail
          clear g0 q0 q1 q2 q3 u0 u1
          generalize (x9.alloc (.cells #[.int .i64 kk.2.2.2, .int .i64 dn, .int .i64 dn, .int .i64 dn] 55)) = v9 at *
          generalize x9.heap.size = qb at *
          refine hc1.mono ?_
          rintro e w11 ⟨v8, rfl, ⟨A5, c5, rfl, hc5, hR5⟩, hb11⟩
          dsimp only at hc5 hR5
          have hal := (Below.refl w11.heap.size w11).alloc (Nat.le_refl _) (.cells #[.slice A5 zl.length c5, .int .i64 room] 26)
          have hS := stB_new hR5 hc5 room
          have hD := (HD1.out.below hb11).below hal
          have HS := Lib.hid hS
          have HD2 := Lib.hid hD
          have v0 := hS.s0
          have v1 := hS.s1
          clear hc1 hb11 hR5 hal HD1
          by_cases hze : ze = 0
          · subst hze
            have a0 := hD.bx.s0
            have a1 := hD.bx.s1
            have f0 := hD.bx.f0
            have f1 := hD.bx.f1
            have hP := hD.put hab3 hkb hS.rd hS.cap
            have k0 := hP.kids.c (j := 3) (by decide)
            have kf : ((((w11.alloc (.cells #[.slice A5 zl.length c5, .int .i64 room] 26))).setCell ⟨ab, 0, none⟩ (.slice A5 zl.length c5)).setCell ⟨ab, 1, none⟩ (.int .i64 room)).frozen? ⟨kb, 3, none⟩ = false := Lib.frozen_of_heap hP.kids 3
            have HQ := Lib.hid (hP.kid hab3 hkb (j := 3) (by decide) zn)
            clear hS hD hP HS HD2
            go_wp2_with fail
            clear v0 v1 a0 a1 f0 f1 k0 kf
            go_roundw
            case measure => simp [intOf]
            case rel => exact ⟨4, by decide, by go_num, by rw [HNX.out]; exact rfl, A5, c5, by rw [HNX.out]; exact HQ.out⟩
          · have hzd : decide (ze = 0) = false := decide_eq_false hze
            have h4 : (fourTo F el 4).2.2 = ze := by
              have := HSTOP.out (by rw [HNX.out]; exact hze) (4 - 4)
              rw [show 4 + (4 - 4) = 4 from rfl] at this
              rw [this, HNX.out]
            have hYe : Y = (l, 0, ze) := by
              have h := HY.out
              first | rw [if_pos trivial] at h | rw [if_pos rfl] at h
              unfold four at h
              simp only [h4, if_neg hze] at h
              exact h
            clear HY
            subst hYe
            have s0 := hD.s0
            have s1 := hD.s1
            have r0 := hD.r0
            have r1 := hD.r1
            have fr0 := hD.free 0
            have fr1 := hD.free 1
            have HT := Lib.hid (hD.told ((HRR.out.below hD.bel (Nat.le_refl _)).more hD.bel.size) (.slice (some ⟨b0, off, none⟩) l.length c) (.int .i64 room))
            clear hS hD HS HD2 h4 HNX HSTOP HERR
            go_wp2_with fail
            clear r0 r1 fr0 fr1 s0 s1 v0 v1
            refine bodyPost_ret (results_cell3 rfl _ _ _ _ _ _ _ rfl HT.out.1 Tryz.underlying26 rfl (by kernel_rfl)) rfl ?_
            exact ⟨_, rfl, ⟨_, c, rfl, hc, HT.out.2.2⟩, HT.out.2.1⟩
      · obtain rfl : i = 4 := by omega
        have hltz : ¬ ((4 : Nat) : Int) < 4 := by decide
        have hm := fourTo_right (F := fun i l' => put6 l' room (growK kk dn i)) (fun i l' _ h => put_right h _) HER.out 4 (by omega)
        have hpu := fun W (hW : RdN W W.heap.size A2 (fourTo (fun i l' => put6 l' room (growK kk dn i)) el 4).1) => refPut7 (A := A2) (c := c2) (fourTo (fun i l' => put6 l' room (growK kk dn i)) el 4).2.1 hW hm HD.bx.cap
        have hyy := HY.out
        unfold four at hyy
        rw [if_pos HERR.out] at hyy
        generalize (fourTo (fun i l' => put6 l' room (growK kk dn i)) el 4).2.1 = q at *
        generalize (fourTo (fun i l' => put6 l' room (growK kk dn i)) el 4).1 = M at *
        generalize put6 M room q = z at *
        obtain ⟨zl, zn, ze⟩ := z
        have hy2 : Y = if ze = 0 then (zl, zn, ze) else (l, 0, ze) := by first | exact hyy | simpa using hyy
        have u0 := HD.bx.s0
        have u1 := HD.bx.s1
        have k0 := HD.kids.c (j := 0) (by decide)
        have k1 := HD.kids.c (j := 1) (by decide)
        have k2 := HD.kids.c (j := 2) (by decide)
        have k3 := HD.kids.c (j := 3) (by decide)
        simp only [kd] at k0 k1 k2 k3
        have hc1 := hpu wr HD.bx.rd
        have HD0 := Lib.hid HD
        have HYY := Lib.hid hy2
        clear HH HD hm hpu HA0 HY hyy hy2 HERR
        go_wp2_with fail
        refine hc1.mono ?_
        rintro e w11 ⟨v9, rfl, ⟨A5, c5, rfl, hc5, hR5⟩, hb11⟩
        dsimp only at hc5 hR5
        have hal := (Below.refl w11.heap.size w11).alloc (Nat.le_refl _) (.cells #[.slice A5 zl.length c5, .int .i64 room] 26)
        have hS := stB_new hR5 hc5 room
        have hD := (HD0.out.below hb11).below hal
        have q0 := hD.s0
        have q1 := hD.s1
        have v0 := hS.s0
        have v1 := hS.s1
        have r0 := hD.r0
        have r1 := hD.r1
        have fr0 := hD.free 0
        have fr1 := hD.free 1
        have HS := Lib.hid hS
        have HD1 := Lib.hid hD
        clear hc1 hb11 hR5 hal hS hD HD0 u0 u1 k0 k1 k2 k3
        by_cases hze : ze = 0
        · subst hze
          have HT := Lib.hid (HD1.out.told HS.out.rd (.slice A5 zl.length c5) (.int .i64 room))
          go_wp2_with fail
          clear r0 r1 fr0 fr1 q0 q1 v0 v1
          refine bodyPost_ret (results_cell3 rfl _ _ _ _ _ _ _ rfl HT.out.1 Tryz.underlying26 rfl (by kernel_rfl)) rfl ?_
          rw [HYY.out]; first | rw [if_pos trivial] | rw [if_pos rfl]
          exact ⟨_, rfl, ⟨A5, c5, rfl, hc5, HT.out.2.2⟩, HT.out.2.1⟩
        · have hzd : decide (ze = 0) = false := decide_eq_false hze
          have HT := Lib.hid (HD1.out.told ((HRR.out.below HD1.out.bel (Nat.le_refl _)).more HD1.out.bel.size) (.slice (some ⟨b0, off, none⟩) l.length c) (.int .i64 room))
          go_wp2_with fail
          clear r0 r1 fr0 fr1 q0 q1 v0 v1
          refine bodyPost_ret (results_cell3 rfl _ _ _ _ _ _ _ rfl HT.out.1 Tryz.underlying26 rfl (by kernel_rfl)) rfl ?_
          rw [HYY.out, if_neg hze]
          exact ⟨_, rfl, ⟨_, c, rfl, hc, HT.out.2.2⟩, HT.out.2.1⟩
  · have hzd : decide (de = 0) = false := decide_eq_false hde
    have hYe : Y = (l, 0, de) := by
      have h := HY.out
      rw [if_neg hde] at h
      dsimp only at h
      rw [if_neg hde] at h
      exact h
    subst hYe
    have s0 := hE9.s0
    have s1 := hE9.s1
    have r0 := hE9.r0
    have r1 := hE9.r1
    have fr0 := hE9.free 0
    have fr1 := hE9.free 1
    have HT := Lib.hid (hE9.told hE9.st.rd (.slice (some ⟨b0, off, none⟩) l.length c) (.int .i64 room))
    clear hE9 hX9 hS9 HE HY
    go_wp2_with fail
    clear r0 r1 fr0 fr1 s0 s1
    refine bodyPost_ret (results_cell3 rfl _ _ _ _ _ _ _ rfl HT.out.1 Tryz.underlying26 rfl (by kernel_rfl)) rfl ?_
    exact ⟨_, rfl, ⟨_, c, rfl, hc, HT.out.2.2⟩, HT.out.2.1⟩
end Go.Proofs.YtmmaeikeafemaaaGreat
