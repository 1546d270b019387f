/-
  Texts that the claims of this seat share, part 28.
-/
import Derived.Test.YtgjibpgfcbdpgaaB23
import Derived.Test.YtgjibpgfcbdpgaaB07
import Derived.Test.YtgjibpgfcbdpgaaB27
set_option linter.unusedVariables false
set_option linter.unusedSimpArgs false
namespace Go.Proofs.Ytgjibpgfcbdpgaa
set_option maxRecDepth 100000
set_option linter.unusedVariables false
set_option linter.unusedSimpArgs false
open Go.RowKit Go.Sort

/-- What Flat and Of answer. -/
def FlR (L : List (Int × Int)) (w : World) (r : Ending) (w' : World) : Prop := ∃ A c, r = .returned (.slice A L.length c) ∧ L.length ≤ c ∧ RdC w' w'.heap.size A L ∧ Below w.heap.size w w'
/-- What is known in Flat: the boxes of the store, the place and the node. -/
structure FlAt (w wr : World) (A : Option Addr) (n c : Nat) (room : Int) (p : Int × Int) (lev : Int) (kk : Kd) (pp : Int) : Prop where
  st : wr.heap[w.heap.size]? = some (.cells #[.slice A n c, .int .i64 room] 26 (0, 0))
  cl : ClB wr (w.heap.size + 1) p
  nd : NR wr (w.heap.size + 2) lev kk pp
  bel : Below w.heap.size w wr
  sz : w.heap.size + 3 ≤ wr.heap.size
section
variable {w wr w' : World} {A : Option Addr} {n c : Nat} {room : Int} {p : Int × Int} {lev : Int} {kk : Kd} {pp : Int}
theorem FlAt.next (h : FlAt w wr A n c room p lev kk pp) (hb : Below (w.heap.size + 3) wr w') : FlAt w w' A n c room p lev kk pp :=
  ⟨(hb.block _ (by omega)).trans h.st, ⟨(hb.block _ (by omega)).trans h.cl.row⟩, (hb.block _ (by omega)).trans h.nd, ⟨hb.os.trans h.bel.os, hb.tape.trans h.bel.tape, hb.output.trans h.bel.output, Nat.le_trans h.bel.size hb.size, fun k hk => (hb.block k (by omega)).trans (h.bel.block k hk)⟩, Nat.le_trans h.sz hb.size⟩
theorem FlAt.s0 (h : FlAt w wr A n c room p lev kk pp) : wr.cell? ⟨w.heap.size, 0, none⟩ = some (.slice A n c) := by rw [Lib.cell_of_heap h.st]; rfl
theorem FlAt.s1 (h : FlAt w wr A n c room p lev kk pp) : wr.cell? ⟨w.heap.size, 1, none⟩ = some (.int .i64 room) := by rw [Lib.cell_of_heap h.st]; rfl
end
theorem flR_nil {w w' : World} (hb : Below w.heap.size w w') : FlR [] w (.returned (.slice none 0 0)) w' := ⟨none, 0, rfl, Nat.le_refl _, Cel.Rd.nil _ _ _, hb⟩
theorem flR_one {W : World} {b : Nat} {p : Int × Int} (hb : W.heap.size = b) : RdC (W.alloc (.cells #[.int .i64 p.1, .int .i64 p.2] 48)) (W.alloc (.cells #[.int .i64 p.1, .int .i64 p.2] 48)).heap.size (some ⟨b, 0, none⟩) [p] := fun j hj => by
  subst hb
  have h := heap_alloc_new W (.cells #[.int .i64 p.1, .int .i64 p.2] 48 (0, 0))
  obtain rfl : j = 0 := by simp at hj; omega
  exact ⟨_, _, rfl, by simp, by rw [Lib.cell_of_heap h]; rfl, by rw [Lib.cell_of_heap h]; rfl⟩
/-- what Flat answers, at a level -/
def FlatAt (l : List Nd) (room0 : Int) (k : Nat) : Prop := ∀ (A : Option Addr) (c : Nat) (room : Int) (n : Nat) (p : Int × Int) (w : World), Is l k n → RdN w w.heap.size A l → (flat l k n p).length ≤ 900000 →
    -1152921504606846976 ≤ p.1 ∧ p.1 + 2 ^ k ≤ 1152921504606846976 ∧ -1152921504606846976 ≤ p.2 ∧ p.2 + 2 ^ k ≤ 1152921504606846976 →
    Calls Try.prog 53 #[storeV A l.length c room, .int .i64 (n : Nat), cellV p] w (FlR (flat l k n p) w)
set_option maxHeartbeats 16000000 in
theorem flat_any {room0 : Int} (l : List Nd) (hr : Right6 l room0) : ∀ k, k ≤ 42 → FlatAt l room0 k := by
  intro k
  induction k with
  | zero =>
    intro _ A c room n p w hn hR hlen hpb
    obtain ⟨b0, off, rfl, hbB, hcell⟩ := hR.at_ (by have := hr.two; omega)
    obtain ⟨x0, x1, x2, x3, x4, x5⟩ := hcell n hn.lt
    obtain ⟨px, py⟩ := p
    have hn2 := hn.zero hr
    have hlev : (l.getD n deadN).1 = 0 := hn.lev
    have hpop : (l.getD n deadN).2.2 = if n = 1 then 1 else 0 := by
      rcases (by omega : n = 0 ∨ n = 1) with h | h
      · rw [h, hr.dead]; rfl
      · rw [h, hr.live]; rfl
    rw [hlev] at x0
    rw [hpop] at x5
    have hnz : (n : Int) < (l.length : Int) := by have := hn.lt; omega
    have hal1 := (Below.refl w.heap.size w).alloc (Nat.le_refl _) (.cells #[.slice (some ⟨b0, off, none⟩) l.length c, .int .i64 room] 26)
    have hal2 := hal1.alloc hal1.size (.cells #[.int .i64 px, .int .i64 py] 48)
    have y0 := Qt.keep hal2 x0
    have y1 := Qt.keep hal2 x1
    have y2 := Qt.keep hal2 x2
    have y3 := Qt.keep hal2 x3
    have y4 := Qt.keep hal2 x4
    have y5 := Qt.keep hal2 x5
    generalize (l.getD n deadN) = x at *
    obtain ⟨lv, kk, pp⟩ := x
    dsimp only at y1 y2 y3 y4
    have hf : flat l 0 n (px, py) = if n = 1 then [(px, py)] else [] := rfl
    rw [hf]
    have s0 : ∀ o, ((w.alloc (.cells #[.slice (some ⟨b0, off, none⟩) l.length c, .int .i64 room] 26)).alloc o).cell? ⟨w.heap.size, 0, none⟩ = some (.slice (some ⟨b0, off, none⟩) l.length c) := fun o => by rw [Lib.cell_of_heap (heap_old (heap_new rfl))]; rfl
    unfold storeV cellV
    by_cases hn1 : n = 1
    · rw [if_pos hn1] at y5 ⊢
      have s0 := s0 (.cells #[.int .i64 px, .int .i64 py] 48)
      have hs1 : (w.alloc (.cells #[.slice (some ⟨b0, off, none⟩) l.length c, .int .i64 room] 26)).heap.size = w.heap.size + 1 := by simp
      have hs2 : ((w.alloc (.cells #[.slice (some ⟨b0, off, none⟩) l.length c, .int .i64 room] 26)).alloc (.cells #[.int .i64 px, .int .i64 py] 48)).heap.size = w.heap.size + 1 + 1 := by simp
      have c0 : ∀ o, (((w.alloc (.cells #[.slice (some ⟨b0, off, none⟩) l.length c, .int .i64 room] 26)).alloc (.cells #[.int .i64 px, .int .i64 py] 48)).alloc o).cell? ⟨w.heap.size + 1, 0, none⟩ = some (.int .i64 px) := fun o => by rw [Lib.cell_of_heap (heap_old (heap_new hs1))]; rfl
      have c1 : ∀ o, (((w.alloc (.cells #[.slice (some ⟨b0, off, none⟩) l.length c, .int .i64 room] 26)).alloc (.cells #[.int .i64 px, .int .i64 py] 48)).alloc o).cell? ⟨w.heap.size + 1, 1, none⟩ = some (.int .i64 py) := fun o => by rw [Lib.cell_of_heap (heap_old (heap_new hs1))]; rfl
      have hnd : NR (((w.alloc (.cells #[.slice (some ⟨b0, off, none⟩) l.length c, .int .i64 room] 26)).alloc (.cells #[.int .i64 px, .int .i64 py] 48)).alloc (.cells #[.int .i64 0, .int .i64 kk.1, .int .i64 kk.2.1, .int .i64 kk.2.2.1, .int .i64 kk.2.2.2, .int .i64 1] 35)) (w.heap.size + 1 + 1) 0 kk 1 := heap_new hs2
      have l0 := hnd.lev_
      have p5 := hnd.pop_
      have hal3 := hal2.alloc hal2.size (.cells #[.int .i64 0, .int .i64 kk.1, .int .i64 kk.2.1, .int .i64 kk.2.2.1, .int .i64 kk.2.2.2, .int .i64 1] 35)
      have HB := Lib.hid (hal3.alloc hal3.size (.cells #[.int .i64 px, .int .i64 py] 48))
      clear hcell x0 x1 x2 x3 x4 x5 hal1 hal2 hal3 hR hnd hs1 hs2 hf hpop hn hn1 hlev hlen hpb
      go_enter Try.func53, Try.ntmps53
      go_wp2_with fail
      go_ret
      exact ⟨_, 1, rfl, Nat.le_refl _, flR_one (p := (px, py)) (by simp), HB.out⟩
    · rw [if_neg hn1] at y5 ⊢
      have hal3 := hal2.alloc hal2.size (.cells #[.int .i64 0, .int .i64 kk.1, .int .i64 kk.2.1, .int .i64 kk.2.2.1, .int .i64 kk.2.2.2, .int .i64 0] 35)
      have hs2 : ((w.alloc (.cells #[.slice (some ⟨b0, off, none⟩) l.length c, .int .i64 room] 26)).alloc (.cells #[.int .i64 px, .int .i64 py] 48)).heap.size = w.heap.size + 1 + 1 := by simp
      have hnd : NR (((w.alloc (.cells #[.slice (some ⟨b0, off, none⟩) l.length c, .int .i64 room] 26)).alloc (.cells #[.int .i64 px, .int .i64 py] 48)).alloc (.cells #[.int .i64 0, .int .i64 kk.1, .int .i64 kk.2.1, .int .i64 kk.2.2.1, .int .i64 kk.2.2.2, .int .i64 0] 35)) (w.heap.size + 1 + 1) 0 kk 0 := heap_new hs2
      have p5 := hnd.pop_
      have HB := Lib.hid hal3
      have s0 := s0 (.cells #[.int .i64 px, .int .i64 py] 48)
      clear hcell x0 x1 x2 x3 x4 x5 hal1 hal2 hal3 hR hnd hs2 hf hpop hn hlev hlen hpb
      go_enter Try.func53, Try.ntmps53
      go_wp2_with fail
      go_ret
      exact flR_nil HB.out
  | succ k ih =>
    intro hk A c room n p w hn hR hlen hpb
    have HRR := Lib.hid hR
    obtain ⟨b0, off, rfl, hbB, hcell⟩ := hR.at_ (by have := hr.two; omega)
    obtain ⟨x0, x1, x2, x3, x4, x5⟩ := hcell n hn.lt
    rw [hn.lev, show ((k + 1 : Nat) : Int) = (k : Int) + 1 by omega] at x0
    obtain ⟨px, py⟩ := p
    dsimp only at hpb
    have hal1 := (Below.refl w.heap.size w).alloc (Nat.le_refl _) (.cells #[.slice (some ⟨b0, off, none⟩) l.length c, .int .i64 room] 26)
    have hal2 := hal1.alloc hal1.size (.cells #[.int .i64 px, .int .i64 py] 48)
    have y0 := Qt.keep hal2 x0
    have y1 := Qt.keep hal2 x1
    have y2 := Qt.keep hal2 x2
    have y3 := Qt.keep hal2 x3
    have y4 := Qt.keep hal2 x4
    have y5 := Qt.keep hal2 x5
    have hkid : ∀ i, i < 4 → kd (l.getD n deadN).2.1 i = ((kidN l n i : Nat) : Int) ∧ Is l k (kidN l n i) := fun i hi => ⟨kid_cast hr hn hi, kid_is hr hn hi⟩
    have hflat0 : (l.getD n deadN).2.2 = 0 → flat l (k + 1) n (px, py) = [] := flat_dead hr _ hn
    have hall := flatTo_all l k n (px, py)
    obtain ⟨⟨lv, kk, pp⟩, hnode⟩ : ∃ x, x = l.getD n deadN := ⟨_, rfl⟩
    rw [← hnode] at y1 y2 y3 y4 y5 hkid hflat0
    dsimp only at y1 y2 y3 y4 y5 hkid hflat0
    have hnz : (n : Int) < (l.length : Int) := by have := hn.lt; omega
    have hs1 : (w.alloc (.cells #[.slice (some ⟨b0, off, none⟩) l.length c, .int .i64 room] 26)).heap.size = w.heap.size + 1 := by simp
    have hs2 : ((w.alloc (.cells #[.slice (some ⟨b0, off, none⟩) l.length c, .int .i64 room] 26)).alloc (.cells #[.int .i64 px, .int .i64 py] 48)).heap.size = w.heap.size + 1 + 1 := by simp
    have hal3 := hal2.alloc hal2.size (.cells #[.int .i64 ((k : Int) + 1), .int .i64 kk.1, .int .i64 kk.2.1, .int .i64 kk.2.2.1, .int .i64 kk.2.2.2, .int .i64 pp] 35)
    have HF0 := Lib.hid (show FlAt w (((w.alloc (.cells #[.slice (some ⟨b0, off, none⟩) l.length c, .int .i64 room] 26)).alloc (.cells #[.int .i64 px, .int .i64 py] 48)).alloc (.cells #[.int .i64 ((k : Int) + 1), .int .i64 kk.1, .int .i64 kk.2.1, .int .i64 kk.2.2.1, .int .i64 kk.2.2.2, .int .i64 pp] 35)) (some ⟨b0, off, none⟩) l.length c room (px, py) ((k : Int) + 1) kk pp from
      ⟨heap_old (heap_old (heap_new rfl)), ⟨heap_old (heap_new hs1)⟩, heap_new hs2, hal3, by simp⟩)
    have s0 : ((w.alloc (.cells #[.slice (some ⟨b0, off, none⟩) l.length c, .int .i64 room] 26)).alloc (.cells #[.int .i64 px, .int .i64 py] 48)).cell? ⟨w.heap.size, 0, none⟩ = some (.slice (some ⟨b0, off, none⟩) l.length c) := by rw [Lib.cell_of_heap (heap_old (heap_new rfl))]; rfl
    have l0 := HF0.out.nd.lev_
    have p5 := HF0.out.nd.pop_
    obtain ⟨hp1, hp2⟩ := pow_bd7 (e := k) (by omega)
    have HIH := Lib.hid (ih (by omega))
    have HKID := Lib.hid hkid
    have HALL := Lib.hid hall
    have HLEN := Lib.hid hlen
    have HPB := Lib.hid hpb
    unfold storeV cellV
    by_cases hp0 : pp = 0
    · subst hp0
      have hf := hflat0 rfl
      rw [hf]
      clear hcell x0 x1 x2 x3 x4 x5 hnode hkid hflat0 hall hal1 hal2 hal3 hR ih hs1 hs2 hpb hlen
      go_enter Try.func53, Try.ntmps53
      go_wp2_with fail
      go_ret
      exact flR_nil HF0.out.bel
    · have hp1' : (pp == 0) = false := beq_eq_false_iff_ne.2 hp0
      have hk1 : (((k : Int) + 1) == 0) = false := beq_eq_false_iff_ne.2 (by omega)
      have hk2 : ¬ (k : Int) + 1 = 0 := by omega
      obtain ⟨FL, hFL⟩ : ∃ FL, FL = flat l (k + 1) n (px, py) := ⟨_, rfl⟩
      rw [← hFL]
      have HFL := Lib.hid hFL
      have hadd : (k : Int) + 1 - 1 = (k : Int) := by omega
      have hwk : IntKind.i64.wrap ((k : Int)) = (k : Int) := by rw [IntKind.wrap_i64]; omega
      clear hcell x0 x1 x2 x3 x4 x5 hnode hkid hflat0 hall hal1 hal2 hal3 hR ih hs1 hs2 hFL hpb hlen
      go_enter Try.func53, Try.ntmps53
      go_wp2_with fail
      clear y0 y1 y2 y3 y4 y5 l0 p5 s0
      generalize (((w.alloc (.cells #[.slice (some ⟨b0, off, none⟩) l.length c, .int .i64 room] 26)).alloc (.cells #[.int .i64 px, .int .i64 py] 48)).alloc (.cells #[.int .i64 ((k : Int) + 1), .int .i64 kk.1, .int .i64 kk.2.1, .int .i64 kk.2.2.1, .int .i64 kk.2.2.2, .int .i64 pp] 35)) = w2 at *
      go_loopw [9, 10] (fun v i wr => ∃ j : Nat, j ≤ 4 ∧ i = .int .i64 j ∧ Hid (FlAt w wr (some ⟨b0, off, none⟩) l.length c room (px, py) ((k : Int) + 1) kk pp ∧ OwnC wr (w.heap.size + 3) v (flatTo l k n (px, py) j))) (fun _ i _ => 4 - (intOf i).toNat)
      case atStart => exact ⟨0, by omega, rfl, HF0.out, World.ownsRow_nil _ _ _ _⟩
      case round =>
        obtain ⟨j, hj, rfl, HH⟩ := hrel
        obtain ⟨A1, c1, rfl, hc1, hR1⟩ := Cel.Own.rd HH.out.2
        by_cases hlt : j < 4
        · have hkj := HKID.out j hlt
          have hpb := HPB.out
          have e2 : (2 : Int) ^ (k + 1) = 2 ^ k * 2 := Int.pow_succ ..
          rw [e2] at hpb
          have hbox : -1152921504606846976 ≤ (corner7 k (px, py) j).1 ∧ (corner7 k (px, py) j).1 + 2 ^ k ≤ 1152921504606846976 ∧ -1152921504606846976 ≤ (corner7 k (px, py) j).2 ∧ (corner7 k (px, py) j).2 + 2 ^ k ≤ 1152921504606846976 := by
            unfold corner7
            rcases (by omega : j = 0 ∨ j = 1 ∨ j = 2 ∨ j = 3) with rfl | rfl | rfl | rfl <;> simp <;> omega
          have hl1 := flatTo_len l k n (px, py) (j + 1) 4 (by omega)
          have hl2 : (flatTo l k n (px, py) (j + 1)).length = (flatTo l k n (px, py) j).length + (flat l k (kidN l n j) (corner7 k (px, py) j)).length := List.length_append ..
          rw [HALL.out] at hl1
          have hl3 := HLEN.out
          have hlen2 : (flatTo l k n (px, py) j).length + (flat l k (kidN l n j) (corner7 k (px, py) j)).length ≤ 1000000 := by omega
          have hcall := fun W (hW : Below wr.heap.size wr W) => HIH.out (some ⟨b0, off, none⟩) c room (kidN l n j) (corner7 k (px, py) j) W hkj.2 ((HRR.out.below (Qt.more HH.out.1.bel HH.out.1.bel.size hW) (Nat.le_refl _)).more (Qt.more HH.out.1.bel HH.out.1.bel.size hW).size) (by omega) hbox
          have hstep : flatTo l k n (px, py) j ++ flat l k (kidN l n j) (corner7 k (px, py) j) = flatTo l k n (px, py) (j + 1) := rfl
          have HD := Lib.hid HH.out.1
          have hsz := HH.out.1.sz
          have hown := HH.out.2
          have hC0 := Qt.more (Below.refl (w.heap.size + 3) wr) hsz (below_drew wr)
          have hst : ∀ W, Below (w.heap.size + 3) wr W → W.cell? ⟨w.heap.size, 0, none⟩ = some (.slice (some ⟨b0, off, none⟩) l.length c) ∧ W.cell? ⟨w.heap.size, 1, none⟩ = some (.int .i64 room) ∧ W.cell? ⟨w.heap.size + 2, 1 + j, none⟩ = some (.int .i64 (kd kk j)) ∧ W.cell? ⟨w.heap.size + 1, 0, none⟩ = some (.int .i64 px) ∧ W.cell? ⟨w.heap.size + 1, 1, none⟩ = some (.int .i64 py) := fun W hW => ⟨(HD.out.next hW).s0, (HD.out.next hW).s1, (HD.out.next hW).nd.kid hlt, (HD.out.next hW).cl.c0, (HD.out.next hW).cl.c1⟩
          rw [← hkj.1] at hcall
          have hwp : IntKind.i64.wrap (2 ^ k) = 2 ^ k ∧ IntKind.i64.wrap px = px ∧ IntKind.i64.wrap py = py ∧ IntKind.i64.wrap (px + 2 ^ k) = px + 2 ^ k ∧ IntKind.i64.wrap (py + 2 ^ k) = py + 2 ^ k := by
            rw [IntKind.wrap_i64, IntKind.wrap_i64, IntKind.wrap_i64, IntKind.wrap_i64, IntKind.wrap_i64]
            generalize (2 : Int) ^ k = q at *
            omega
          obtain ⟨hw1, hw2, hw3, hw4, hw5⟩ := hwp
          have hw0 : IntKind.i64.wrap 0 = 0 := by decide
          have hcc : corner7 k (px, py) j = (px + ((j % 2 : Nat) : Int) * 2 ^ k, py + ((j / 2 : Nat) : Int) * 2 ^ k) := rfl
          have HST := Lib.hid hstep
          clear hstep hl1 hl2 hl3 hbox hpb hkj hR1 HH e2
          obtain ⟨acc, hacc⟩ : ∃ acc, acc = flatTo l k n (px, py) j := ⟨_, rfl⟩
          obtain ⟨F, hFF⟩ : ∃ F, F = flat l k (kidN l n j) (corner7 k (px, py) j) := ⟨_, rfl⟩
          rw [← hacc] at hown hlen2 hc1 HST ⊢
          rw [← hFF] at hcall hlen2 HST
          rw [hcc] at hcall
          unfold storeV cellV at hcall
          clear hacc hFF hcc
          rcases (by omega : j = 0 ∨ j = 1 ∨ j = 2 ∨ j = 3) with rfl | rfl | rfl | rfl
          · have h1 : kd kk 0 = kk.1 := rfl
            have hcall := fun W hW => hcall W hW
            rw [h1] at hcall hst
            have hst : ∀ W, Below (w.heap.size + 3) wr W → W.cell? ⟨w.heap.size, 0, none⟩ = some (.slice (some ⟨b0, off, none⟩) l.length c) ∧ W.cell? ⟨w.heap.size, 1, none⟩ = some (.int .i64 room) ∧ W.cell? ⟨w.heap.size + 2, 1, none⟩ = some (.int .i64 (kk.1)) ∧ W.cell? ⟨w.heap.size + 1, 0, none⟩ = some (.int .i64 px) ∧ W.cell? ⟨w.heap.size + 1, 1, none⟩ = some (.int .i64 py) := hst
            simp only [Nat.reduceMod, Nat.reduceDiv, Nat.zero_mod, Nat.zero_div, Int.natCast_zero, Int.natCast_one, Int.cast_ofNat_Int, Int.zero_mul, Int.one_mul, Int.add_zero] at hcall
            go_wp2_with fail
            refine region_calm_to (fun W => Below (w.heap.size + 3) wr W) (fun (a0 a9 : Act) (w9 : World) => ∃ (A8 : Option Addr) (c8 : Nat) (v9 : Value), a9 = ((((((((((((((((((((((((a0.put (some 32) (.slice A1 acc.length c1)).put (some 33) (.agg #[.slice (some ⟨b0, off, none⟩) l.length c, .int .i64 room])).put (some 34) (.int .i64 0)).put (some 35) (.pointer (some ⟨w.heap.size + 2, 1, none⟩))).put (some 36) (.pointer (some ⟨w.heap.size + 2, 1, none⟩))).put (some 37) (.int .i64 kk.1)).put (some 38) (.pointer (some ⟨w.heap.size + 1, 0, none⟩))).put (some 39) (.int .i64 px)).put (some 40) (.int .i64 0)).put (some 41) (.int .i64 0)).put (some 42) (.int .i64 (2 ^ k))).put (some 43) (.int .i64 0)).put (some 44) (.int .i64 px)).put (some 45) (.pointer (some ⟨w.heap.size + 1, 1, none⟩))).put (some 46) (.int .i64 py)).put (some 47) (.int .i64 0)).put (some 48) (.int .i64 0)).put (some 49) (.int .i64 (2 ^ k))).put (some 50) (.int .i64 0)).put (some 51) (.int .i64 py)).put (some 52) (.agg #[.int .i64 px, .int .i64 py])).put (some 53) (.slice A8 F.length c8)).put (some 54) (v9)).put (some 9) (v9)) ∧ (OwnC w9 (w.heap.size + 3) v9 (acc ++ F) ∧ Below (w.heap.size + 3) wr w9)) (.calm 0 (.calm 1 (.calm 2 (.calm 3 (.calm 4 (.calm 5 (.calm 6 (.calm 7 (.calm 8 (.calm 9 (.calm 10 (.calm 11 (.calm 12 (.calm 13 (.calm 14 (.calm 15 (.calm 16 (.calm 17 (.calm 18 (.calm 19 (.calm 20 (.only 21 (.only 22 (.calm 23 .done)))))))))))))))))))))))) (by kernel_rfl) (by kernel_rfl) (by kernel_rfl) (by rfl) hC0 ?_ ?_
            · skip
              refine ⟨_, _, (.slice A1 acc.length c1), rfl, rfl, ⟨rfl, fun W hW => by first | exact ⟨rfl, rfl⟩ | (simp only [Act.eval, execOp]; go_simp; try exact ⟨rfl, rfl⟩)⟩, ?_⟩
              simp only [Act.put, List.getElem_toArray, List.getElem_cons_zero, List.getElem_cons_succ, List.setIfInBounds_toArray, List.set_cons_succ, List.set_cons_zero]
              refine ⟨_, _, (.agg #[.slice (some ⟨b0, off, none⟩) l.length c, .int .i64 room]), rfl, rfl, ⟨rfl, fun W hW => by have s0 := (hst W hW).1; have s1 := (hst W hW).2.1; simp only [execOp]; go_simp; done⟩, ?_⟩
              simp only [Act.put, List.getElem_toArray, List.getElem_cons_zero, List.getElem_cons_succ, List.setIfInBounds_toArray, List.set_cons_succ, List.set_cons_zero]
              refine ⟨_, _, (.int .i64 0), rfl, rfl, ⟨rfl, fun W hW => by first | exact ⟨rfl, rfl⟩ | (simp only [Act.eval, execOp]; go_simp; try exact ⟨rfl, rfl⟩)⟩, ?_⟩
              simp only [Act.put, List.getElem_toArray, List.getElem_cons_zero, List.getElem_cons_succ, List.setIfInBounds_toArray, List.set_cons_succ, List.set_cons_zero]
              refine ⟨_, _, (.pointer (some ⟨w.heap.size + 2, 1, none⟩)), rfl, rfl, ⟨rfl, fun W hW => by first | exact ⟨rfl, rfl⟩ | (simp only [Act.eval, execOp]; go_simp; try exact ⟨rfl, rfl⟩)⟩, ?_⟩
              simp only [Act.put, List.getElem_toArray, List.getElem_cons_zero, List.getElem_cons_succ, List.setIfInBounds_toArray, List.set_cons_succ, List.set_cons_zero]
              refine ⟨_, _, (.pointer (some ⟨w.heap.size + 2, 1, none⟩)), rfl, rfl, ⟨rfl, fun W hW => by first | exact ⟨rfl, rfl⟩ | (simp only [Act.eval, execOp]; go_simp; try exact ⟨rfl, rfl⟩)⟩, ?_⟩
              simp only [Act.put, List.getElem_toArray, List.getElem_cons_zero, List.getElem_cons_succ, List.setIfInBounds_toArray, List.set_cons_succ, List.set_cons_zero]
              refine ⟨_, _, (.int .i64 kk.1), rfl, rfl, ⟨rfl, fun W hW => by have s0 := (hst W hW).2.2.1; simp only [execOp]; go_simp; done⟩, ?_⟩
              simp only [Act.put, List.getElem_toArray, List.getElem_cons_zero, List.getElem_cons_succ, List.setIfInBounds_toArray, List.set_cons_succ, List.set_cons_zero]
              refine ⟨_, _, (.pointer (some ⟨w.heap.size + 1, 0, none⟩)), rfl, rfl, ⟨rfl, fun W hW => by first | exact ⟨rfl, rfl⟩ | (simp only [Act.eval, execOp]; go_simp; try exact ⟨rfl, rfl⟩)⟩, ?_⟩
              simp only [Act.put, List.getElem_toArray, List.getElem_cons_zero, List.getElem_cons_succ, List.setIfInBounds_toArray, List.set_cons_succ, List.set_cons_zero]
              refine ⟨_, _, (.int .i64 px), rfl, rfl, ⟨rfl, fun W hW => by have s0 := (hst W hW).2.2.2.1; simp only [execOp]; go_simp; done⟩, ?_⟩
              simp only [Act.put, List.getElem_toArray, List.getElem_cons_zero, List.getElem_cons_succ, List.setIfInBounds_toArray, List.set_cons_succ, List.set_cons_zero]
              refine ⟨_, _, (.int .i64 0), rfl, rfl, ⟨rfl, fun W hW => by first | exact ⟨rfl, rfl⟩ | (simp only [Act.eval, execOp]; go_simp; try exact ⟨rfl, rfl⟩)⟩, ?_⟩
              simp only [Act.put, List.getElem_toArray, List.getElem_cons_zero, List.getElem_cons_succ, List.setIfInBounds_toArray, List.set_cons_succ, List.set_cons_zero]
              refine ⟨_, _, (.int .i64 0), rfl, rfl, ⟨rfl, fun W hW => by first | exact ⟨rfl, rfl⟩ | (simp only [Act.eval, execOp]; go_simp; try exact ⟨rfl, rfl⟩)⟩, ?_⟩
              simp only [Act.put, List.getElem_toArray, List.getElem_cons_zero, List.getElem_cons_succ, List.setIfInBounds_toArray, List.set_cons_succ, List.set_cons_zero]
              refine ⟨_, _, (.int .i64 (2 ^ k)), rfl, rfl, ⟨rfl, fun W hW => by first | exact ⟨rfl, rfl⟩ | (simp only [Act.eval, execOp]; go_simp; try exact ⟨rfl, rfl⟩)⟩, ?_⟩
              simp only [Act.put, List.getElem_toArray, List.getElem_cons_zero, List.getElem_cons_succ, List.setIfInBounds_toArray, List.set_cons_succ, List.set_cons_zero]
              refine ⟨_, _, (.int .i64 0), rfl, rfl, ⟨rfl, fun W hW => by first | exact ⟨rfl, rfl⟩ | (simp only [Act.eval, execOp]; go_simp; try exact ⟨rfl, rfl⟩)⟩, ?_⟩
              simp only [Act.put, List.getElem_toArray, List.getElem_cons_zero, List.getElem_cons_succ, List.setIfInBounds_toArray, List.set_cons_succ, List.set_cons_zero]
              refine ⟨_, _, (.int .i64 px), rfl, rfl, ⟨rfl, fun W hW => by first | exact ⟨rfl, rfl⟩ | (simp only [Act.eval, execOp]; go_simp; try exact ⟨rfl, rfl⟩)⟩, ?_⟩
              simp only [Act.put, List.getElem_toArray, List.getElem_cons_zero, List.getElem_cons_succ, List.setIfInBounds_toArray, List.set_cons_succ, List.set_cons_zero]
              refine ⟨_, _, (.pointer (some ⟨w.heap.size + 1, 1, none⟩)), rfl, rfl, ⟨rfl, fun W hW => by first | exact ⟨rfl, rfl⟩ | (simp only [Act.eval, execOp]; go_simp; try exact ⟨rfl, rfl⟩)⟩, ?_⟩
              simp only [Act.put, List.getElem_toArray, List.getElem_cons_zero, List.getElem_cons_succ, List.setIfInBounds_toArray, List.set_cons_succ, List.set_cons_zero]
              refine ⟨_, _, (.int .i64 py), rfl, rfl, ⟨rfl, fun W hW => by have s0 := (hst W hW).2.2.2.2; simp only [execOp]; go_simp; done⟩, ?_⟩
              simp only [Act.put, List.getElem_toArray, List.getElem_cons_zero, List.getElem_cons_succ, List.setIfInBounds_toArray, List.set_cons_succ, List.set_cons_zero]
              refine ⟨_, _, (.int .i64 0), rfl, rfl, ⟨rfl, fun W hW => by first | exact ⟨rfl, rfl⟩ | (simp only [Act.eval, execOp]; go_simp; try exact ⟨rfl, rfl⟩)⟩, ?_⟩
              simp only [Act.put, List.getElem_toArray, List.getElem_cons_zero, List.getElem_cons_succ, List.setIfInBounds_toArray, List.set_cons_succ, List.set_cons_zero]
              refine ⟨_, _, (.int .i64 0), rfl, rfl, ⟨rfl, fun W hW => by first | exact ⟨rfl, rfl⟩ | (simp only [Act.eval, execOp]; go_simp; try exact ⟨rfl, rfl⟩)⟩, ?_⟩
              simp only [Act.put, List.getElem_toArray, List.getElem_cons_zero, List.getElem_cons_succ, List.setIfInBounds_toArray, List.set_cons_succ, List.set_cons_zero]
              refine ⟨_, _, (.int .i64 (2 ^ k)), rfl, rfl, ⟨rfl, fun W hW => by first | exact ⟨rfl, rfl⟩ | (simp only [Act.eval, execOp]; go_simp; try exact ⟨rfl, rfl⟩)⟩, ?_⟩
              simp only [Act.put, List.getElem_toArray, List.getElem_cons_zero, List.getElem_cons_succ, List.setIfInBounds_toArray, List.set_cons_succ, List.set_cons_zero]
              refine ⟨_, _, (.int .i64 0), rfl, rfl, ⟨rfl, fun W hW => by first | exact ⟨rfl, rfl⟩ | (simp only [Act.eval, execOp]; go_simp; try exact ⟨rfl, rfl⟩)⟩, ?_⟩
              simp only [Act.put, List.getElem_toArray, List.getElem_cons_zero, List.getElem_cons_succ, List.setIfInBounds_toArray, List.set_cons_succ, List.set_cons_zero]
              refine ⟨_, _, (.int .i64 py), rfl, rfl, ⟨rfl, fun W hW => by first | exact ⟨rfl, rfl⟩ | (simp only [Act.eval, execOp]; go_simp; try exact ⟨rfl, rfl⟩)⟩, ?_⟩
              simp only [Act.put, List.getElem_toArray, List.getElem_cons_zero, List.getElem_cons_succ, List.setIfInBounds_toArray, List.set_cons_succ, List.set_cons_zero]
              refine ⟨_, _, (.agg #[.int .i64 px, .int .i64 py]), rfl, rfl, ⟨rfl, fun W hW => by first | exact ⟨rfl, rfl⟩ | (simp only [Act.eval, execOp]; go_simp; try exact ⟨rfl, rfl⟩)⟩, ?_⟩
              simp only [Act.put, List.getElem_toArray, List.getElem_cons_zero, List.getElem_cons_succ, List.setIfInBounds_toArray, List.set_cons_succ, List.set_cons_zero]
              refine ⟨_, rfl, ?_⟩
              go_wp2_with fail
              refine (hcall _ (below_drew wr)).mono ?_
              rintro r w8 ⟨A8, c8, rfl, hc8, hR8, hb8⟩
              have hC := Qt.more hC0 (Nat.le_trans hsz hC0.size) hb8
              go_wp2_with fail
              refine ⟨rfl, hC, ?_⟩
              refine ⟨_, rfl, ?_⟩
              obtain ⟨v9, w9, hrun, hown9, hg9⟩ := Cel.app_any c8 (Nat.le_trans hsz hC.size) (Cel.Own.below (Cel.Own.below hown (below_drew wr)) hb8) hR8 hlen2
              have hC9 := hC.grown hg9 (Nat.le_trans hsz hC.size) (fun r e => (World.ownsRow.lt hown r e).1)
              refine Lib.wpList_append_run _ rfl (.tmp 32) (.tmp 53) 42 42 rfl _ _ rfl rfl _ _ hrun ?_
              refine ⟨rfl, hC9, ?_⟩
              refine ⟨_, _, v9, rfl, rfl, ⟨rfl, fun W hW => by first | exact ⟨rfl, rfl⟩ | (simp only [Act.eval, execOp]; go_simp; try exact ⟨rfl, rfl⟩)⟩, ?_⟩
              simp only [Act.put, List.getElem_toArray, List.getElem_cons_zero, List.getElem_cons_succ, List.setIfInBounds_toArray, List.set_cons_succ, List.set_cons_zero]
              refine ⟨A8, c8, v9, ?_, hown9, hC9⟩
              first | rfl | simp only [Act.put, List.getElem_toArray, List.getElem_cons_zero, List.getElem_cons_succ, List.setIfInBounds_toArray, List.set_cons_succ, List.set_cons_zero]
            rintro a9 w9 ⟨A8, c8, v9, rfl, hown9, hb9⟩
            simp only [Act.put, List.setIfInBounds_toArray, List.set_cons_succ, List.set_cons_zero]
            have HN := Lib.hid (HD.out.next hb9)
            have HO := Lib.hid hown9
            clear hcall hst hw1 hw2 hw3 hw4 hw5 hown9 hb9 hC0 HD hown hsz
            go_wp2_with fail
            go_roundw
            case measure => simp [intOf]
            case rel => exact ⟨1, by omega, by go_num, HN.out, by rw [← HST.out]; exact HO.out⟩
          · have h1 : kd kk 1 = kk.2.1 := rfl
            have hcall := fun W hW => hcall W hW
            rw [h1] at hcall hst
            have hst : ∀ W, Below (w.heap.size + 3) wr W → W.cell? ⟨w.heap.size, 0, none⟩ = some (.slice (some ⟨b0, off, none⟩) l.length c) ∧ W.cell? ⟨w.heap.size, 1, none⟩ = some (.int .i64 room) ∧ W.cell? ⟨w.heap.size + 2, 2, none⟩ = some (.int .i64 (kk.2.1)) ∧ W.cell? ⟨w.heap.size + 1, 0, none⟩ = some (.int .i64 px) ∧ W.cell? ⟨w.heap.size + 1, 1, none⟩ = some (.int .i64 py) := hst
            simp only [Nat.reduceMod, Nat.reduceDiv, Nat.zero_mod, Nat.zero_div, Int.natCast_zero, Int.natCast_one, Int.cast_ofNat_Int, Int.zero_mul, Int.one_mul, Int.add_zero] at hcall
            go_wp2_with fail
            refine region_calm_to (fun W => Below (w.heap.size + 3) wr W) (fun (a0 a9 : Act) (w9 : World) => ∃ (A8 : Option Addr) (c8 : Nat) (v9 : Value), a9 = ((((((((((((((((((((((((a0.put (some 32) (.slice A1 acc.length c1)).put (some 33) (.agg #[.slice (some ⟨b0, off, none⟩) l.length c, .int .i64 room])).put (some 34) (.int .i64 1)).put (some 35) (.pointer (some ⟨w.heap.size + 2, 1, none⟩))).put (some 36) (.pointer (some ⟨w.heap.size + 2, 2, none⟩))).put (some 37) (.int .i64 kk.2.1)).put (some 38) (.pointer (some ⟨w.heap.size + 1, 0, none⟩))).put (some 39) (.int .i64 px)).put (some 40) (.int .i64 1)).put (some 41) (.int .i64 1)).put (some 42) (.int .i64 (2 ^ k))).put (some 43) (.int .i64 (2 ^ k))).put (some 44) (.int .i64 (px + 2 ^ k))).put (some 45) (.pointer (some ⟨w.heap.size + 1, 1, none⟩))).put (some 46) (.int .i64 py)).put (some 47) (.int .i64 1)).put (some 48) (.int .i64 0)).put (some 49) (.int .i64 (2 ^ k))).put (some 50) (.int .i64 0)).put (some 51) (.int .i64 py)).put (some 52) (.agg #[.int .i64 (px + 2 ^ k), .int .i64 py])).put (some 53) (.slice A8 F.length c8)).put (some 54) (v9)).put (some 9) (v9)) ∧ (OwnC w9 (w.heap.size + 3) v9 (acc ++ F) ∧ Below (w.heap.size + 3) wr w9)) (.calm 0 (.calm 1 (.calm 2 (.calm 3 (.calm 4 (.calm 5 (.calm 6 (.calm 7 (.calm 8 (.calm 9 (.calm 10 (.calm 11 (.calm 12 (.calm 13 (.calm 14 (.calm 15 (.calm 16 (.calm 17 (.calm 18 (.calm 19 (.calm 20 (.only 21 (.only 22 (.calm 23 .done)))))))))))))))))))))))) (by kernel_rfl) (by kernel_rfl) (by kernel_rfl) (by rfl) hC0 ?_ ?_
            · skip
              refine ⟨_, _, (.slice A1 acc.length c1), rfl, rfl, ⟨rfl, fun W hW => by first | exact ⟨rfl, rfl⟩ | (simp only [Act.eval, execOp]; go_simp; try exact ⟨rfl, rfl⟩)⟩, ?_⟩
              simp only [Act.put, List.getElem_toArray, List.getElem_cons_zero, List.getElem_cons_succ, List.setIfInBounds_toArray, List.set_cons_succ, List.set_cons_zero]
              refine ⟨_, _, (.agg #[.slice (some ⟨b0, off, none⟩) l.length c, .int .i64 room]), rfl, rfl, ⟨rfl, fun W hW => by have s0 := (hst W hW).1; have s1 := (hst W hW).2.1; simp only [execOp]; go_simp; done⟩, ?_⟩
              simp only [Act.put, List.getElem_toArray, List.getElem_cons_zero, List.getElem_cons_succ, List.setIfInBounds_toArray, List.set_cons_succ, List.set_cons_zero]
              refine ⟨_, _, (.int .i64 1), rfl, rfl, ⟨rfl, fun W hW => by first | exact ⟨rfl, rfl⟩ | (simp only [Act.eval, execOp]; go_simp; try exact ⟨rfl, rfl⟩)⟩, ?_⟩
              simp only [Act.put, List.getElem_toArray, List.getElem_cons_zero, List.getElem_cons_succ, List.setIfInBounds_toArray, List.set_cons_succ, List.set_cons_zero]
              refine ⟨_, _, (.pointer (some ⟨w.heap.size + 2, 1, none⟩)), rfl, rfl, ⟨rfl, fun W hW => by first | exact ⟨rfl, rfl⟩ | (simp only [Act.eval, execOp]; go_simp; try exact ⟨rfl, rfl⟩)⟩, ?_⟩
              simp only [Act.put, List.getElem_toArray, List.getElem_cons_zero, List.getElem_cons_succ, List.setIfInBounds_toArray, List.set_cons_succ, List.set_cons_zero]
              refine ⟨_, _, (.pointer (some ⟨w.heap.size + 2, 2, none⟩)), rfl, rfl, ⟨rfl, fun W hW => by first | exact ⟨rfl, rfl⟩ | (simp only [Act.eval, execOp]; go_simp; try exact ⟨rfl, rfl⟩)⟩, ?_⟩
              simp only [Act.put, List.getElem_toArray, List.getElem_cons_zero, List.getElem_cons_succ, List.setIfInBounds_toArray, List.set_cons_succ, List.set_cons_zero]
              refine ⟨_, _, (.int .i64 kk.2.1), rfl, rfl, ⟨rfl, fun W hW => by have s0 := (hst W hW).2.2.1; simp only [execOp]; go_simp; done⟩, ?_⟩
              simp only [Act.put, List.getElem_toArray, List.getElem_cons_zero, List.getElem_cons_succ, List.setIfInBounds_toArray, List.set_cons_succ, List.set_cons_zero]
              refine ⟨_, _, (.pointer (some ⟨w.heap.size + 1, 0, none⟩)), rfl, rfl, ⟨rfl, fun W hW => by first | exact ⟨rfl, rfl⟩ | (simp only [Act.eval, execOp]; go_simp; try exact ⟨rfl, rfl⟩)⟩, ?_⟩
              simp only [Act.put, List.getElem_toArray, List.getElem_cons_zero, List.getElem_cons_succ, List.setIfInBounds_toArray, List.set_cons_succ, List.set_cons_zero]
              refine ⟨_, _, (.int .i64 px), rfl, rfl, ⟨rfl, fun W hW => by have s0 := (hst W hW).2.2.2.1; simp only [execOp]; go_simp; done⟩, ?_⟩
              simp only [Act.put, List.getElem_toArray, List.getElem_cons_zero, List.getElem_cons_succ, List.setIfInBounds_toArray, List.set_cons_succ, List.set_cons_zero]
              refine ⟨_, _, (.int .i64 1), rfl, rfl, ⟨rfl, fun W hW => by first | exact ⟨rfl, rfl⟩ | (simp only [Act.eval, execOp]; go_simp; try exact ⟨rfl, rfl⟩)⟩, ?_⟩
              simp only [Act.put, List.getElem_toArray, List.getElem_cons_zero, List.getElem_cons_succ, List.setIfInBounds_toArray, List.set_cons_succ, List.set_cons_zero]
              refine ⟨_, _, (.int .i64 1), rfl, rfl, ⟨rfl, fun W hW => by first | exact ⟨rfl, rfl⟩ | (simp only [Act.eval, execOp]; go_simp; try exact ⟨rfl, rfl⟩)⟩, ?_⟩
              simp only [Act.put, List.getElem_toArray, List.getElem_cons_zero, List.getElem_cons_succ, List.setIfInBounds_toArray, List.set_cons_succ, List.set_cons_zero]
              refine ⟨_, _, (.int .i64 (2 ^ k)), rfl, rfl, ⟨rfl, fun W hW => by first | exact ⟨rfl, rfl⟩ | (simp only [Act.eval, execOp]; go_simp; try exact ⟨rfl, rfl⟩)⟩, ?_⟩
              simp only [Act.put, List.getElem_toArray, List.getElem_cons_zero, List.getElem_cons_succ, List.setIfInBounds_toArray, List.set_cons_succ, List.set_cons_zero]
              refine ⟨_, _, (.int .i64 (2 ^ k)), rfl, rfl, ⟨rfl, fun W hW => by first | exact ⟨rfl, rfl⟩ | (simp only [Act.eval, execOp]; go_simp; try exact ⟨rfl, rfl⟩)⟩, ?_⟩
              simp only [Act.put, List.getElem_toArray, List.getElem_cons_zero, List.getElem_cons_succ, List.setIfInBounds_toArray, List.set_cons_succ, List.set_cons_zero]
              refine ⟨_, _, (.int .i64 (px + 2 ^ k)), rfl, rfl, ⟨rfl, fun W hW => by first | exact ⟨rfl, rfl⟩ | (simp only [Act.eval, execOp]; go_simp; try exact ⟨rfl, rfl⟩)⟩, ?_⟩
              simp only [Act.put, List.getElem_toArray, List.getElem_cons_zero, List.getElem_cons_succ, List.setIfInBounds_toArray, List.set_cons_succ, List.set_cons_zero]
              refine ⟨_, _, (.pointer (some ⟨w.heap.size + 1, 1, none⟩)), rfl, rfl, ⟨rfl, fun W hW => by first | exact ⟨rfl, rfl⟩ | (simp only [Act.eval, execOp]; go_simp; try exact ⟨rfl, rfl⟩)⟩, ?_⟩
              simp only [Act.put, List.getElem_toArray, List.getElem_cons_zero, List.getElem_cons_succ, List.setIfInBounds_toArray, List.set_cons_succ, List.set_cons_zero]
              refine ⟨_, _, (.int .i64 py), rfl, rfl, ⟨rfl, fun W hW => by have s0 := (hst W hW).2.2.2.2; simp only [execOp]; go_simp; done⟩, ?_⟩
              simp only [Act.put, List.getElem_toArray, List.getElem_cons_zero, List.getElem_cons_succ, List.setIfInBounds_toArray, List.set_cons_succ, List.set_cons_zero]
              refine ⟨_, _, (.int .i64 1), rfl, rfl, ⟨rfl, fun W hW => by first | exact ⟨rfl, rfl⟩ | (simp only [Act.eval, execOp]; go_simp; try exact ⟨rfl, rfl⟩)⟩, ?_⟩
              simp only [Act.put, List.getElem_toArray, List.getElem_cons_zero, List.getElem_cons_succ, List.setIfInBounds_toArray, List.set_cons_succ, List.set_cons_zero]
              refine ⟨_, _, (.int .i64 0), rfl, rfl, ⟨rfl, fun W hW => by first | exact ⟨rfl, rfl⟩ | (simp only [Act.eval, execOp]; go_simp; try exact ⟨rfl, rfl⟩)⟩, ?_⟩
              simp only [Act.put, List.getElem_toArray, List.getElem_cons_zero, List.getElem_cons_succ, List.setIfInBounds_toArray, List.set_cons_succ, List.set_cons_zero]
              refine ⟨_, _, (.int .i64 (2 ^ k)), rfl, rfl, ⟨rfl, fun W hW => by first | exact ⟨rfl, rfl⟩ | (simp only [Act.eval, execOp]; go_simp; try exact ⟨rfl, rfl⟩)⟩, ?_⟩
              simp only [Act.put, List.getElem_toArray, List.getElem_cons_zero, List.getElem_cons_succ, List.setIfInBounds_toArray, List.set_cons_succ, List.set_cons_zero]
              refine ⟨_, _, (.int .i64 0), rfl, rfl, ⟨rfl, fun W hW => by first | exact ⟨rfl, rfl⟩ | (simp only [Act.eval, execOp]; go_simp; try exact ⟨rfl, rfl⟩)⟩, ?_⟩
              simp only [Act.put, List.getElem_toArray, List.getElem_cons_zero, List.getElem_cons_succ, List.setIfInBounds_toArray, List.set_cons_succ, List.set_cons_zero]
              refine ⟨_, _, (.int .i64 py), rfl, rfl, ⟨rfl, fun W hW => by first | exact ⟨rfl, rfl⟩ | (simp only [Act.eval, execOp]; go_simp; try exact ⟨rfl, rfl⟩)⟩, ?_⟩
              simp only [Act.put, List.getElem_toArray, List.getElem_cons_zero, List.getElem_cons_succ, List.setIfInBounds_toArray, List.set_cons_succ, List.set_cons_zero]
              refine ⟨_, _, (.agg #[.int .i64 (px + 2 ^ k), .int .i64 py]), rfl, rfl, ⟨rfl, fun W hW => by first | exact ⟨rfl, rfl⟩ | (simp only [Act.eval, execOp]; go_simp; try exact ⟨rfl, rfl⟩)⟩, ?_⟩
              simp only [Act.put, List.getElem_toArray, List.getElem_cons_zero, List.getElem_cons_succ, List.setIfInBounds_toArray, List.set_cons_succ, List.set_cons_zero]
              refine ⟨_, rfl, ?_⟩
              go_wp2_with fail
              refine (hcall _ (below_drew wr)).mono ?_
              rintro r w8 ⟨A8, c8, rfl, hc8, hR8, hb8⟩
              have hC := Qt.more hC0 (Nat.le_trans hsz hC0.size) hb8
              go_wp2_with fail
              refine ⟨rfl, hC, ?_⟩
              refine ⟨_, rfl, ?_⟩
              obtain ⟨v9, w9, hrun, hown9, hg9⟩ := Cel.app_any c8 (Nat.le_trans hsz hC.size) (Cel.Own.below (Cel.Own.below hown (below_drew wr)) hb8) hR8 hlen2
              have hC9 := hC.grown hg9 (Nat.le_trans hsz hC.size) (fun r e => (World.ownsRow.lt hown r e).1)
              refine Lib.wpList_append_run _ rfl (.tmp 32) (.tmp 53) 42 42 rfl _ _ rfl rfl _ _ hrun ?_
              refine ⟨rfl, hC9, ?_⟩
              refine ⟨_, _, v9, rfl, rfl, ⟨rfl, fun W hW => by first | exact ⟨rfl, rfl⟩ | (simp only [Act.eval, execOp]; go_simp; try exact ⟨rfl, rfl⟩)⟩, ?_⟩
              simp only [Act.put, List.getElem_toArray, List.getElem_cons_zero, List.getElem_cons_succ, List.setIfInBounds_toArray, List.set_cons_succ, List.set_cons_zero]
              refine ⟨A8, c8, v9, ?_, hown9, hC9⟩
              first | rfl | simp only [Act.put, List.getElem_toArray, List.getElem_cons_zero, List.getElem_cons_succ, List.setIfInBounds_toArray, List.set_cons_succ, List.set_cons_zero]
            rintro a9 w9 ⟨A8, c8, v9, rfl, hown9, hb9⟩
            simp only [Act.put, List.setIfInBounds_toArray, List.set_cons_succ, List.set_cons_zero]
            have HN := Lib.hid (HD.out.next hb9)
            have HO := Lib.hid hown9
            clear hcall hst hw1 hw2 hw3 hw4 hw5 hown9 hb9 hC0 HD hown hsz
            go_wp2_with fail
            go_roundw
            case measure => simp [intOf]
            case rel => exact ⟨2, by omega, by go_num, HN.out, by rw [← HST.out]; exact HO.out⟩
          · have h1 : kd kk 2 = kk.2.2.1 := rfl
            have hcall := fun W hW => hcall W hW
            rw [h1] at hcall hst
            have hst : ∀ W, Below (w.heap.size + 3) wr W → W.cell? ⟨w.heap.size, 0, none⟩ = some (.slice (some ⟨b0, off, none⟩) l.length c) ∧ W.cell? ⟨w.heap.size, 1, none⟩ = some (.int .i64 room) ∧ W.cell? ⟨w.heap.size + 2, 3, none⟩ = some (.int .i64 (kk.2.2.1)) ∧ W.cell? ⟨w.heap.size + 1, 0, none⟩ = some (.int .i64 px) ∧ W.cell? ⟨w.heap.size + 1, 1, none⟩ = some (.int .i64 py) := hst
            simp only [Nat.reduceMod, Nat.reduceDiv, Nat.zero_mod, Nat.zero_div, Int.natCast_zero, Int.natCast_one, Int.cast_ofNat_Int, Int.zero_mul, Int.one_mul, Int.add_zero] at hcall
            go_wp2_with fail
            refine region_calm_to (fun W => Below (w.heap.size + 3) wr W) (fun (a0 a9 : Act) (w9 : World) => ∃ (A8 : Option Addr) (c8 : Nat) (v9 : Value), a9 = ((((((((((((((((((((((((a0.put (some 32) (.slice A1 acc.length c1)).put (some 33) (.agg #[.slice (some ⟨b0, off, none⟩) l.length c, .int .i64 room])).put (some 34) (.int .i64 2)).put (some 35) (.pointer (some ⟨w.heap.size + 2, 1, none⟩))).put (some 36) (.pointer (some ⟨w.heap.size + 2, 3, none⟩))).put (some 37) (.int .i64 kk.2.2.1)).put (some 38) (.pointer (some ⟨w.heap.size + 1, 0, none⟩))).put (some 39) (.int .i64 px)).put (some 40) (.int .i64 2)).put (some 41) (.int .i64 0)).put (some 42) (.int .i64 (2 ^ k))).put (some 43) (.int .i64 0)).put (some 44) (.int .i64 px)).put (some 45) (.pointer (some ⟨w.heap.size + 1, 1, none⟩))).put (some 46) (.int .i64 py)).put (some 47) (.int .i64 2)).put (some 48) (.int .i64 1)).put (some 49) (.int .i64 (2 ^ k))).put (some 50) (.int .i64 (2 ^ k))).put (some 51) (.int .i64 (py + 2 ^ k))).put (some 52) (.agg #[.int .i64 px, .int .i64 (py + 2 ^ k)])).put (some 53) (.slice A8 F.length c8)).put (some 54) (v9)).put (some 9) (v9)) ∧ (OwnC w9 (w.heap.size + 3) v9 (acc ++ F) ∧ Below (w.heap.size + 3) wr w9)) (.calm 0 (.calm 1 (.calm 2 (.calm 3 (.calm 4 (.calm 5 (.calm 6 (.calm 7 (.calm 8 (.calm 9 (.calm 10 (.calm 11 (.calm 12 (.calm 13 (.calm 14 (.calm 15 (.calm 16 (.calm 17 (.calm 18 (.calm 19 (.calm 20 (.only 21 (.only 22 (.calm 23 .done)))))))))))))))))))))))) (by kernel_rfl) (by kernel_rfl) (by kernel_rfl) (by rfl) hC0 ?_ ?_
            · skip
              refine ⟨_, _, (.slice A1 acc.length c1), rfl, rfl, ⟨rfl, fun W hW => by first | exact ⟨rfl, rfl⟩ | (simp only [Act.eval, execOp]; go_simp; try exact ⟨rfl, rfl⟩)⟩, ?_⟩
              simp only [Act.put, List.getElem_toArray, List.getElem_cons_zero, List.getElem_cons_succ, List.setIfInBounds_toArray, List.set_cons_succ, List.set_cons_zero]
              refine ⟨_, _, (.agg #[.slice (some ⟨b0, off, none⟩) l.length c, .int .i64 room]), rfl, rfl, ⟨rfl, fun W hW => by have s0 := (hst W hW).1; have s1 := (hst W hW).2.1; simp only [execOp]; go_simp; done⟩, ?_⟩
              simp only [Act.put, List.getElem_toArray, List.getElem_cons_zero, List.getElem_cons_succ, List.setIfInBounds_toArray, List.set_cons_succ, List.set_cons_zero]
              refine ⟨_, _, (.int .i64 2), rfl, rfl, ⟨rfl, fun W hW => by first | exact ⟨rfl, rfl⟩ | (simp only [Act.eval, execOp]; go_simp; try exact ⟨rfl, rfl⟩)⟩, ?_⟩
              simp only [Act.put, List.getElem_toArray, List.getElem_cons_zero, List.getElem_cons_succ, List.setIfInBounds_toArray, List.set_cons_succ, List.set_cons_zero]
              refine ⟨_, _, (.pointer (some ⟨w.heap.size + 2, 1, none⟩)), rfl, rfl, ⟨rfl, fun W hW => by first | exact ⟨rfl, rfl⟩ | (simp only [Act.eval, execOp]; go_simp; try exact ⟨rfl, rfl⟩)⟩, ?_⟩
              simp only [Act.put, List.getElem_toArray, List.getElem_cons_zero, List.getElem_cons_succ, List.setIfInBounds_toArray, List.set_cons_succ, List.set_cons_zero]
              refine ⟨_, _, (.pointer (some ⟨w.heap.size + 2, 3, none⟩)), rfl, rfl, ⟨rfl, fun W hW => by first | exact ⟨rfl, rfl⟩ | (simp only [Act.eval, execOp]; go_simp; try exact ⟨rfl, rfl⟩)⟩, ?_⟩
              simp only [Act.put, List.getElem_toArray, List.getElem_cons_zero, List.getElem_cons_succ, List.setIfInBounds_toArray, List.set_cons_succ, List.set_cons_zero]
              refine ⟨_, _, (.int .i64 kk.2.2.1), rfl, rfl, ⟨rfl, fun W hW => by have s0 := (hst W hW).2.2.1; simp only [execOp]; go_simp; done⟩, ?_⟩
              simp only [Act.put, List.getElem_toArray, List.getElem_cons_zero, List.getElem_cons_succ, List.setIfInBounds_toArray, List.set_cons_succ, List.set_cons_zero]
              refine ⟨_, _, (.pointer (some ⟨w.heap.size + 1, 0, none⟩)), rfl, rfl, ⟨rfl, fun W hW => by first | exact ⟨rfl, rfl⟩ | (simp only [Act.eval, execOp]; go_simp; try exact ⟨rfl, rfl⟩)⟩, ?_⟩
              simp only [Act.put, List.getElem_toArray, List.getElem_cons_zero, List.getElem_cons_succ, List.setIfInBounds_toArray, List.set_cons_succ, List.set_cons_zero]
              refine ⟨_, _, (.int .i64 px), rfl, rfl, ⟨rfl, fun W hW => by have s0 := (hst W hW).2.2.2.1; simp only [execOp]; go_simp; done⟩, ?_⟩
              simp only [Act.put, List.getElem_toArray, List.getElem_cons_zero, List.getElem_cons_succ, List.setIfInBounds_toArray, List.set_cons_succ, List.set_cons_zero]
              refine ⟨_, _, (.int .i64 2), rfl, rfl, ⟨rfl, fun W hW => by first | exact ⟨rfl, rfl⟩ | (simp only [Act.eval, execOp]; go_simp; try exact ⟨rfl, rfl⟩)⟩, ?_⟩
              simp only [Act.put, List.getElem_toArray, List.getElem_cons_zero, List.getElem_cons_succ, List.setIfInBounds_toArray, List.set_cons_succ, List.set_cons_zero]
              refine ⟨_, _, (.int .i64 0), rfl, rfl, ⟨rfl, fun W hW => by first | exact ⟨rfl, rfl⟩ | (simp only [Act.eval, execOp]; go_simp; try exact ⟨rfl, rfl⟩)⟩, ?_⟩
              simp only [Act.put, List.getElem_toArray, List.getElem_cons_zero, List.getElem_cons_succ, List.setIfInBounds_toArray, List.set_cons_succ, List.set_cons_zero]
              refine ⟨_, _, (.int .i64 (2 ^ k)), rfl, rfl, ⟨rfl, fun W hW => by first | exact ⟨rfl, rfl⟩ | (simp only [Act.eval, execOp]; go_simp; try exact ⟨rfl, rfl⟩)⟩, ?_⟩
              simp only [Act.put, List.getElem_toArray, List.getElem_cons_zero, List.getElem_cons_succ, List.setIfInBounds_toArray, List.set_cons_succ, List.set_cons_zero]
              refine ⟨_, _, (.int .i64 0), rfl, rfl, ⟨rfl, fun W hW => by first | exact ⟨rfl, rfl⟩ | (simp only [Act.eval, execOp]; go_simp; try exact ⟨rfl, rfl⟩)⟩, ?_⟩
              simp only [Act.put, List.getElem_toArray, List.getElem_cons_zero, List.getElem_cons_succ, List.setIfInBounds_toArray, List.set_cons_succ, List.set_cons_zero]
              refine ⟨_, _, (.int .i64 px), rfl, rfl, ⟨rfl, fun W hW => by first | exact ⟨rfl, rfl⟩ | (simp only [Act.eval, execOp]; go_simp; try exact ⟨rfl, rfl⟩)⟩, ?_⟩
              simp only [Act.put, List.getElem_toArray, List.getElem_cons_zero, List.getElem_cons_succ, List.setIfInBounds_toArray, List.set_cons_succ, List.set_cons_zero]
              refine ⟨_, _, (.pointer (some ⟨w.heap.size + 1, 1, none⟩)), rfl, rfl, ⟨rfl, fun W hW => by first | exact ⟨rfl, rfl⟩ | (simp only [Act.eval, execOp]; go_simp; try exact ⟨rfl, rfl⟩)⟩, ?_⟩
              simp only [Act.put, List.getElem_toArray, List.getElem_cons_zero, List.getElem_cons_succ, List.setIfInBounds_toArray, List.set_cons_succ, List.set_cons_zero]
              refine ⟨_, _, (.int .i64 py), rfl, rfl, ⟨rfl, fun W hW => by have s0 := (hst W hW).2.2.2.2; simp only [execOp]; go_simp; done⟩, ?_⟩
              simp only [Act.put, List.getElem_toArray, List.getElem_cons_zero, List.getElem_cons_succ, List.setIfInBounds_toArray, List.set_cons_succ, List.set_cons_zero]
              refine ⟨_, _, (.int .i64 2), rfl, rfl, ⟨rfl, fun W hW => by first | exact ⟨rfl, rfl⟩ | (simp only [Act.eval, execOp]; go_simp; try exact ⟨rfl, rfl⟩)⟩, ?_⟩
              simp only [Act.put, List.getElem_toArray, List.getElem_cons_zero, List.getElem_cons_succ, List.setIfInBounds_toArray, List.set_cons_succ, List.set_cons_zero]
              refine ⟨_, _, (.int .i64 1), rfl, rfl, ⟨rfl, fun W hW => by first | exact ⟨rfl, rfl⟩ | (simp only [Act.eval, execOp]; go_simp; try exact ⟨rfl, rfl⟩)⟩, ?_⟩
              simp only [Act.put, List.getElem_toArray, List.getElem_cons_zero, List.getElem_cons_succ, List.setIfInBounds_toArray, List.set_cons_succ, List.set_cons_zero]
              refine ⟨_, _, (.int .i64 (2 ^ k)), rfl, rfl, ⟨rfl, fun W hW => by first | exact ⟨rfl, rfl⟩ | (simp only [Act.eval, execOp]; go_simp; try exact ⟨rfl, rfl⟩)⟩, ?_⟩
              simp only [Act.put, List.getElem_toArray, List.getElem_cons_zero, List.getElem_cons_succ, List.setIfInBounds_toArray, List.set_cons_succ, List.set_cons_zero]
              refine ⟨_, _, (.int .i64 (2 ^ k)), rfl, rfl, ⟨rfl, fun W hW => by first | exact ⟨rfl, rfl⟩ | (simp only [Act.eval, execOp]; go_simp; try exact ⟨rfl, rfl⟩)⟩, ?_⟩
              simp only [Act.put, List.getElem_toArray, List.getElem_cons_zero, List.getElem_cons_succ, List.setIfInBounds_toArray, List.set_cons_succ, List.set_cons_zero]
              refine ⟨_, _, (.int .i64 (py + 2 ^ k)), rfl, rfl, ⟨rfl, fun W hW => by first | exact ⟨rfl, rfl⟩ | (simp only [Act.eval, execOp]; go_simp; try exact ⟨rfl, rfl⟩)⟩, ?_⟩
              simp only [Act.put, List.getElem_toArray, List.getElem_cons_zero, List.getElem_cons_succ, List.setIfInBounds_toArray, List.set_cons_succ, List.set_cons_zero]
              refine ⟨_, _, (.agg #[.int .i64 px, .int .i64 (py + 2 ^ k)]), rfl, rfl, ⟨rfl, fun W hW => by first | exact ⟨rfl, rfl⟩ | (simp only [Act.eval, execOp]; go_simp; try exact ⟨rfl, rfl⟩)⟩, ?_⟩
              simp only [Act.put, List.getElem_toArray, List.getElem_cons_zero, List.getElem_cons_succ, List.setIfInBounds_toArray, List.set_cons_succ, List.set_cons_zero]
              refine ⟨_, rfl, ?_⟩
              go_wp2_with fail
              refine (hcall _ (below_drew wr)).mono ?_
              rintro r w8 ⟨A8, c8, rfl, hc8, hR8, hb8⟩
              have hC := Qt.more hC0 (Nat.le_trans hsz hC0.size) hb8
              go_wp2_with fail
              refine ⟨rfl, hC, ?_⟩
              refine ⟨_, rfl, ?_⟩
              obtain ⟨v9, w9, hrun, hown9, hg9⟩ := Cel.app_any c8 (Nat.le_trans hsz hC.size) (Cel.Own.below (Cel.Own.below hown (below_drew wr)) hb8) hR8 hlen2
              have hC9 := hC.grown hg9 (Nat.le_trans hsz hC.size) (fun r e => (World.ownsRow.lt hown r e).1)
              refine Lib.wpList_append_run _ rfl (.tmp 32) (.tmp 53) 42 42 rfl _ _ rfl rfl _ _ hrun ?_
              refine ⟨rfl, hC9, ?_⟩
              refine ⟨_, _, v9, rfl, rfl, ⟨rfl, fun W hW => by first | exact ⟨rfl, rfl⟩ | (simp only [Act.eval, execOp]; go_simp; try exact ⟨rfl, rfl⟩)⟩, ?_⟩
              simp only [Act.put, List.getElem_toArray, List.getElem_cons_zero, List.getElem_cons_succ, List.setIfInBounds_toArray, List.set_cons_succ, List.set_cons_zero]
              refine ⟨A8, c8, v9, ?_, hown9, hC9⟩
              first | rfl | simp only [Act.put, List.getElem_toArray, List.getElem_cons_zero, List.getElem_cons_succ, List.setIfInBounds_toArray, List.set_cons_succ, List.set_cons_zero]
            rintro a9 w9 ⟨A8, c8, v9, rfl, hown9, hb9⟩
            simp only [Act.put, List.setIfInBounds_toArray, List.set_cons_succ, List.set_cons_zero]
            have HN := Lib.hid (HD.out.next hb9)
            have HO := Lib.hid hown9
            clear hcall hst hw1 hw2 hw3 hw4 hw5 hown9 hb9 hC0 HD hown hsz
            go_wp2_with fail
            go_roundw
            case measure => simp [intOf]
            case rel => exact ⟨3, by omega, by go_num, HN.out, by rw [← HST.out]; exact HO.out⟩
          · have h1 : kd kk 3 = kk.2.2.2 := rfl
            have hcall := fun W hW => hcall W hW
            rw [h1] at hcall hst
            have hst : ∀ W, Below (w.heap.size + 3) wr W → W.cell? ⟨w.heap.size, 0, none⟩ = some (.slice (some ⟨b0, off, none⟩) l.length c) ∧ W.cell? ⟨w.heap.size, 1, none⟩ = some (.int .i64 room) ∧ W.cell? ⟨w.heap.size + 2, 4, none⟩ = some (.int .i64 (kk.2.2.2)) ∧ W.cell? ⟨w.heap.size + 1, 0, none⟩ = some (.int .i64 px) ∧ W.cell? ⟨w.heap.size + 1, 1, none⟩ = some (.int .i64 py) := hst
            simp only [Nat.reduceMod, Nat.reduceDiv, Nat.zero_mod, Nat.zero_div, Int.natCast_zero, Int.natCast_one, Int.cast_ofNat_Int, Int.zero_mul, Int.one_mul, Int.add_zero] at hcall
            go_wp2_with fail
            refine region_calm_to (fun W => Below (w.heap.size + 3) wr W) (fun (a0 a9 : Act) (w9 : World) => ∃ (A8 : Option Addr) (c8 : Nat) (v9 : Value), a9 = ((((((((((((((((((((((((a0.put (some 32) (.slice A1 acc.length c1)).put (some 33) (.agg #[.slice (some ⟨b0, off, none⟩) l.length c, .int .i64 room])).put (some 34) (.int .i64 3)).put (some 35) (.pointer (some ⟨w.heap.size + 2, 1, none⟩))).put (some 36) (.pointer (some ⟨w.heap.size + 2, 4, none⟩))).put (some 37) (.int .i64 kk.2.2.2)).put (some 38) (.pointer (some ⟨w.heap.size + 1, 0, none⟩))).put (some 39) (.int .i64 px)).put (some 40) (.int .i64 3)).put (some 41) (.int .i64 1)).put (some 42) (.int .i64 (2 ^ k))).put (some 43) (.int .i64 (2 ^ k))).put (some 44) (.int .i64 (px + 2 ^ k))).put (some 45) (.pointer (some ⟨w.heap.size + 1, 1, none⟩))).put (some 46) (.int .i64 py)).put (some 47) (.int .i64 3)).put (some 48) (.int .i64 1)).put (some 49) (.int .i64 (2 ^ k))).put (some 50) (.int .i64 (2 ^ k))).put (some 51) (.int .i64 (py + 2 ^ k))).put (some 52) (.agg #[.int .i64 (px + 2 ^ k), .int .i64 (py + 2 ^ k)])).put (some 53) (.slice A8 F.length c8)).put (some 54) (v9)).put (some 9) (v9)) ∧ (OwnC w9 (w.heap.size + 3) v9 (acc ++ F) ∧ Below (w.heap.size + 3) wr w9)) (.calm 0 (.calm 1 (.calm 2 (.calm 3 (.calm 4 (.calm 5 (.calm 6 (.calm 7 (.calm 8 (.calm 9 (.calm 10 (.calm 11 (.calm 12 (.calm 13 (.calm 14 (.calm 15 (.calm 16 (.calm 17 (.calm 18 (.calm 19 (.calm 20 (.only 21 (.only 22 (.calm 23 .done)))))))))))))))))))))))) (by kernel_rfl) (by kernel_rfl) (by kernel_rfl) (by rfl) hC0 ?_ ?_
            · skip
              refine ⟨_, _, (.slice A1 acc.length c1), rfl, rfl, ⟨rfl, fun W hW => by first | exact ⟨rfl, rfl⟩ | (simp only [Act.eval, execOp]; go_simp; try exact ⟨rfl, rfl⟩)⟩, ?_⟩
              simp only [Act.put, List.getElem_toArray, List.getElem_cons_zero, List.getElem_cons_succ, List.setIfInBounds_toArray, List.set_cons_succ, List.set_cons_zero]
              refine ⟨_, _, (.agg #[.slice (some ⟨b0, off, none⟩) l.length c, .int .i64 room]), rfl, rfl, ⟨rfl, fun W hW => by have s0 := (hst W hW).1; have s1 := (hst W hW).2.1; simp only [execOp]; go_simp; done⟩, ?_⟩
              simp only [Act.put, List.getElem_toArray, List.getElem_cons_zero, List.getElem_cons_succ, List.setIfInBounds_toArray, List.set_cons_succ, List.set_cons_zero]
              refine ⟨_, _, (.int .i64 3), rfl, rfl, ⟨rfl, fun W hW => by first | exact ⟨rfl, rfl⟩ | (simp only [Act.eval, execOp]; go_simp; try exact ⟨rfl, rfl⟩)⟩, ?_⟩
              simp only [Act.put, List.getElem_toArray, List.getElem_cons_zero, List.getElem_cons_succ, List.setIfInBounds_toArray, List.set_cons_succ, List.set_cons_zero]
              refine ⟨_, _, (.pointer (some ⟨w.heap.size + 2, 1, none⟩)), rfl, rfl, ⟨rfl, fun W hW => by first | exact ⟨rfl, rfl⟩ | (simp only [Act.eval, execOp]; go_simp; try exact ⟨rfl, rfl⟩)⟩, ?_⟩
              simp only [Act.put, List.getElem_toArray, List.getElem_cons_zero, List.getElem_cons_succ, List.setIfInBounds_toArray, List.set_cons_succ, List.set_cons_zero]
              refine ⟨_, _, (.pointer (some ⟨w.heap.size + 2, 4, none⟩)), rfl, rfl, ⟨rfl, fun W hW => by first | exact ⟨rfl, rfl⟩ | (simp only [Act.eval, execOp]; go_simp; try exact ⟨rfl, rfl⟩)⟩, ?_⟩
              simp only [Act.put, List.getElem_toArray, List.getElem_cons_zero, List.getElem_cons_succ, List.setIfInBounds_toArray, List.set_cons_succ, List.set_cons_zero]
              refine ⟨_, _, (.int .i64 kk.2.2.2), rfl, rfl, ⟨rfl, fun W hW => by have s0 := (hst W hW).2.2.1; simp only [execOp]; go_simp; done⟩, ?_⟩
              simp only [Act.put, List.getElem_toArray, List.getElem_cons_zero, List.getElem_cons_succ, List.setIfInBounds_toArray, List.set_cons_succ, List.set_cons_zero]
              refine ⟨_, _, (.pointer (some ⟨w.heap.size + 1, 0, none⟩)), rfl, rfl, ⟨rfl, fun W hW => by first | exact ⟨rfl, rfl⟩ | (simp only [Act.eval, execOp]; go_simp; try exact ⟨rfl, rfl⟩)⟩, ?_⟩
              simp only [Act.put, List.getElem_toArray, List.getElem_cons_zero, List.getElem_cons_succ, List.setIfInBounds_toArray, List.set_cons_succ, List.set_cons_zero]
              refine ⟨_, _, (.int .i64 px), rfl, rfl, ⟨rfl, fun W hW => by have s0 := (hst W hW).2.2.2.1; simp only [execOp]; go_simp; done⟩, ?_⟩
              simp only [Act.put, List.getElem_toArray, List.getElem_cons_zero, List.getElem_cons_succ, List.setIfInBounds_toArray, List.set_cons_succ, List.set_cons_zero]
              refine ⟨_, _, (.int .i64 3), rfl, rfl, ⟨rfl, fun W hW => by first | exact ⟨rfl, rfl⟩ | (simp only [Act.eval, execOp]; go_simp; try exact ⟨rfl, rfl⟩)⟩, ?_⟩
              simp only [Act.put, List.getElem_toArray, List.getElem_cons_zero, List.getElem_cons_succ, List.setIfInBounds_toArray, List.set_cons_succ, List.set_cons_zero]
              refine ⟨_, _, (.int .i64 1), rfl, rfl, ⟨rfl, fun W hW => by first | exact ⟨rfl, rfl⟩ | (simp only [Act.eval, execOp]; go_simp; try exact ⟨rfl, rfl⟩)⟩, ?_⟩
              simp only [Act.put, List.getElem_toArray, List.getElem_cons_zero, List.getElem_cons_succ, List.setIfInBounds_toArray, List.set_cons_succ, List.set_cons_zero]
              refine ⟨_, _, (.int .i64 (2 ^ k)), rfl, rfl, ⟨rfl, fun W hW => by first | exact ⟨rfl, rfl⟩ | (simp only [Act.eval, execOp]; go_simp; try exact ⟨rfl, rfl⟩)⟩, ?_⟩
              simp only [Act.put, List.getElem_toArray, List.getElem_cons_zero, List.getElem_cons_succ, List.setIfInBounds_toArray, List.set_cons_succ, List.set_cons_zero]
              refine ⟨_, _, (.int .i64 (2 ^ k)), rfl, rfl, ⟨rfl, fun W hW => by first | exact ⟨rfl, rfl⟩ | (simp only [Act.eval, execOp]; go_simp; try exact ⟨rfl, rfl⟩)⟩, ?_⟩
              simp only [Act.put, List.getElem_toArray, List.getElem_cons_zero, List.getElem_cons_succ, List.setIfInBounds_toArray, List.set_cons_succ, List.set_cons_zero]
              refine ⟨_, _, (.int .i64 (px + 2 ^ k)), rfl, rfl, ⟨rfl, fun W hW => by first | exact ⟨rfl, rfl⟩ | (simp only [Act.eval, execOp]; go_simp; try exact ⟨rfl, rfl⟩)⟩, ?_⟩
              simp only [Act.put, List.getElem_toArray, List.getElem_cons_zero, List.getElem_cons_succ, List.setIfInBounds_toArray, List.set_cons_succ, List.set_cons_zero]
              refine ⟨_, _, (.pointer (some ⟨w.heap.size + 1, 1, none⟩)), rfl, rfl, ⟨rfl, fun W hW => by first | exact ⟨rfl, rfl⟩ | (simp only [Act.eval, execOp]; go_simp; try exact ⟨rfl, rfl⟩)⟩, ?_⟩
              simp only [Act.put, List.getElem_toArray, List.getElem_cons_zero, List.getElem_cons_succ, List.setIfInBounds_toArray, List.set_cons_succ, List.set_cons_zero]
              refine ⟨_, _, (.int .i64 py), rfl, rfl, ⟨rfl, fun W hW => by have s0 := (hst W hW).2.2.2.2; simp only [execOp]; go_simp; done⟩, ?_⟩
              simp only [Act.put, List.getElem_toArray, List.getElem_cons_zero, List.getElem_cons_succ, List.setIfInBounds_toArray, List.set_cons_succ, List.set_cons_zero]
              refine ⟨_, _, (.int .i64 3), rfl, rfl, ⟨rfl, fun W hW => by first | exact ⟨rfl, rfl⟩ | (simp only [Act.eval, execOp]; go_simp; try exact ⟨rfl, rfl⟩)⟩, ?_⟩
              simp only [Act.put, List.getElem_toArray, List.getElem_cons_zero, List.getElem_cons_succ, List.setIfInBounds_toArray, List.set_cons_succ, List.set_cons_zero]
              refine ⟨_, _, (.int .i64 1), rfl, rfl, ⟨rfl, fun W hW => by first | exact ⟨rfl, rfl⟩ | (simp only [Act.eval, execOp]; go_simp; try exact ⟨rfl, rfl⟩)⟩, ?_⟩
              simp only [Act.put, List.getElem_toArray, List.getElem_cons_zero, List.getElem_cons_succ, List.setIfInBounds_toArray, List.set_cons_succ, List.set_cons_zero]
              refine ⟨_, _, (.int .i64 (2 ^ k)), rfl, rfl, ⟨rfl, fun W hW => by first | exact ⟨rfl, rfl⟩ | (simp only [Act.eval, execOp]; go_simp; try exact ⟨rfl, rfl⟩)⟩, ?_⟩
              simp only [Act.put, List.getElem_toArray, List.getElem_cons_zero, List.getElem_cons_succ, List.setIfInBounds_toArray, List.set_cons_succ, List.set_cons_zero]
              refine ⟨_, _, (.int .i64 (2 ^ k)), rfl, rfl, ⟨rfl, fun W hW => by first | exact ⟨rfl, rfl⟩ | (simp only [Act.eval, execOp]; go_simp; try exact ⟨rfl, rfl⟩)⟩, ?_⟩
              simp only [Act.put, List.getElem_toArray, List.getElem_cons_zero, List.getElem_cons_succ, List.setIfInBounds_toArray, List.set_cons_succ, List.set_cons_zero]
              refine ⟨_, _, (.int .i64 (py + 2 ^ k)), rfl, rfl, ⟨rfl, fun W hW => by first | exact ⟨rfl, rfl⟩ | (simp only [Act.eval, execOp]; go_simp; try exact ⟨rfl, rfl⟩)⟩, ?_⟩
              simp only [Act.put, List.getElem_toArray, List.getElem_cons_zero, List.getElem_cons_succ, List.setIfInBounds_toArray, List.set_cons_succ, List.set_cons_zero]
              refine ⟨_, _, (.agg #[.int .i64 (px + 2 ^ k), .int .i64 (py + 2 ^ k)]), rfl, rfl, ⟨rfl, fun W hW => by first | exact ⟨rfl, rfl⟩ | (simp only [Act.eval, execOp]; go_simp; try exact ⟨rfl, rfl⟩)⟩, ?_⟩
              simp only [Act.put, List.getElem_toArray, List.getElem_cons_zero, List.getElem_cons_succ, List.setIfInBounds_toArray, List.set_cons_succ, List.set_cons_zero]
              refine ⟨_, rfl, ?_⟩
              go_wp2_with fail
              refine (hcall _ (below_drew wr)).mono ?_
              rintro r w8 ⟨A8, c8, rfl, hc8, hR8, hb8⟩
              have hC := Qt.more hC0 (Nat.le_trans hsz hC0.size) hb8
              go_wp2_with fail
              refine ⟨rfl, hC, ?_⟩
              refine ⟨_, rfl, ?_⟩
              obtain ⟨v9, w9, hrun, hown9, hg9⟩ := Cel.app_any c8 (Nat.le_trans hsz hC.size) (Cel.Own.below (Cel.Own.below hown (below_drew wr)) hb8) hR8 hlen2
              have hC9 := hC.grown hg9 (Nat.le_trans hsz hC.size) (fun r e => (World.ownsRow.lt hown r e).1)
              refine Lib.wpList_append_run _ rfl (.tmp 32) (.tmp 53) 42 42 rfl _ _ rfl rfl _ _ hrun ?_
              refine ⟨rfl, hC9, ?_⟩
              refine ⟨_, _, v9, rfl, rfl, ⟨rfl, fun W hW => by first | exact ⟨rfl, rfl⟩ | (simp only [Act.eval, execOp]; go_simp; try exact ⟨rfl, rfl⟩)⟩, ?_⟩
              simp only [Act.put, List.getElem_toArray, List.getElem_cons_zero, List.getElem_cons_succ, List.setIfInBounds_toArray, List.set_cons_succ, List.set_cons_zero]
              refine ⟨A8, c8, v9, ?_, hown9, hC9⟩
              first | rfl | simp only [Act.put, List.getElem_toArray, List.getElem_cons_zero, List.getElem_cons_succ, List.setIfInBounds_toArray, List.set_cons_succ, List.set_cons_zero]
            rintro a9 w9 ⟨A8, c8, v9, rfl, hown9, hb9⟩
            simp only [Act.put, List.setIfInBounds_toArray, List.set_cons_succ, List.set_cons_zero]
            have HN := Lib.hid (HD.out.next hb9)
            have HO := Lib.hid hown9
            clear hcall hst hw1 hw2 hw3 hw4 hw5 hown9 hb9 hC0 HD hown hsz
            go_wp2_with fail
            go_roundw
            case measure => simp [intOf]
            case rel => exact ⟨4, by omega, by go_num, HN.out, by rw [← HST.out]; exact HO.out⟩
        · obtain rfl : j = 4 := by omega
          have hltz : ¬ ((4 : Nat) : Int) < 4 := by decide
          have hR1 := hR1
          rw [HALL.out, ← HFL.out] at hR1 hc1 ⊢
          have HRR1 := Lib.hid hR1
          have HBL := Lib.hid HH.out.1.bel
          clear HH hR1
          go_wp2_with fail
          go_ret
          exact ⟨A1, c1, rfl, hc1, HRR1.out, HBL.out⟩
theorem refFlat_any {room0 : Int} (l : List Nd) (hr : Right6 l room0) (k : Nat) (hk : k ≤ 42) : FlatAt l room0 k := flat_any l hr k hk
set_option maxHeartbeats 4000000 in
theorem refOf7_any {room0 : Int} (l : List Nd) (hr : Right6 l room0) (A : Option Addr) (c : Nat) (room : Int) (e n : Nat) (w : World) (he : e ≤ 41) (hn : Is l (e + 1) n) (hR : RdN w w.heap.size A l) (hlen : (about7 l e n).length ≤ 900000) :
    Calls Try.prog 23 #[storeV A l.length c room, .int .i64 (n : Nat)] w (FlR (about7 l e n) w) := by
  obtain ⟨hp1, hp2⟩ := pow_bd7 (e := e) (by omega)
  have hp3 : (2 : Int) ^ e ≤ 2199023255552 := pow_le7 (f := 41) he
  have e2 : (2 : Int) ^ (e + 1) = 2 ^ e * 2 := Int.pow_succ ..
  obtain ⟨b0, off, rfl, hbB, hcell⟩ := hR.at_ (by have := hr.two; omega)
  have x0 := (hcell n hn.lt).1
  rw [hn.lev, show ((e + 1 : Nat) : Int) = (e : Int) + 1 by omega] at x0
  have hal1 := (Below.refl w.heap.size w).alloc (Nat.le_refl _) (.cells #[.slice (some ⟨b0, off, none⟩) l.length c, .int .i64 room] 26)
  have y0 := Qt.keep hal1 x0
  have hrow : (w.alloc (.cells #[.slice (some ⟨b0, off, none⟩) l.length c, .int .i64 room] 26)).heap[w.heap.size]? = some (.cells #[.slice (some ⟨b0, off, none⟩) l.length c, .int .i64 room] 26 (0, 0)) := heap_new rfl
  have s0 : (w.alloc (.cells #[.slice (some ⟨b0, off, none⟩) l.length c, .int .i64 room] 26)).cell? ⟨w.heap.size, 0, none⟩ = some (.slice (some ⟨b0, off, none⟩) l.length c) := by rw [Lib.cell_of_heap hrow]; rfl
  have s1 : (w.alloc (.cells #[.slice (some ⟨b0, off, none⟩) l.length c, .int .i64 room] 26)).cell? ⟨w.heap.size, 1, none⟩ = some (.int .i64 room) := by rw [Lib.cell_of_heap hrow]; rfl
  have hnz : (n : Int) < (l.length : Int) := by have := hn.lt; omega
  have hcall := refFlat_any l hr (e + 1) (by omega) (some ⟨b0, off, none⟩) c room n (-(2 ^ e), -(2 ^ e)) _ hn ((hR.below hal1 (Nat.le_refl _)).more hal1.size) hlen (by dsimp only; rw [e2]; generalize (2 : Int) ^ e = q at *; omega)
  rw [show flat l (e + 1) n (-(2 ^ e), -(2 ^ e)) = about7 l e n from rfl] at hcall
  have hneg : IntKind.i64.wrap (-(2 ^ e)) = -(2 ^ e) := by rw [IntKind.wrap_i64]; generalize (2 : Int) ^ e = q at *; omega
  have hwk : IntKind.i64.wrap ((e : Int)) = (e : Int) := by rw [IntKind.wrap_i64]; omega
  have hadd : (e : Int) + 1 - 1 = (e : Int) := by omega
  have HB := Lib.hid hal1
  unfold storeV cellV at hcall
  unfold storeV
  generalize about7 l e n = F at *
  clear hcell x0 hal1 hrow hR e2 hp3 hlen
  go_enter Try.func23, Try.ntmps23
  go_wp2_with fail
  refine hcall.mono ?_
  rintro r w8 ⟨A8, c8, rfl, hc8, hR8, hb8⟩
  have HR8 := Lib.hid hR8
  have HB8 := Lib.hid (Qt.more HB.out HB.out.size hb8)
  clear hcall hR8 hb8 HB
  go_wp2_with fail
  go_ret
  exact ⟨A8, c8, rfl, hc8, HR8.out, HB8.out⟩
end Go.Proofs.Ytgjibpgfcbdpgaa
