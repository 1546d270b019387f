/-
  Texts that the claims of this seat share, part 2.
-/
import Derived.Test.YtklccoodfhejbaaB01
set_option linter.unusedVariables false
set_option linter.unusedSimpArgs false
namespace Go.Proofs.Ytklccoodfhejbaa
set_option linter.unusedVariables false
set_option linter.unusedSimpArgs false
open Go.RowKit Go.Sort

set_option maxHeartbeats 4000000 in
set_option maxRecDepth 100000 in
theorem refPut6_any (A : Option Addr) (l : List Nd) (c : Nat) (room : Int) (k : Kd) (w : World) (hR : RdN w w.heap.size A l) (hl : l.length ≤ 100000) (hc : l.length ≤ c)
    (hb : ∀ i, i < l.length → 0 ≤ (l.getD i deadN).1 ∧ (l.getD i deadN).1 ≤ 42 ∧ 0 ≤ (l.getD i deadN).2.2 ∧ (l.getD i deadN).2.2 ≤ 4611686018427387903) :
    Calls Try.prog 63 #[storeV A l.length c room, kidsV k] w (PutR (put6 l room k) room w) := by
  have HH0 := Lib.hid (putHead_0 w A l.length c room k)
  obtain ⟨r, hr⟩ : ∃ r, r = put6 l room k := ⟨_, rfl⟩
  have hno := fun i hi h => put_no (l := l) (room := room) (k := k) (i := i) hi h
  rw [← hr] at hno ⊢
  have hat := fun W hR => refAt_any A l c room k W hR (by omega)
  have HNO := Lib.hid hno
  have HB := Lib.hid hb
  have HRR := Lib.hid hR
  have HR := Lib.hid hr
  unfold storeV kidsV
  clear hr hno hb
  go_enter Try.func63, Try.ntmps63
  go_wp2
  go_loopw [7, 8] (fun p i wr => ∃ j : Nat, j ≤ 4 ∧ p = .int .i64 (popTo l k j) ∧ i = .int .i64 j ∧ 0 ≤ popTo l k j ∧ popTo l k j ≤ 4611686018427387903 ∧ Hid (PutHead w wr A l.length c room k ∧ ∀ q, q < j → kidB l l.length (ndAt l k.1).1 (kd k q) = true)) (fun _ i _ => 4 - (intOf i).toNat)
  case atStart => exact ⟨0, by omega, rfl, rfl, Int.le_refl _, (show (0 : Int) ≤ 4611686018427387903 by decide), HH0.out, fun q hq => absurd hq (Nat.not_lt_zero q)⟩
  case round =>
    obtain ⟨j, hj, rfl, rfl, hp0, hp1, HH⟩ := hrel
    have H := HH.out.1
    by_cases hlt : j < 4
    · have hltz : (j : Int) < 4 := by omega
      have kc := H.kid hlt
      have k00 := H.kid (i := 0) (by decide)
      have hsucc : popTo l k (j + 1) = min (popTo l k j + (ndAt l (kd k j)).2.2) 4611686018427387903 := rfl
      have hno := HNO.out j hlt
      obtain ⟨K, hK⟩ : ∃ K, K = kd k j := ⟨_, rfl⟩
      rw [← hK] at kc hsucc hno
      have e1 := Qt.cell_in kc
      have e3 := Qt.cell_in H.s0
      by_cases hneg : K < 0
      · have hf := hno (by unfold kidB; rw [decide_eq_false (by omega)]; rfl)
        clear hK
        subst hf
        clear hno HNO HB HH0 HH hsucc hat k00 HR
        go_wp2_with fail
        refine Qt.below_all (by kernel_rfl) (by kernel_rfl) ?_
        repeat (go_big_quiet_step (fail))
        refine wpQuiet_nil ?_
        intro w1 hb1
        have H1 := H.below hb1
        have s0 := H1.s0
        have s1 := H1.s1
        have r0 := H1.r0
        have r1 := H1.r1
        have f0 := H1.free 0
        have f1 := H1.free 1
        have ht : ((w1.setCell ⟨w.heap.size + 1 + 1, 0, none⟩ (.slice A l.length c)).setCell ⟨w.heap.size + 1 + 1, 1, none⟩ (.int .i64 room)).heap[w.heap.size + 1 + 1]? = some (.cells #[.slice A l.length c, .int .i64 room] 26 (0, 0)) ∧ Below w.heap.size w ((w1.setCell ⟨w.heap.size + 1 + 1, 0, none⟩ (.slice A l.length c)).setCell ⟨w.heap.size + 1 + 1, 1, none⟩ (.int .i64 room)) := H1.told (.slice A l.length c) (.int .i64 room)
        clear e1 kc hb1 H H1 e3
        go_wp2
        generalize (w1.setCell ⟨w.heap.size + 1 + 1, 0, none⟩ (.slice A l.length c)).setCell ⟨w.heap.size + 1 + 1, 1, none⟩ (.int .i64 room) = w9 at *
        clear r0 r1 f0 f1 s0 s1
        refine bodyPost_ret (results_cell3 rfl _ _ _ _ _ _ _ rfl ht.1 Try.underlying26 rfl (by kernel_rfl)) rfl ?_
        exact ⟨_, rfl, ⟨A, c, rfl, hc, (HRR.out.below ht.2 (Nat.le_refl _)).more ht.2.size⟩, ht.2⟩
      · obtain ⟨m, rfl⟩ : ∃ m : Nat, K = (m : Int) := ⟨K.toNat, by omega⟩
        have hm0 : ¬ (m : Int) < 0 := hneg
        have hd0 : decide ((m : Int) < 0) = false := decide_eq_false hneg
        by_cases hge : (l.length : Int) ≤ (m : Int)
        · have hf := hno (by unfold kidB; rw [decide_eq_true (by omega), decide_eq_false (by omega)]; rfl)
          have hd1 : decide (l.length ≤ m) = true := decide_eq_true (by omega)
          clear hK
          subst hf
          clear hno HNO HB HH0 HH hsucc hat k00 HR
          go_wp2_with fail
          refine Qt.below_all (by kernel_rfl) (by kernel_rfl) ?_
          repeat (go_big_quiet_step (fail))
          refine wpQuiet_nil ?_
          intro w1 hb1
          have H1 := H.below hb1
          have s0 := H1.s0
          have s1 := H1.s1
          have r0 := H1.r0
          have r1 := H1.r1
          have f0 := H1.free 0
          have f1 := H1.free 1
          have ht : ((w1.setCell ⟨w.heap.size + 1 + 1, 0, none⟩ (.slice A l.length c)).setCell ⟨w.heap.size + 1 + 1, 1, none⟩ (.int .i64 room)).heap[w.heap.size + 1 + 1]? = some (.cells #[.slice A l.length c, .int .i64 room] 26 (0, 0)) ∧ Below w.heap.size w ((w1.setCell ⟨w.heap.size + 1 + 1, 0, none⟩ (.slice A l.length c)).setCell ⟨w.heap.size + 1 + 1, 1, none⟩ (.int .i64 room)) := H1.told (.slice A l.length c) (.int .i64 room)
          clear e1 kc hb1 H H1 e3 hd0 hd1
          go_wp2
          generalize (w1.setCell ⟨w.heap.size + 1 + 1, 0, none⟩ (.slice A l.length c)).setCell ⟨w.heap.size + 1 + 1, 1, none⟩ (.int .i64 room) = w9 at *
          clear r0 r1 f0 f1 s0 s1
          refine bodyPost_ret (results_cell3 rfl _ _ _ _ _ _ _ rfl ht.1 Try.underlying26 rfl (by kernel_rfl)) rfl ?_
          exact ⟨_, rfl, ⟨A, c, rfl, hc, (HRR.out.below ht.2 (Nat.le_refl _)).more ht.2.size⟩, ht.2⟩
        · have hml : m < l.length := by omega
          have hd1 : decide (l.length ≤ m) = false := decide_eq_false (by omega)
          have hmz : (m : Int) < (l.length : Int) := by omega
          obtain ⟨b0, off, rfl, hbB, hcell⟩ := HRR.out.at_ (by omega)
          obtain ⟨m0, m1, m2, m3, m4, m5⟩ := hcell m hml
          obtain ⟨b1, b2, b3, b4⟩ := HB.out m hml
          have hnd : ndAt l (m : Int) = l.getD m deadN := ndAt_nat l m
          rw [hnd] at hsucc
          -- the first kid
          have hk0 : ∃ z : Nat, k.1 = (z : Int) ∧ z < l.length := by
            rcases Nat.eq_zero_or_pos j with h0 | h0
            · subst h0
              exact ⟨m, hK.symm, hml⟩
            · have := kidB_iff.1 (HH.out.2 0 h0)
              simp only [kd] at this
              exact ⟨k.1.toNat, by omega, by omega⟩
          obtain ⟨z, hz, hzl⟩ := hk0
          have hzz : (z : Int) < (l.length : Int) := by omega
          obtain ⟨z0, _, _, _, _, _⟩ := hcell z hzl
          obtain ⟨d1, d2, _, _⟩ := HB.out z hzl
          have hnz : ndAt l (z : Int) = l.getD z deadN := ndAt_nat l z
          have hkb : kidB l l.length (ndAt l k.1).1 (m : Int) = decide ((l.getD m deadN).1 = (l.getD z deadN).1) := by
            unfold kidB
            rw [decide_eq_true (by omega), decide_eq_true (by omega), hnd, hz, hnz]
            rfl
          rw [hkb] at hno
          have HKK := Lib.hid hK
          have k00 : wr.cell? ⟨w.heap.size + 1, 0, none⟩ = some (.int .i64 z) := by have := k00; simp only [kd] at this; rw [this, hz]
          have m0 := Qt.keep H.bel m0
          have m5 := Qt.keep H.bel m5
          have z0 := Qt.keep H.bel z0
          have HKB := Lib.hid hkb
          clear hK hcell m1 m2 m3 m4 hnd hnz hz hkb
          generalize (l.getD m deadN).1 = lv at *
          generalize (l.getD z deadN).1 = lz at *
          generalize (l.getD m deadN).2.2 = pp at *
          have e2 := Qt.cell_in m0
          have e4 := Qt.cell_in k00
          have e5 := Qt.cell_in z0
          by_cases hlv : lv = lz
          · subst hlv
            have hnew : ∀ q, q < j + 1 → kidB l l.length (ndAt l k.1).1 (kd k q) = true := by
              intro q hq
              rcases Nat.lt_or_ge q j with h1 | h1
              · exact HH.out.2 q h1
              · obtain rfl : q = j := by omega
                rw [← HKK.out, HKB.out]
                exact decide_eq_true rfl
            have HNW := Lib.hid hnew
            clear hno hnew HH
            go_wp2_with fail
            refine Qt.below_all (by kernel_rfl) (by kernel_rfl) ?_
            repeat (go_big_quiet_step (fail))
            refine wpQuiet_nil ?_
            intro w1 hb1
            have H1 := H.below hb1
            have m5 := Qt.keep hb1 m5
            clear e1 kc e2 e3 e4 e5 m0 z0 hd0 hd1 H hb1 k00
            have kc := H1.kid hlt
            rw [← HKK.out] at kc
            have e1 := Qt.cell_in kc
            have e3 := Qt.cell_in H1.s0
            have e5 := Qt.cell_in m5
            go_wp2_with fail
            refine Qt.below_all (by kernel_rfl) (by kernel_rfl) ?_
            repeat (go_big_quiet_step (fail))
            refine wpQuiet_nil ?_
            intro w2 hb2
            have HN : Hid (PutHead w w2 (some ⟨b0, off, none⟩) l.length c room k ∧ ∀ q, q < j + 1 → kidB l l.length (ndAt l k.1).1 (kd k q) = true) := ⟨H1.below hb2, HNW.out⟩
            have hpn : 0 ≤ popTo l k (j + 1) ∧ popTo l k (j + 1) ≤ 4611686018427387903 := by rw [hsucc]; omega
            have HSC := Lib.hid hsucc
            clear e1 e3 e5 kc m5 H1 hb2 hsucc
            go_wp2
            go_roundw
            case measure => simp [intOf]; omega
            case rel => exact ⟨j + 1, by omega, congrArg (Value.int .i64) (by rw [HSC.out]; omega), by go_num, hpn.1, hpn.2, HN.out⟩
          · have hf := hno (decide_eq_false hlv)
            have hd2 : (lv == lz) = false := beq_eq_false_iff_ne.2 hlv
            subst hf
            clear hno HNO HB HH0 HH hsucc hat k00 HR
            go_wp2_with fail
            refine Qt.below_all (by kernel_rfl) (by kernel_rfl) ?_
            repeat (go_big_quiet_step (fail))
            refine wpQuiet_nil ?_
            intro w1 hb1
            have H1 := H.below hb1
            have s0 := H1.s0
            have s1 := H1.s1
            have r0 := H1.r0
            have r1 := H1.r1
            have f0 := H1.free 0
            have f1 := H1.free 1
            have ht : ((w1.setCell ⟨w.heap.size + 1 + 1, 0, none⟩ (.slice (some ⟨b0, off, none⟩) l.length c)).setCell ⟨w.heap.size + 1 + 1, 1, none⟩ (.int .i64 room)).heap[w.heap.size + 1 + 1]? = some (.cells #[.slice (some ⟨b0, off, none⟩) l.length c, .int .i64 room] 26 (0, 0)) ∧ Below w.heap.size w ((w1.setCell ⟨w.heap.size + 1 + 1, 0, none⟩ (.slice (some ⟨b0, off, none⟩) l.length c)).setCell ⟨w.heap.size + 1 + 1, 1, none⟩ (.int .i64 room)) := H1.told (.slice (some ⟨b0, off, none⟩) l.length c) (.int .i64 room)
            clear e1 kc hb1 H H1 e3 hd0 hd1 e2 e4 e5 m0 m5 z0 hd2
            go_wp2
            generalize (w1.setCell ⟨w.heap.size + 1 + 1, 0, none⟩ (.slice (some ⟨b0, off, none⟩) l.length c)).setCell ⟨w.heap.size + 1 + 1, 1, none⟩ (.int .i64 room) = w9 at *
            clear r0 r1 f0 f1 s0 s1
            refine bodyPost_ret (results_cell3 rfl _ _ _ _ _ _ _ rfl ht.1 Try.underlying26 rfl (by kernel_rfl)) rfl ?_
            exact ⟨_, rfl, ⟨_, c, rfl, hc, (HRR.out.below ht.2 (Nat.le_refl _)).more ht.2.size⟩, ht.2⟩
    · obtain rfl : j = 4 := by omega
      have hltz : ¬ ((4 : Nat) : Int) < 4 := by decide
      have hall : ∀ i, i < 4 → kidB l l.length (ndAt l k.1).1 (kd k i) = true := HH.out.2
      obtain ⟨hy1, hy2⟩ := put_yes (room := room) hall
      rw [← HR.out] at hy1 hy2
      have hk0 := kidB_iff.1 (hall 0 (by decide))
      simp only [kd] at hk0
      obtain ⟨z, hz⟩ : ∃ z : Nat, k.1 = (z : Int) := ⟨k.1.toNat, by omega⟩
      have hzl : z < l.length := by omega
      have hzz : (z : Int) < (l.length : Int) := by omega
      obtain ⟨b0, off, rfl, hbB, hcell⟩ := HRR.out.at_ (by omega)
      obtain ⟨z0, _, _, _, _, _⟩ := hcell z hzl
      obtain ⟨d1, d2, _, _⟩ := HB.out z hzl
      have hnz : ndAt l (z : Int) = l.getD z deadN := ndAt_nat l z
      have hlz : (ndAt l k.1).1 = (l.getD z deadN).1 := by rw [hz, hnz]
      rw [hlz] at hy1 hy2
      have z0 := Qt.keep H.bel z0
      clear hcell hnz hk0 hall HNO hlz HB HH0 HH HR
      have c0 := H.kid (i := 0) (by decide)
      have c1 := H.kid (i := 1) (by decide)
      have c2 := H.kid (i := 2) (by decide)
      have c3 := H.kid (i := 3) (by decide)
      simp only [kd] at c0 c1 c2 c3
      rw [hz] at c0
      have hat4 : ∀ W, RdN W W.heap.size (some ⟨b0, off, none⟩) l → Calls Try.prog 76 #[.agg #[.slice (some ⟨b0, off, none⟩) l.length c, .int .i64 room], .agg #[.int .i64 (z : Int), .int .i64 k.2.1, .int .i64 k.2.2.1, .int .i64 k.2.2.2]] W fun e w' => e = .returned (.int .i64 (atV (at6 l k))) ∧ Below W.heap.size W w' := by
        intro W hRW
        rw [← hz]
        exact hat W hRW
      have HZ := Lib.hid hz
      clear hz hat
      generalize (l.getD z deadN).1 = lz at *
      generalize popTo l k 4 = pt at *
      have s0 := H.s0
      by_cases h42 : 42 < lz + 1
      · have hf := hy1 h42
        subst hf
        have H1 := H
        have s0 := H1.s0
        have s1 := H1.s1
        have r0 := H1.r0
        have r1 := H1.r1
        have f0 := H1.free 0
        have f1 := H1.free 1
        have ht : ((wr.setCell ⟨w.heap.size + 1 + 1, 0, none⟩ (.slice (some ⟨b0, off, none⟩) l.length c)).setCell ⟨w.heap.size + 1 + 1, 1, none⟩ (.int .i64 room)).heap[w.heap.size + 1 + 1]? = some (.cells #[.slice (some ⟨b0, off, none⟩) l.length c, .int .i64 room] 26 (0, 0)) ∧ Below w.heap.size w ((wr.setCell ⟨w.heap.size + 1 + 1, 0, none⟩ (.slice (some ⟨b0, off, none⟩) l.length c)).setCell ⟨w.heap.size + 1 + 1, 1, none⟩ (.int .i64 room)) := H1.told (.slice (some ⟨b0, off, none⟩) l.length c) (.int .i64 room)
        clear H H1 hy1 hy2 hat4
        go_wp2
        generalize (wr.setCell ⟨w.heap.size + 1 + 1, 0, none⟩ (.slice (some ⟨b0, off, none⟩) l.length c)).setCell ⟨w.heap.size + 1 + 1, 1, none⟩ (.int .i64 room) = w9 at *
        clear r0 r1 f0 f1 s0 s1
        refine bodyPost_ret (results_cell3 rfl _ _ _ _ _ _ _ rfl ht.1 Try.underlying26 rfl (by kernel_rfl)) rfl ?_
        exact ⟨_, rfl, ⟨_, c, rfl, hc, (HRR.out.below ht.2 (Nat.le_refl _)).more ht.2.size⟩, ht.2⟩
      · obtain ⟨hy3, hy4⟩ := hy2 h42
        have hatt := hat4 wr ((HRR.out.below H.bel (Nat.le_refl _)).more H.bel.size)
        have s1 := H.s1
        cases hao : at6 l k with
        | some n =>
          have hf := hy3 n hao
          subst hf
          rw [hao] at hatt
          have hn0 : (0 : Int) ≤ (n : Int) := by omega
          unfold atV at hatt
          simp only at hatt
          clear hy1 hy2 hy3 hy4 hat4 hao
          go_wp2_with fail
          refine hatt.mono ?_
          rintro e w1 ⟨rfl, hb1⟩
          have H1 := H.below hb1
          clear hatt hb1 c0 c1 c2 c3 s0 s1 z0 H
          have s0 := H1.s0
          have s1 := H1.s1
          have r0 := H1.r0
          have r1 := H1.r1
          have f0 := H1.free 0
          have f1 := H1.free 1
          have ht : ((w1.setCell ⟨w.heap.size + 1 + 1, 0, none⟩ (.slice (some ⟨b0, off, none⟩) l.length c)).setCell ⟨w.heap.size + 1 + 1, 1, none⟩ (.int .i64 room)).heap[w.heap.size + 1 + 1]? = some (.cells #[.slice (some ⟨b0, off, none⟩) l.length c, .int .i64 room] 26 (0, 0)) ∧ Below w.heap.size w ((w1.setCell ⟨w.heap.size + 1 + 1, 0, none⟩ (.slice (some ⟨b0, off, none⟩) l.length c)).setCell ⟨w.heap.size + 1 + 1, 1, none⟩ (.int .i64 room)) := H1.told (.slice (some ⟨b0, off, none⟩) l.length c) (.int .i64 room)
          clear H1
          go_wp2
          generalize (w1.setCell ⟨w.heap.size + 1 + 1, 0, none⟩ (.slice (some ⟨b0, off, none⟩) l.length c)).setCell ⟨w.heap.size + 1 + 1, 1, none⟩ (.int .i64 room) = w9 at *
          clear r0 r1 f0 f1 s0 s1
          refine bodyPost_ret (results_cell3 rfl _ _ _ _ _ _ _ rfl ht.1 Try.underlying26 rfl (by kernel_rfl)) rfl ?_
          exact ⟨_, rfl, ⟨_, c, rfl, hc, (HRR.out.below ht.2 (Nat.le_refl _)).more ht.2.size⟩, ht.2⟩
        | none =>
          rw [hao] at hatt
          obtain ⟨hy5, hy6⟩ := hy4 hao
          unfold atV at hatt
          simp only at hatt
          clear hy1 hy2 hy3 hy4 hat4 hao
          by_cases hrl : room ≤ (l.length : Int)
          · have hf := hy5 hrl
            subst hf
            clear hy5 hy6
            go_wp2_with fail
            refine hatt.mono ?_
            rintro e w1 ⟨rfl, hb1⟩
            have H1 := H.below hb1
            clear hatt hb1 c0 c1 c2 c3 s0 s1 z0 H
            have s0 := H1.s0
            have s1 := H1.s1
            have r0 := H1.r0
            have r1 := H1.r1
            have f0 := H1.free 0
            have f1 := H1.free 1
            have ht : ((w1.setCell ⟨w.heap.size + 1 + 1, 0, none⟩ (.slice (some ⟨b0, off, none⟩) l.length c)).setCell ⟨w.heap.size + 1 + 1, 1, none⟩ (.int .i64 room)).heap[w.heap.size + 1 + 1]? = some (.cells #[.slice (some ⟨b0, off, none⟩) l.length c, .int .i64 room] 26 (0, 0)) ∧ Below w.heap.size w ((w1.setCell ⟨w.heap.size + 1 + 1, 0, none⟩ (.slice (some ⟨b0, off, none⟩) l.length c)).setCell ⟨w.heap.size + 1 + 1, 1, none⟩ (.int .i64 room)) := H1.told (.slice (some ⟨b0, off, none⟩) l.length c) (.int .i64 room)
            clear H1
            go_wp2
            generalize (w1.setCell ⟨w.heap.size + 1 + 1, 0, none⟩ (.slice (some ⟨b0, off, none⟩) l.length c)).setCell ⟨w.heap.size + 1 + 1, 1, none⟩ (.int .i64 room) = w9 at *
            clear r0 r1 f0 f1 s0 s1
            refine bodyPost_ret (results_cell3 rfl _ _ _ _ _ _ _ rfl ht.1 Try.underlying26 rfl (by kernel_rfl)) rfl ?_
            exact ⟨_, rfl, ⟨_, c, rfl, hc, (HRR.out.below ht.2 (Nat.le_refl _)).more ht.2.size⟩, ht.2⟩
          · have hf := hy6 hrl
            clear hy5 hy6
            go_wp2_with fail
            refine hatt.mono ?_
            rintro e w1 ⟨rfl, hb1⟩
            have H1 := H.below hb1
            clear hatt hb1 c0 c1 c2 c3 s0 s1 z0 H
            have s0 := H1.s0
            have s1 := H1.s1
            go_wp2_with fail
            have hbd : Below w.heap.size w w1.drew := H1.bel.drew
            have hnil : OwnN w1.drew w1.heap.size (.slice none 0 0) [] := World.ownsRow_nil _ _ _ _
            have hRa : NowN w1.drew (some ⟨b0, off, none⟩) l := (HRR.out.below hbd (Nat.le_refl _)).more hbd.size
            obtain ⟨va, wa, ra, oa, ga⟩ := appN_any (out := []) c (Nat.le_refl _) hnil hRa (by simp; omega)
            rw [List.nil_append] at oa
            obtain ⟨Aa, ca, rfl, _, _⟩ := OwnN.reads oa
            have hbo : Below w.heap.size w (w1.drew.alloc (.cells #[.slice none 0 0, .int .i64 0] 26)) := hbd.alloc (by have := H1.bel.size; exact this) _
            have hszo : (w1.drew.alloc (.cells #[.slice none 0 0, .int .i64 0] 26)).heap.size = w1.heap.size + 1 := by
              show (w1.heap.push _).size = _
              simp
            have hnilb : OwnN (w1.drew.alloc (.cells #[.slice none 0 0, .int .i64 0] 26)) (w1.heap.size + 1) (.slice none 0 0) [] := World.ownsRow_nil _ _ _ _
            have hRb : NowN (w1.drew.alloc (.cells #[.slice none 0 0, .int .i64 0] 26)) (some ⟨b0, off, none⟩) l := (HRR.out.below hbo (Nat.le_refl _)).more hbo.size
            obtain ⟨vb, wb, rb, ob, gb⟩ := appN_any (out := []) c (by omega) hnilb hRb (by simp; omega)
            rw [List.nil_append] at ob
            obtain ⟨Ab, cb, rfl, _, _⟩ := OwnN.reads ob
            have hlt1 := H1.size
            have s0o : ∀ o, (w1.alloc o).cell? ⟨w.heap.size, 0, none⟩ = some (.slice (some ⟨b0, off, none⟩) l.length c) := fun o => (World.cell?_alloc_lt _ _ _ (by show w.heap.size < _; omega)).trans s0
            have s1o : ∀ o, (w1.alloc o).cell? ⟨w.heap.size, 1, none⟩ = some (.int .i64 room) := fun o => (World.cell?_alloc_lt _ _ _ (by show w.heap.size < _; omega)).trans s1
            have hba : Below w1.heap.size w1 wa := (below_drewN6 w1).grown ga (Nat.le_refl _) (fun k e => by cases e)
            have sa1 : wa.cell? ⟨w.heap.size, 1, none⟩ = some (.int .i64 room) := (hba.cell (p := ⟨w.heap.size, 1, none⟩) (by show w.heap.size < _; omega)).trans s1
            have sa1o : ∀ o, (wa.alloc o).cell? ⟨w.heap.size, 1, none⟩ = some (.int .i64 room) := fun o => (World.cell?_alloc_lt _ _ _ (by show w.heap.size < _; have := hba.size; omega)).trans sa1
            have hbb : Below w1.heap.size w1 wb := ((below_drewN6 w1).alloc (Nat.le_refl _) _).grown gb (by omega) (fun k e => by cases e)
            have sb1 : wb.cell? ⟨w.heap.size, 1, none⟩ = some (.int .i64 room) := (hbb.cell (p := ⟨w.heap.size, 1, none⟩) (by show w.heap.size < _; omega)).trans s1
            have hrow : wb.heap[w1.heap.size]? = some (.cells #[.slice none 0 0, .int .i64 0] 26 (0, 0)) := by
              rw [gb.block w1.heap.size (by omega) (by intro e; cases e)]
              exact heap_alloc_new w1.drew _
            have cb0 : wb.cell? ⟨w1.heap.size, 0, none⟩ = some (.slice none 0 0) := by rw [Lib.cell_of_heap hrow]; rfl
            have cb1 : wb.cell? ⟨w1.heap.size, 1, none⟩ = some (.int .i64 0) := by rw [Lib.cell_of_heap hrow]; rfl
            have fb0 := Lib.frozen_of_heap hrow 0
            have fb1 := Lib.frozen_of_heap hrow 1
            clear hbd hnil hRa hbo hszo hnilb hRb hba hbb hrow
            refine region_tree_to (fun a0 a9 w9 => ∃ (g B : Nat) (A9 : Option Addr) (c9 : Nat), a9 = ((((((a0.put (some 84) (.pointer (some ⟨w.heap.size, 1, none⟩))).put (some 85) (.int .i64 room)).put (some 86) (.pointer (some ⟨w.heap.size, 0, none⟩))).put (some 87) (.slice (some ⟨b0, off, none⟩) l.length c)).put (some 88) (.slice A9 l.length c9)).put (some 89) (.agg #[.slice A9 l.length c9, .int .i64 room])).put (some 11) (.pointer (some ⟨g, 0, none⟩)) ∧ NewAt w w9 (some ⟨b0, off, none⟩) l.length c room k l g B (.slice A9 l.length c9)) (.pure 0 (.pure 2 (.three 1 3 6 (.two 3 6 (.two 4 6 (.pure 5 (.only 6 (.only 7 .done))) (.only 4 (.pure 5 (.only 7 .done)))) (.only 3 (.only 4 (.pure 5 (.only 7 .done))))) (.three 1 4 6 (.two 4 6 (.pure 5 (.only 6 (.only 7 .done))) (.only 4 (.pure 5 (.only 7 .done)))) (.two 1 6 (.pure 5 (.only 6 (.only 7 .done))) (.only 1 (.pure 5 (.only 7 .done)))) (.two 1 4 (.only 4 (.pure 5 (.only 7 .done))) (.only 1 (.pure 5 (.only 7 .done))))) (.two 1 3 (.only 3 (.only 4 (.pure 5 (.only 7 .done)))) (.two 1 4 (.only 4 (.pure 5 (.only 7 .done))) (.only 1 (.pure 5 (.only 7 .done)))))))) (by kernel_rfl) (by kernel_rfl) (by kernel_rfl) (by rfl) ?_ ?_
            · refine ⟨_, some 84, .pointer (some ⟨w.heap.size, 1, none⟩), rfl, rfl, ⟨rfl, fun _ => by first | rfl | (simp only [execOp]; go_simp)⟩, ?_⟩
              simp only [Act.put, List.setIfInBounds_toArray, List.set_cons_succ, List.set_cons_zero]
              refine ⟨_, some 86, .pointer (some ⟨w.heap.size, 0, none⟩), rfl, rfl, ⟨rfl, fun _ => by first | rfl | (simp only [execOp]; go_simp)⟩, ?_⟩
              simp only [Act.put, List.setIfInBounds_toArray, List.set_cons_succ, List.set_cons_zero]
              refine ⟨?_, ?_, ?_⟩
              · refine ⟨_, rfl, ?_⟩
                go_wp2_with fail
                refine ⟨rfl, ?_⟩
                constructor
                · refine ⟨_, rfl, ?_⟩
                  go_wp2_with fail
                  refine ⟨rfl, ?_⟩
                  constructor
                  · refine ⟨_, rfl, ?_⟩
                    refine Lib.wpList_append_run _ rfl (.const (.slice none 0 0)) (.tmp 87) 24 24 rfl (.slice none 0 0) (.slice (some ⟨b0, off, none⟩) l.length c) rfl rfl _ _ ra ?_
                    refine ⟨rfl, ?_⟩
                    refine ⟨_, some 89, .agg #[.slice Aa l.length ca, .int .i64 room], rfl, rfl, ⟨rfl, fun _ => by first | rfl | (simp only [execOp]; go_simp)⟩, ?_⟩
                    simp only [Act.put, List.setIfInBounds_toArray, List.set_cons_succ, List.set_cons_zero]
                    refine ⟨_, rfl, ?_⟩
                    go_wp2_with fail
                    refine ⟨rfl, ?_⟩
                    refine ⟨_, rfl, ?_⟩
                    go_wp2_with fail
                    refine ⟨rfl, ?_⟩
                    simp only [Qt.treeW]
                    exact ⟨_, _, Aa, ca, by first | rfl | simp only [Act.put, List.setIfInBounds_toArray, List.set_cons_succ, List.set_cons_zero], newAt_copy H1 oa ga⟩
                  · refine ⟨_, rfl, ?_⟩
                    go_wp2_with fail
                    refine ⟨rfl, ?_⟩
                    refine ⟨_, rfl, ?_⟩
                    refine Lib.wpList_append_run _ rfl (.const (.slice none 0 0)) (.tmp 87) 24 24 rfl (.slice none 0 0) (.slice (some ⟨b0, off, none⟩) l.length c) rfl rfl _ _ rb ?_
                    refine ⟨rfl, ?_⟩
                    refine ⟨_, some 89, .agg #[.slice Ab l.length cb, .int .i64 room], rfl, rfl, ⟨rfl, fun _ => by first | rfl | (simp only [execOp]; go_simp)⟩, ?_⟩
                    simp only [Act.put, List.setIfInBounds_toArray, List.set_cons_succ, List.set_cons_zero]
                    refine ⟨_, rfl, ?_⟩
                    go_wp2_with fail
                    refine ⟨rfl, ?_⟩
                    simp only [Qt.treeW]
                    exact ⟨_, _, Ab, cb, by first | rfl | simp only [Act.put, List.setIfInBounds_toArray, List.set_cons_succ, List.set_cons_zero], newAt_row H1 ob gb⟩
                · refine ⟨_, rfl, ?_⟩
                  go_wp2_with fail
                  refine ⟨rfl, ?_⟩
                  refine ⟨_, rfl, ?_⟩
                  go_wp2_with fail
                  refine ⟨rfl, ?_⟩
                  refine ⟨_, rfl, ?_⟩
                  refine Lib.wpList_append_run _ rfl (.const (.slice none 0 0)) (.tmp 87) 24 24 rfl (.slice none 0 0) (.slice (some ⟨b0, off, none⟩) l.length c) rfl rfl _ _ rb ?_
                  refine ⟨rfl, ?_⟩
                  refine ⟨_, some 89, .agg #[.slice Ab l.length cb, .int .i64 room], rfl, rfl, ⟨rfl, fun _ => by first | rfl | (simp only [execOp]; go_simp)⟩, ?_⟩
                  simp only [Act.put, List.setIfInBounds_toArray, List.set_cons_succ, List.set_cons_zero]
                  refine ⟨_, rfl, ?_⟩
                  go_wp2_with fail
                  refine ⟨rfl, ?_⟩
                  simp only [Qt.treeW]
                  exact ⟨_, _, Ab, cb, by first | rfl | simp only [Act.put, List.setIfInBounds_toArray, List.set_cons_succ, List.set_cons_zero], newAt_row H1 ob gb⟩
              · refine ⟨_, rfl, ?_⟩
                go_wp2_with fail
                refine ⟨rfl, ?_⟩
                refine ⟨?_, ?_, ?_⟩
                · refine ⟨_, rfl, ?_⟩
                  go_wp2_with fail
                  refine ⟨rfl, ?_⟩
                  constructor
                  · refine ⟨_, rfl, ?_⟩
                    refine Lib.wpList_append_run _ rfl (.const (.slice none 0 0)) (.tmp 87) 24 24 rfl (.slice none 0 0) (.slice (some ⟨b0, off, none⟩) l.length c) rfl rfl _ _ ra ?_
                    refine ⟨rfl, ?_⟩
                    refine ⟨_, some 89, .agg #[.slice Aa l.length ca, .int .i64 room], rfl, rfl, ⟨rfl, fun _ => by first | rfl | (simp only [execOp]; go_simp)⟩, ?_⟩
                    simp only [Act.put, List.setIfInBounds_toArray, List.set_cons_succ, List.set_cons_zero]
                    refine ⟨_, rfl, ?_⟩
                    go_wp2_with fail
                    refine ⟨rfl, ?_⟩
                    refine ⟨_, rfl, ?_⟩
                    go_wp2_with fail
                    refine ⟨rfl, ?_⟩
                    simp only [Qt.treeW]
                    exact ⟨_, _, Aa, ca, by first | rfl | simp only [Act.put, List.setIfInBounds_toArray, List.set_cons_succ, List.set_cons_zero], newAt_copy H1 oa ga⟩
                  · refine ⟨_, rfl, ?_⟩
                    go_wp2_with fail
                    refine ⟨rfl, ?_⟩
                    refine ⟨_, rfl, ?_⟩
                    refine Lib.wpList_append_run _ rfl (.const (.slice none 0 0)) (.tmp 87) 24 24 rfl (.slice none 0 0) (.slice (some ⟨b0, off, none⟩) l.length c) rfl rfl _ _ rb ?_
                    refine ⟨rfl, ?_⟩
                    refine ⟨_, some 89, .agg #[.slice Ab l.length cb, .int .i64 room], rfl, rfl, ⟨rfl, fun _ => by first | rfl | (simp only [execOp]; go_simp)⟩, ?_⟩
                    simp only [Act.put, List.setIfInBounds_toArray, List.set_cons_succ, List.set_cons_zero]
                    refine ⟨_, rfl, ?_⟩
                    go_wp2_with fail
                    refine ⟨rfl, ?_⟩
                    simp only [Qt.treeW]
                    exact ⟨_, _, Ab, cb, by first | rfl | simp only [Act.put, List.setIfInBounds_toArray, List.set_cons_succ, List.set_cons_zero], newAt_row H1 ob gb⟩
                · refine ⟨_, rfl, ?_⟩
                  refine Lib.wpList_append_run _ rfl (.const (.slice none 0 0)) (.tmp 87) 24 24 rfl (.slice none 0 0) (.slice (some ⟨b0, off, none⟩) l.length c) rfl rfl _ _ ra ?_
                  refine ⟨rfl, ?_⟩
                  constructor
                  · refine ⟨_, rfl, ?_⟩
                    go_wp2_with fail
                    refine ⟨rfl, ?_⟩
                    refine ⟨_, some 89, .agg #[.slice Aa l.length ca, .int .i64 room], rfl, rfl, ⟨rfl, fun _ => by first | rfl | (simp only [execOp]; go_simp)⟩, ?_⟩
                    simp only [Act.put, List.setIfInBounds_toArray, List.set_cons_succ, List.set_cons_zero]
                    refine ⟨_, rfl, ?_⟩
                    go_wp2_with fail
                    refine ⟨rfl, ?_⟩
                    refine ⟨_, rfl, ?_⟩
                    go_wp2_with fail
                    refine ⟨rfl, ?_⟩
                    simp only [Qt.treeW]
                    exact ⟨_, _, Aa, ca, by first | rfl | simp only [Act.put, List.setIfInBounds_toArray, List.set_cons_succ, List.set_cons_zero], newAt_copy H1 oa ga⟩
                  · refine ⟨_, rfl, ?_⟩
                    go_wp2_with fail
                    refine ⟨rfl, ?_⟩
                    refine ⟨_, rfl, ?_⟩
                    go_wp2_with fail
                    refine ⟨rfl, ?_⟩
                    refine ⟨_, some 89, .agg #[.slice Aa l.length ca, .int .i64 room], rfl, rfl, ⟨rfl, fun _ => by first | rfl | (simp only [execOp]; go_simp)⟩, ?_⟩
                    simp only [Act.put, List.setIfInBounds_toArray, List.set_cons_succ, List.set_cons_zero]
                    refine ⟨_, rfl, ?_⟩
                    go_wp2_with fail
                    refine ⟨rfl, ?_⟩
                    simp only [Qt.treeW]
                    exact ⟨_, _, Aa, ca, by first | rfl | simp only [Act.put, List.setIfInBounds_toArray, List.set_cons_succ, List.set_cons_zero], newAt_copy H1 oa ga⟩
                · refine ⟨_, rfl, ?_⟩
                  go_wp2_with fail
                  refine ⟨rfl, ?_⟩
                  constructor
                  · refine ⟨_, rfl, ?_⟩
                    go_wp2_with fail
                    refine ⟨rfl, ?_⟩
                    refine ⟨_, rfl, ?_⟩
                    refine Lib.wpList_append_run _ rfl (.const (.slice none 0 0)) (.tmp 87) 24 24 rfl (.slice none 0 0) (.slice (some ⟨b0, off, none⟩) l.length c) rfl rfl _ _ rb ?_
                    refine ⟨rfl, ?_⟩
                    refine ⟨_, some 89, .agg #[.slice Ab l.length cb, .int .i64 room], rfl, rfl, ⟨rfl, fun _ => by first | rfl | (simp only [execOp]; go_simp)⟩, ?_⟩
                    simp only [Act.put, List.setIfInBounds_toArray, List.set_cons_succ, List.set_cons_zero]
                    refine ⟨_, rfl, ?_⟩
                    go_wp2_with fail
                    refine ⟨rfl, ?_⟩
                    simp only [Qt.treeW]
                    exact ⟨_, _, Ab, cb, by first | rfl | simp only [Act.put, List.setIfInBounds_toArray, List.set_cons_succ, List.set_cons_zero], newAt_row H1 ob gb⟩
                  · refine ⟨_, rfl, ?_⟩
                    refine Lib.wpList_append_run _ rfl (.const (.slice none 0 0)) (.tmp 87) 24 24 rfl (.slice none 0 0) (.slice (some ⟨b0, off, none⟩) l.length c) rfl rfl _ _ rb ?_
                    refine ⟨rfl, ?_⟩
                    refine ⟨_, rfl, ?_⟩
                    go_wp2_with fail
                    refine ⟨rfl, ?_⟩
                    refine ⟨_, some 89, .agg #[.slice Ab l.length cb, .int .i64 room], rfl, rfl, ⟨rfl, fun _ => by first | rfl | (simp only [execOp]; go_simp)⟩, ?_⟩
                    simp only [Act.put, List.setIfInBounds_toArray, List.set_cons_succ, List.set_cons_zero]
                    refine ⟨_, rfl, ?_⟩
                    go_wp2_with fail
                    refine ⟨rfl, ?_⟩
                    simp only [Qt.treeW]
                    exact ⟨_, _, Ab, cb, by first | rfl | simp only [Act.put, List.setIfInBounds_toArray, List.set_cons_succ, List.set_cons_zero], newAt_row H1 ob gb⟩
              · refine ⟨_, rfl, ?_⟩
                go_wp2_with fail
                refine ⟨rfl, ?_⟩
                constructor
                · refine ⟨_, rfl, ?_⟩
                  go_wp2_with fail
                  refine ⟨rfl, ?_⟩
                  refine ⟨_, rfl, ?_⟩
                  go_wp2_with fail
                  refine ⟨rfl, ?_⟩
                  refine ⟨_, rfl, ?_⟩
                  refine Lib.wpList_append_run _ rfl (.const (.slice none 0 0)) (.tmp 87) 24 24 rfl (.slice none 0 0) (.slice (some ⟨b0, off, none⟩) l.length c) rfl rfl _ _ rb ?_
                  refine ⟨rfl, ?_⟩
                  refine ⟨_, some 89, .agg #[.slice Ab l.length cb, .int .i64 room], rfl, rfl, ⟨rfl, fun _ => by first | rfl | (simp only [execOp]; go_simp)⟩, ?_⟩
                  simp only [Act.put, List.setIfInBounds_toArray, List.set_cons_succ, List.set_cons_zero]
                  refine ⟨_, rfl, ?_⟩
                  go_wp2_with fail
                  refine ⟨rfl, ?_⟩
                  simp only [Qt.treeW]
                  exact ⟨_, _, Ab, cb, by first | rfl | simp only [Act.put, List.setIfInBounds_toArray, List.set_cons_succ, List.set_cons_zero], newAt_row H1 ob gb⟩
                · refine ⟨_, rfl, ?_⟩
                  go_wp2_with fail
                  refine ⟨rfl, ?_⟩
                  constructor
                  · refine ⟨_, rfl, ?_⟩
                    go_wp2_with fail
                    refine ⟨rfl, ?_⟩
                    refine ⟨_, rfl, ?_⟩
                    refine Lib.wpList_append_run _ rfl (.const (.slice none 0 0)) (.tmp 87) 24 24 rfl (.slice none 0 0) (.slice (some ⟨b0, off, none⟩) l.length c) rfl rfl _ _ rb ?_
                    refine ⟨rfl, ?_⟩
                    refine ⟨_, some 89, .agg #[.slice Ab l.length cb, .int .i64 room], rfl, rfl, ⟨rfl, fun _ => by first | rfl | (simp only [execOp]; go_simp)⟩, ?_⟩
                    simp only [Act.put, List.setIfInBounds_toArray, List.set_cons_succ, List.set_cons_zero]
                    refine ⟨_, rfl, ?_⟩
                    go_wp2_with fail
                    refine ⟨rfl, ?_⟩
                    simp only [Qt.treeW]
                    exact ⟨_, _, Ab, cb, by first | rfl | simp only [Act.put, List.setIfInBounds_toArray, List.set_cons_succ, List.set_cons_zero], newAt_row H1 ob gb⟩
                  · refine ⟨_, rfl, ?_⟩
                    refine Lib.wpList_append_run _ rfl (.const (.slice none 0 0)) (.tmp 87) 24 24 rfl (.slice none 0 0) (.slice (some ⟨b0, off, none⟩) l.length c) rfl rfl _ _ rb ?_
                    refine ⟨rfl, ?_⟩
                    refine ⟨_, rfl, ?_⟩
                    go_wp2_with fail
                    refine ⟨rfl, ?_⟩
                    refine ⟨_, some 89, .agg #[.slice Ab l.length cb, .int .i64 room], rfl, rfl, ⟨rfl, fun _ => by first | rfl | (simp only [execOp]; go_simp)⟩, ?_⟩
                    simp only [Act.put, List.setIfInBounds_toArray, List.set_cons_succ, List.set_cons_zero]
                    refine ⟨_, rfl, ?_⟩
                    go_wp2_with fail
                    refine ⟨rfl, ?_⟩
                    simp only [Qt.treeW]
                    exact ⟨_, _, Ab, cb, by first | rfl | simp only [Act.put, List.setIfInBounds_toArray, List.set_cons_succ, List.set_cons_zero], newAt_row H1 ob gb⟩
            · rintro a9 w9 ⟨g, B, A9, c9, rfl, HNA⟩
              clear ra rb oa ob ga gb s0o s1o sa1 sa1o sb1 cb0 cb1 fb0 fb1 hlt1 s0 s1 H1
              simp only [Act.put, List.setIfInBounds_toArray, List.set_cons_succ, List.set_cons_zero]
              have H9 := HNA.head
              have rg := HNA.row
              have g0 : w9.cell? ⟨g, 0, none⟩ = some (.slice A9 l.length c9) := by rw [Lib.cell_of_heap rg]; rfl
              have c0 := H9.kid (i := 0) (by decide)
              have c1 := H9.kid (i := 1) (by decide)
              have c2 := H9.kid (i := 2) (by decide)
              have c3 := H9.kid (i := 3) (by decide)
              simp only [kd] at c0 c1 c2 c3
              rw [HZ.out] at c0
              obtain ⟨v2, w2, rp, op, gp, _⟩ := pushN_any (out := l) (v := .slice A9 l.length c9) ((lz + 1, ((z : Int), k.2.1, k.2.2.1, k.2.2.2), pt) : Nd) HNA.hB HNA.own (by omega)
              have rk := newAt_keep HNA gp
              have HN2 := newAt_push HNA op gp
              obtain ⟨A3, c3', rfl, _, _⟩ := OwnN.reads op
              have hx1 : (l ++ [((lz + 1, ((z : Int), k.2.1, k.2.2.1, k.2.2.2), pt) : Nd)]).length = l.length + 1 := by simp
              have hkk : ((lz + 1, ((z : Int), k.2.1, k.2.2.1, k.2.2.2), pt) : Nd) = (lz + 1, k, pt) := by rw [← HZ.out]
              have g1 : w2.cell? ⟨g, 0, none⟩ = some (.slice A9 l.length c9) := by rw [Lib.cell_of_heap rk]; rfl
              have f1 := Lib.frozen_of_heap rk 0
              rw [hx1] at rp HN2
              clear op gp rk rg hx1
              go_wp2_with (at_builtin; refine Lib.wpList_append_run _ rfl (.tmp 91) (.tmp 96) 24 24 rfl _ _ rfl rfl _ _ rp ?_)
              clear rp c0 c1 c2 c3 g0 g1 f1
              generalize w2.setCell ⟨g, 0, none⟩ (.slice A3 (l.length + 1) c3') = w10 at *
              have H10 := HN2.head
              have rg := HN2.row
              have q0 : w10.cell? ⟨g, 0, none⟩ = some (.slice A3 (l.length + 1) c3') := by rw [Lib.cell_of_heap rg]; rfl
              have q1 : w10.cell? ⟨g, 1, none⟩ = some (.int .i64 room) := by rw [Lib.cell_of_heap rg]; rfl
              have s0 := H10.s0
              have r0 := H10.r0
              have r1 := H10.r1
              have f0 := H10.free 0
              have f1 := H10.free 1
              have hne : (Value.slice A3 (l.length + 1) c3').ownBlock = none ∨ (Value.slice A3 (l.length + 1) c3').ownBlock ≠ some (w.heap.size + 2) := by
                cases hv : (Value.slice A3 (l.length + 1) c3').ownBlock with
                | none => exact .inl rfl
                | some q => exact .inr (fun e => by injection e with e; have := (ownN_kind HN2.own q hv).1; have := HN2.lo; omega)
              have hfin : OwnN ((w10.setCell ⟨w.heap.size + 2, 0, none⟩ (.slice A3 (l.length + 1) c3')).setCell ⟨w.heap.size + 2, 1, none⟩ (.int .i64 room)).drew B (.slice A3 (l.length + 1) c3') (l ++ [((lz + 1, ((z : Int), k.2.1, k.2.2.1, k.2.2.2), pt) : Nd)]) :=
                OwnN.below (World.ownsRow.kept (World.ownsRow.kept HN2.own (but_set 0 _) hne) (but_set 1 _) hne) (below_drewN6 _)
              rw [hkk] at hfin
              have ht := H10.told (.slice A3 (l.length + 1) c3') (.int .i64 room)
              have HT : Hid (((w10.setCell ⟨w.heap.size + 1 + 1, 0, none⟩ (.slice A3 (l.length + 1) c3')).setCell ⟨w.heap.size + 1 + 1, 1, none⟩ (.int .i64 room)).drew.heap[w.heap.size + 1 + 1]? = some (.cells #[.slice A3 (l.length + 1) c3', .int .i64 room] 26 (0, 0)) ∧ Below w.heap.size w ((w10.setCell ⟨w.heap.size + 1 + 1, 0, none⟩ (.slice A3 (l.length + 1) c3')).setCell ⟨w.heap.size + 1 + 1, 1, none⟩ (.int .i64 room)).drew ∧ ReadsN ((w10.setCell ⟨w.heap.size + 1 + 1, 0, none⟩ (.slice A3 (l.length + 1) c3')).setCell ⟨w.heap.size + 1 + 1, 1, none⟩ (.int .i64 room)).drew (.slice A3 (l.length + 1) c3') (l ++ [(lz + 1, k, pt)])) := ⟨ht.1, ht.2.drew, OwnN.reads hfin⟩
              subst hf
              clear HNA HN2 H9 H10 rg hne hfin ht hkk
              refine Qt.region_tree (.pure 1 (.two 0 2 (.two 2 4 (.pure 3 (.only 4 (.only 5 (.only 6 .done)))) (.only 2 (.pure 3 (.only 5 (.only 6 .done))))) (.pure 3 (.only 0 (.only 4 (.only 5 (.only 6 .done))))))) (by kernel_rfl) (by kernel_rfl) (by kernel_rfl) (by rfl) ?_
              refine ⟨_, some 100, .pointer (some ⟨w.heap.size, 0, none⟩), rfl, rfl, ⟨rfl, fun _ => by first | rfl | (simp only [execOp]; go_simp)⟩, ?_⟩
              simp only [Act.put, List.setIfInBounds_toArray, List.set_cons_succ, List.set_cons_zero]
              constructor
              · refine ⟨_, rfl, ?_⟩
                go_wp2_with fail
                refine ⟨rfl, ?_⟩
                constructor
                · refine ⟨_, rfl, ?_⟩
                  go_wp2_with fail
                  refine ⟨rfl, ?_⟩
                  refine ⟨_, some 102, .int .i64 (l.length : Int), rfl, rfl, ⟨rfl, fun _ => by first | rfl | (simp only [execOp]; go_simp)⟩, ?_⟩
                  simp only [Act.put, List.setIfInBounds_toArray, List.set_cons_succ, List.set_cons_zero]
                  refine ⟨_, rfl, ?_⟩
                  go_wp2_with fail
                  refine ⟨rfl, ?_⟩
                  refine ⟨_, rfl, ?_⟩
                  go_wp2_with fail
                  refine ⟨rfl, ?_⟩
                  refine ⟨_, rfl, ?_⟩
                  go_wp2_with fail
                  refine ⟨rfl, ?_⟩
                  simp only [Qt.treeW]
                  go_wp2
                  generalize ((w10.setCell ⟨w.heap.size + 1 + 1, 0, none⟩ (.slice A3 (l.length + 1) c3')).setCell ⟨w.heap.size + 1 + 1, 1, none⟩ (.int .i64 room)).drew = w11 at *
                  refine bodyPost_ret (results_cell3 rfl _ _ _ _ _ _ _ rfl HT.out.1 Try.underlying26 rfl (by kernel_rfl)) rfl ?_
                  exact ⟨_, rfl, HT.out.2.2, HT.out.2.1⟩
                · refine ⟨_, rfl, ?_⟩
                  go_wp2_with fail
                  refine ⟨rfl, ?_⟩
                  refine ⟨_, rfl, ?_⟩
                  go_wp2_with fail
                  refine ⟨rfl, ?_⟩
                  refine ⟨_, some 102, .int .i64 (l.length : Int), rfl, rfl, ⟨rfl, fun _ => by first | rfl | (simp only [execOp]; go_simp)⟩, ?_⟩
                  simp only [Act.put, List.setIfInBounds_toArray, List.set_cons_succ, List.set_cons_zero]
                  refine ⟨_, rfl, ?_⟩
                  go_wp2_with fail
                  refine ⟨rfl, ?_⟩
                  refine ⟨_, rfl, ?_⟩
                  go_wp2_with fail
                  refine ⟨rfl, ?_⟩
                  simp only [Qt.treeW]
                  go_wp2
                  generalize ((w10.setCell ⟨w.heap.size + 1 + 1, 0, none⟩ (.slice A3 (l.length + 1) c3')).setCell ⟨w.heap.size + 1 + 1, 1, none⟩ (.int .i64 room)).drew = w11 at *
                  refine bodyPost_ret (results_cell3 rfl _ _ _ _ _ _ _ rfl HT.out.1 Try.underlying26 rfl (by kernel_rfl)) rfl ?_
                  exact ⟨_, rfl, HT.out.2.2, HT.out.2.1⟩
              · refine ⟨_, rfl, ?_⟩
                go_wp2_with fail
                refine ⟨rfl, ?_⟩
                refine ⟨_, some 102, .int .i64 (l.length : Int), rfl, rfl, ⟨rfl, fun _ => by first | rfl | (simp only [execOp]; go_simp)⟩, ?_⟩
                simp only [Act.put, List.setIfInBounds_toArray, List.set_cons_succ, List.set_cons_zero]
                refine ⟨_, rfl, ?_⟩
                go_wp2_with fail
                refine ⟨rfl, ?_⟩
                refine ⟨_, rfl, ?_⟩
                go_wp2_with fail
                refine ⟨rfl, ?_⟩
                refine ⟨_, rfl, ?_⟩
                go_wp2_with fail
                refine ⟨rfl, ?_⟩
                refine ⟨_, rfl, ?_⟩
                go_wp2_with fail
                refine ⟨rfl, ?_⟩
                simp only [Qt.treeW]
                go_wp2
                generalize ((w10.setCell ⟨w.heap.size + 1 + 1, 0, none⟩ (.slice A3 (l.length + 1) c3')).setCell ⟨w.heap.size + 1 + 1, 1, none⟩ (.int .i64 room)).drew = w11 at *
                refine bodyPost_ret (results_cell3 rfl _ _ _ _ _ _ _ rfl HT.out.1 Try.underlying26 rfl (by kernel_rfl)) rfl ?_
                exact ⟨_, rfl, HT.out.2.2, HT.out.2.1⟩
end Go.Proofs.Ytklccoodfhejbaa
