/-
  Texts that the claims of this seat share, part 19.
-/
import Derived.Test.YtmmaeikeafemaaaGreatB18
set_option linter.unusedVariables false
set_option linter.unusedSimpArgs false
namespace Go.Proofs.YtmmaeikeafemaaaGreat
set_option maxRecDepth 100000
set_option linter.unusedVariables false
set_option linter.unusedSimpArgs false
open Go.RowKit Go.Sort

/-- the store in its box -/
structure BoAt (w W : World) (b0 off n c : Nat) (room : Int) : Prop where
  st : W.heap[w.heap.size]? = some (.cells #[.slice (some ⟨b0, off, none⟩) n c, .int .i64 room] 26 (0, 0))
  bel : Below w.heap.size w W
theorem BoAt.more {w W W' : World} {b0 off n c : Nat} {room : Int} (h : BoAt w W b0 off n c room) {B : Nat} (hb : Below B W W') (hB : w.heap.size + 1 ≤ B) : BoAt w W' b0 off n c room := ⟨(hb.block _ (by omega)).trans h.st, h.bel.trans (hb.mono (by omega))⟩
theorem BoAt.s0 {w W : World} {b0 off n c : Nat} {room : Int} (h : BoAt w W b0 off n c room) : W.cell? ⟨w.heap.size, 0, none⟩ = some (.slice (some ⟨b0, off, none⟩) n c) := by rw [Lib.cell_of_heap h.st]; rfl
theorem OwnBx.more {w w' : World} {B : Nat} {v : Value} {l : List Bx} (h : OwnBx w B v l) {s : Nat} (hs : s = w.heap.size) (hb : Below s w w') : OwnBx w' B v l := h.below (hs ▸ hb)
theorem kidN_lt7 {l : List Nd} {room : Int} {k n i : Nat} (hr : Right6 l room) (h : Is l (k + 1) n) (hi : i < 4) : kidN l n i < n := by
  have := ((fits_iff.1 (hr.fits n (h.two hr) h.lt)).kid i hi).2.1
  rw [kid_cast hr h hi] at this
  omega
/-- within the loop over quarters -/
structure BqAt (wn W : World) (xb : Nat) (bb : Bx) : Prop where
  br : BR W (xb + 1) bb
  bel : Below (xb + 1) wn W
  sz : xb + 2 ≤ W.heap.size
theorem BqAt.more {wn W W' : World} {xb : Nat} {bb : Bx} (h : BqAt wn W xb bb) (hb : Below W.heap.size W W') : BqAt wn W' xb bb := ⟨h.br.below hb, h.bel.trans (hb.mono (by have := h.sz; omega)), Nat.le_trans h.sz hb.size⟩
theorem BqAt.told {wn W : World} {xb : Nat} {bb : Bx} (h : BqAt wn W xb bb) (y : Bx) : BqAt wn ((((W.setCell ⟨xb + 1, 0, none⟩ (.int .i64 y.1)).setCell ⟨xb + 1, 1, none⟩ (.int .i64 y.2.1)).setCell ⟨xb + 1, 2, none⟩ (.int .i64 y.2.2.1)).setCell ⟨xb + 1, 3, none⟩ (.int .i64 y.2.2.2)) xb y :=
  ⟨h.br.told y, (((h.bel.setCell (Nat.le_refl _) _).setCell (Nat.le_refl _) _).setCell (Nat.le_refl _) _).setCell (Nat.le_refl _) _, by have := h.sz; simp only [World.setCell]; simpa using this⟩
set_option maxHeartbeats 16000000 in
theorem refBoxes_any (A : Option Addr) (l : List Nd) (c : Nat) (room : Int) (hr : Right6 l room) (m : Nat) (w : World) (hm : m < l.length) (hR : RdN w w.heap.size A l) :
    Calls Tryz.prog 44 #[storeV A l.length c room, .int .i64 (m : Nat)] w (BxsR l m w) := by
  obtain ⟨b0, off, rfl, hbB, hcell⟩ := hR.at_ (by omega)
  have hlen := hr.small
  have HC := Lib.hid hcell
  have HR6 := Lib.hid hr
  have hB0 : BoAt w (w.alloc (.cells #[.slice (some ⟨b0, off, none⟩) l.length c, .int .i64 room] 26)) b0 off l.length c room := ⟨heap_new rfl, (Below.refl _ _).alloc (Nat.le_refl _) _⟩
  have HB0 := Lib.hid hB0
  unfold storeV
  clear hcell hr hR hB0
  go_enter Tryz.func44, Tryz.ntmps44
  go_wp2_with fail
  generalize (w.alloc (.cells #[.slice (some ⟨b0, off, none⟩) l.length c, .int .i64 room] 26)) = w0 at *
  go_loopw [5, 6] (fun v i wr => ∃ j : Nat, j ≤ m + 1 ∧ i = .int .i64 j ∧ Aside (OwnBx wr (w.heap.size + 1) v (bxsTo l j)) ∧ Hid (BoAt w wr b0 off l.length c room)) (fun _ i _ => m + 1 - (intOf i).toNat)
  case atStart => exact ⟨0, by omega, rfl, World.ownsRow_nil _ _ _ _, HB0.out⟩
  case round =>
    obtain ⟨j, hj, rfl, HK, HB⟩ := hrel
    by_cases hlt : j < m + 1
    · have hltz : (j : Int) ≤ (m : Int) := by omega
      have hjz : (j : Int) < (l.length : Int) := by omega
      obtain ⟨n0, n1, n2, n3, n4, n5⟩ := HC.out j (by omega)
      have m0 := Qt.keep HB.out.bel n0
      have m1 := Qt.keep HB.out.bel n1
      have m2 := Qt.keep HB.out.bel n2
      have m3 := Qt.keep HB.out.bel n3
      have m4 := Qt.keep HB.out.bel n4
      have m5 := Qt.keep HB.out.bel n5
      have s0 := HB.out.s0
      have hsw : w.heap.size + 1 ≤ wr.heap.size := lt_heap6 HB.out.st
      have hown := HK.out
      by_cases hlev : (l.getD j deadN).1 = 0
      · have hj2 : j < 2 := (level_zero HR6.out (by omega)).1 hlev
        have hbx : bxsTo l (j + 1) = bxsTo l j ++ [(0, 0, (l.getD j deadN).2.2, (l.getD j deadN).2.2)] := by
          rw [bxs_succ]
          congr 2
          unfold boxF
          rw [hlev]
          rcases (by omega : j = 0 ∨ j = 1) with h | h
          · subst h; rw [HR6.out.dead]; rfl
          · subst h; rw [HR6.out.live]; rfl
        rw [hlev] at m0
        generalize (l.getD j deadN) = x at *
        obtain ⟨lv, kk, pp⟩ := x
        dsimp only at m0 m1 m2 m3 m4 m5 hbx
        have hnr : NR (wr.alloc (.cells #[.int .i64 0, .int .i64 kk.1, .int .i64 kk.2.1, .int .i64 kk.2.2.1, .int .i64 kk.2.2.2, .int .i64 pp] 57)) wr.heap.size 0 kk pp := heap_new rfl
        have l0 := hnr.lev_
        have p0 := hnr.pop_
        have hal := (Below.refl wr.heap.size wr).alloc (Nat.le_refl _) (.cells #[.int .i64 0, .int .i64 kk.1, .int .i64 kk.2.1, .int .i64 kk.2.2.1, .int .i64 kk.2.2.2, .int .i64 pp] 57)
        obtain ⟨v', w', hrun, hown', hbel'⟩ := pushB_any (w := wr.alloc (.cells #[.int .i64 0, .int .i64 kk.1, .int .i64 kk.2.1, .int .i64 kk.2.2.1, .int .i64 kk.2.2.2, .int .i64 pp] 57)) (0, 0, pp, pp) (by simp; omega) (hown.below hal) (by rw [bxs_len]; omega)
        rw [show (wr.alloc (.cells #[.int .i64 0, .int .i64 kk.1, .int .i64 kk.2.1, .int .i64 kk.2.2.1, .int .i64 kk.2.2.2, .int .i64 pp] 57)).heap.size = wr.heap.size + 1 by simp] at hrun
        rw [← hbx] at hown'
        have HRUN := Lib.hid hrun
        have HO := Lib.hid hown'
        have HB2 := Lib.hid ((HB.out.more hal hsw).more hbel' (Nat.le_refl _))
        clear hrun hown' hbel' hal hbx hnr n0 n1 n2 n3 n4 n5 hown HK HB
        go_wp2_with (at_builtin; refine Lib.wpList_append_run _ rfl (.tmp 27) (.tmp 33) 77 77 rfl _ _ rfl rfl _ _ HRUN.out ?_)
        go_roundw
        case measure => simp [intOf]; omega
        case rel => exact ⟨j + 1, by omega, by go_num, HO.out, HB2.out⟩
      · obtain ⟨k, hk⟩ : ∃ k : Nat, (l.getD j deadN).1 = (k : Int) + 1 := ⟨((l.getD j deadN).1 - 1).toNat, by have := right_bd HR6.out j (by omega); omega⟩
        have hk41 : k ≤ 41 := by have := right_bd HR6.out j (by omega); omega
        have hIs : Is l (k + 1) j := ⟨by omega, by rw [hk]; omega⟩
        have hkid : ∀ t, t < 4 → kd (l.getD j deadN).2.1 t = ((kidN l j t : Nat) : Int) ∧ kidN l j t < j ∧ Is l k (kidN l j t) := fun t ht => ⟨kid_cast HR6.out hIs ht, kidN_lt7 HR6.out hIs ht, kid_is HR6.out hIs ht⟩
        have hbx : bxsTo l (j + 1) = bxsTo l j ++ [empB (boxTo l k j 4)] := by
          rw [bxs_succ]
          congr 2
          unfold boxF
          rw [hk, show ((k : Int) + 1).toNat = k + 1 by omega]
          rfl
        rw [hk] at m0
        obtain ⟨g, cap, hv, hg1, hg2, hat⟩ := hown.some_ (by rw [bxs_len]; have := (hkid 0 (by decide)).2.1; omega)
        rw [bxs_len] at hat hv
        subst hv
        generalize (l.getD j deadN) = x at *
        obtain ⟨lv, kk, pp⟩ := x
        dsimp only at m0 m1 m2 m3 m4 m5 hkid
        have hnr : NR (wr.alloc (.cells #[.int .i64 ((k : Int) + 1), .int .i64 kk.1, .int .i64 kk.2.1, .int .i64 kk.2.2.1, .int .i64 kk.2.2.2, .int .i64 pp] 57)) wr.heap.size ((k : Int) + 1) kk pp := heap_new rfl
        have hal := (Below.refl wr.heap.size wr).alloc (Nat.le_refl _) (.cells #[.int .i64 ((k : Int) + 1), .int .i64 kk.1, .int .i64 kk.2.1, .int .i64 kk.2.2.1, .int .i64 kk.2.2.2, .int .i64 pp] 57)
        have l0 := hnr.lev_
        have hsn : (wr.alloc (.cells #[.int .i64 ((k : Int) + 1), .int .i64 kk.1, .int .i64 kk.2.1, .int .i64 kk.2.2.1, .int .i64 kk.2.2.2, .int .i64 pp] 57)).heap.size = wr.heap.size + 1 := by simp
        have HBn := Lib.hid (HB.out.more hal hsw)
        have HOn := Lib.hid (hown.below hal)
        have HNn := Lib.hid hnr
        have HSN := Lib.hid hsn
        have HKD := Lib.hid hkid
        have HBX := Lib.hid hbx
        have HATn := Lib.hid (show ∀ i, i < j → BxAt (wr.alloc (.cells #[.int .i64 ((k : Int) + 1), .int .i64 kk.1, .int .i64 kk.2.1, .int .i64 kk.2.2.1, .int .i64 kk.2.2.2, .int .i64 pp] 57)) g (i * 4) (empB (boxF l i)) from fun i hi => by
          have h := hat i hi
          rw [bxs_get l hi] at h
          exact ⟨(hal.cell (p := ⟨g, i * 4, none⟩) hg2).trans h.1, (hal.cell (p := ⟨g, i * 4 + 1, none⟩) hg2).trans h.2.1, (hal.cell (p := ⟨g, i * 4 + 2, none⟩) hg2).trans h.2.2.1, (hal.cell (p := ⟨g, i * 4 + 3, none⟩) hg2).trans h.2.2.2⟩)
        have hk1 : (((k : Int) + 1) == 0) = false := beq_eq_false_iff_ne.2 (by omega)
        have hk2 : ¬ (k : Int) + 1 = 0 := by omega
        have hpk : (2 : Int) ^ k ≤ 2199023255552 := pow_le7 (f := 41) hk41
        have hpp := pow_pos7 k
        have hside : wrap64 ((2 : Int) ^ k) = 2 ^ k := by first | (unfold wrap64; omega) | (rw [show wrap64 ((2 : Int) ^ k) = IntKind.i64.wrap (2 ^ k) from rfl, IntKind.wrap_i64]; omega)
        have hB2 : BqAt (wr.alloc (.cells #[.int .i64 ((k : Int) + 1), .int .i64 kk.1, .int .i64 kk.2.1, .int .i64 kk.2.2.1, .int .i64 kk.2.2.2, .int .i64 pp] 57)) ((wr.alloc (.cells #[.int .i64 ((k : Int) + 1), .int .i64 kk.1, .int .i64 kk.2.1, .int .i64 kk.2.2.1, .int .i64 kk.2.2.2, .int .i64 pp] 57)).alloc (.cells #[.int .i64 0, .int .i64 0, .int .i64 0, .int .i64 0] 45)) wr.heap.size (0, 0, 0, 0) :=
          ⟨heap_new hsn, by have := (Below.refl (wr.alloc (.cells #[.int .i64 ((k : Int) + 1), .int .i64 kk.1, .int .i64 kk.2.1, .int .i64 kk.2.2.1, .int .i64 kk.2.2.2, .int .i64 pp] 57)).heap.size _).alloc (Nat.le_refl _) (.cells #[.int .i64 0, .int .i64 0, .int .i64 0, .int .i64 0] 45); rw [hsn] at this; exact this, by simp⟩
        have HB2 := Lib.hid hB2
        clear hB2 hnr hal hsn n0 n1 n2 n3 n4 n5 hown HK HB hkid hIs hbx hat hlev hk
        go_wp2_with fail
        try rw [hside]
        clear m0 m1 m2 m3 m4 m5 l0 s0
        generalize (wr.alloc (.cells #[.int .i64 ((k : Int) + 1), .int .i64 kk.1, .int .i64 kk.2.1, .int .i64 kk.2.2.1, .int .i64 kk.2.2.2, .int .i64 pp] 57)) = wn at *
        generalize wn.alloc (.cells #[.int .i64 0, .int .i64 0, .int .i64 0, .int .i64 0] 45) = w3 at *
        generalize wr.heap.size = xb at *
        go_loopw [10] (fun u wr => ∃ t : Nat, t ≤ 4 ∧ u = .int .i64 t ∧ Hid (BqAt wn wr xb (empB (boxTo l k j t)))) (fun u _ => 4 - (intOf u).toNat)
        case atStart => exact ⟨0, by decide, rfl, HB2.out⟩
        case round =>
          obtain ⟨t, ht, rfl, HQ⟩ := hrel
          by_cases htl : t < 4
          · obtain ⟨e1, e2, e3⟩ := HKD.out t htl
            obtain ⟨q0, q1, q2, q3⟩ := HATn.out _ e2
            have ebx : boxF l (kidN l j t) = boxN l k (kidN l j t) := by unfold boxF; rw [e3.lev, Int.toNat_natCast]
            rw [ebx] at q0 q1 q2 q3
            have hnd : NR wr xb ((k : Int) + 1) kk pp := (HQ.out.bel.block _ (by omega)).trans HNn.out
            have kc := hnd.kid htl
            rw [e1] at kc
            have gq := zero_good (by omega) (boxN_good l k (kidN l j t))
            have gb := zero_good (M := 2 ^ (k + 1)) (by have := pow_pos7 (k + 1); omega) (boxTo_good l k j t (by omega))
            have hoff := off_bd k t htl
            have hnext : empB (boxTo l k j (t + 1)) = stepB (empB (boxTo l k j t)) (shift7 (empB (boxN l k (kidN l j t))) (((t % 2 : Nat) : Int) * 2 ^ k) (((t / 2 : Nat) : Int) * 2 ^ k)) := by
              have hgs := shift_good (boxN_good l k (kidN l j t)) ⟨hoff.1, hoff.2.1⟩ ⟨hoff.2.2.1, hoff.2.2.2⟩
              rw [← Int.pow_succ] at hgs
              exact (step_zero (boxTo_good l k j t (by omega)) hgs).symm
            have hbel := HQ.out.bel
            have c0 := (hbel.cell (p := ⟨g, kidN l j t * 4, none⟩) (by show g < _; omega)).trans q0
            have c1 := (hbel.cell (p := ⟨g, kidN l j t * 4 + 1, none⟩) (by show g < _; omega)).trans q1
            have c2 := (hbel.cell (p := ⟨g, kidN l j t * 4 + 2, none⟩) (by show g < _; omega)).trans q2
            have c3 := (hbel.cell (p := ⟨g, kidN l j t * 4 + 3, none⟩) (by show g < _; omega)).trans q3
            have hkz : ((kidN l j t : Nat) : Int) < (j : Int) := by omega
            generalize kidN l j t = q at *
            generalize boxN l k q = qb at *
            generalize empB qb = qv at *
            generalize hBB : empB (boxTo l k j t) = bv at *
            obtain ⟨qx, qy, qw, qh⟩ := qv
            obtain ⟨bx, by_, bw, bh⟩ := bv
            dsimp only at c0 c1 c2 c3
            unfold GoodB at gq gb
            dsimp only at gq gb
            have e2k : (2 : Int) ^ (k + 1) = 2 ^ k * 2 := Int.pow_succ ..
            rw [e2k] at gb
            have HNX := Lib.hid hnext
            have HQB := Lib.hid hbel
            clear hnext hbel q0 q1 q2 q3 ebx hnd e1 e2 e3 hoff hBB
            have hbr := HQ.out.br
            have hszq := HQ.out.sz
            have hal := (Below.refl wr.heap.size wr).alloc (Nat.le_refl _) (.cells #[.int .i64 qx, .int .i64 qy, .int .i64 qw, .int .i64 qh] 45)
            have hqr : BR (wr.alloc (.cells #[.int .i64 qx, .int .i64 qy, .int .i64 qw, .int .i64 qh] 45)) wr.heap.size (qx, qy, qw, qh) := heap_new rfl
            have hbr2 := hbr.below hal
            rcases (by omega : t = 0 ∨ t = 1 ∨ t = 2 ∨ t = 3) with rfl | rfl | rfl | rfl
            · have hk2w : IntKind.i64.wrap ((2 : Int) ^ k) = 2 ^ k := by rw [IntKind.wrap_i64]; generalize (2 : Int) ^ k = P at *; omega
              have halM := (Below.refl wr.heap.size wr).alloc (Nat.le_refl _) (.cells #[.int .i64 (qx), .int .i64 (qy), .int .i64 qw, .int .i64 qh] 45)
              have hbrM := hbr.below halM
              have HQM := Lib.hid (HQ.out.more halM)
              by_cases hqw : qw = 0
              · subst hqw
                obtain ⟨r0, r1, r2, r3⟩ := hqr.c
                have f0 := hqr.f 0
                have f1 := hqr.f 1
                have w1 : IntKind.i64.wrap (qx) = (qx) := by rw [IntKind.wrap_i64]; generalize (2 : Int) ^ k = P at *; omega
                have w2 : IntKind.i64.wrap (qy) = (qy) := by rw [IntKind.wrap_i64]; generalize (2 : Int) ^ k = P at *; omega
                clear hbr hbr2 hqr hal halM hbrM gq gb
                go_wp2_with fail
                go_roundw
                case measure => decide
                case rel => exact ⟨1, by decide, by go_num, by rw [HNX.out, show stepB (bx, by_, bw, bh) (shift7 (qx, qy, 0, qh) (((0 % 2 : Nat) : Int) * 2 ^ k) (((0 / 2 : Nat) : Int) * 2 ^ k)) = (bx, by_, bw, bh) from if_pos rfl]; exact HQM.out⟩
              · have hqb : (qw == 0) = false := beq_eq_false_iff_ne.2 hqw
                obtain ⟨r0, r1, r2, r3⟩ := hqr.c
                have f0 := hqr.f 0
                have f1 := hqr.f 1
                have w1 : IntKind.i64.wrap (qx) = (qx) := by rw [IntKind.wrap_i64]; generalize (2 : Int) ^ k = P at *; omega
                have w2 : IntKind.i64.wrap (qy) = (qy) := by rw [IntKind.wrap_i64]; generalize (2 : Int) ^ k = P at *; omega
                have HBM := Lib.hid hbrM
                obtain ⟨b0', b1', b2', b3'⟩ := hbrM.c
                have g0 := hbrM.f 0
                have g1 := hbrM.f 1
                have g2 := hbrM.f 2
                have g3 := hbrM.f 3
                have a2 : IntKind.i64.wrap ((qx) + qw) = (qx) + qw := by rw [IntKind.wrap_i64]; generalize (2 : Int) ^ k = P at *; omega
                have a4 : IntKind.i64.wrap ((qy) + qh) = (qy) + qh := by rw [IntKind.wrap_i64]; generalize (2 : Int) ^ k = P at *; omega
                by_cases hbw : bw = 0
                · subst hbw
                  have a5 : IntKind.i64.wrap ((qx) + qw - (qx)) = qw := by rw [IntKind.wrap_i64]; generalize (2 : Int) ^ k = P at *; omega
                  have a6 : IntKind.i64.wrap ((qy) + qh - (qy)) = qh := by rw [IntKind.wrap_i64]; generalize (2 : Int) ^ k = P at *; omega
                  have w7 : IntKind.i64.wrap qw = qw := by rw [IntKind.wrap_i64]; generalize (2 : Int) ^ k = P at *; omega
                  have w8 : IntKind.i64.wrap qh = qh := by rw [IntKind.wrap_i64]; generalize (2 : Int) ^ k = P at *; omega
                  have HW7 := Lib.hid (And.intro w7 w8)
                  have HA5 := Lib.hid (And.intro a5 a6)
                  clear w7 w8 a5 a6
                  have hq5 : BR (wr.alloc (.cells #[.int .i64 (qx), .int .i64 (qy), .int .i64 qw, .int .i64 qh] 45)) wr.heap.size ((qx), (qy), qw, qh) := heap_alloc_new wr _
                  clear hbr hbr2 hqr hal halM hbrM gq gb
                  obtain ⟨w7, w8⟩ := HW7.out
                  obtain ⟨a5, a6⟩ := HA5.out
                  obtain ⟨w6, hw6⟩ : ∃ w6, (((((wr.alloc (.cells #[.int .i64 (qx), .int .i64 (qy), .int .i64 qw, .int .i64 qh] 45)).setCell ⟨xb + 1, 0, none⟩ (.int .i64 (qx))).setCell ⟨xb + 1, 1, none⟩ (.int .i64 (qy))).setCell ⟨xb + 1, 2, none⟩ (.int .i64 qw)).setCell ⟨xb + 1, 3, none⟩ (.int .i64 qh)) = w6 := ⟨_, rfl⟩
                  have HQ6 : BqAt wn w6 xb ((qx), (qy), qw, qh) := by rw [← hw6]; exact HQM.out.told ((qx), (qy), qw, qh)
                  have hq6 : BR w6 wr.heap.size ((qx), (qy), qw, qh) := by rw [← hw6]; exact (set4_other (by omega) _ _ _ _).trans hq5
                  have HW6 := Lib.hid hw6
                  have HQ6 := Lib.hid HQ6
                  obtain ⟨c0', c1', c2', c3'⟩ := HQ6.out.br.c
                  obtain ⟨d0', d1', d2', d3'⟩ := hq6.c
                  clear hw6 hq6 hq5 HBM
                  have k0 := HQ6.out.br.f 0
                  have k1 := HQ6.out.br.f 1
                  have k2 := HQ6.out.br.f 2
                  have k3 := HQ6.out.br.f 3
                  go_wp2_with (rw [HW6.out])
                  go_roundw
                  case measure => decide
                  case rel =>
                    have hst : stepB (bx, by_, 0, bh) (shift7 (qx, qy, qw, qh) (((0 % 2 : Nat) : Int) * 2 ^ k) (((0 / 2 : Nat) : Int) * 2 ^ k)) = ((qx), (qy), qw, qh) := by
                      unfold stepB shift7
                      dsimp only
                      rw [if_neg hqw]
                      simp only [if_pos (rfl : (0 : Int) = 0), Int.min_self, Int.max_self]
                      refine Prod.ext ?_ (Prod.ext ?_ (Prod.ext ?_ ?_)) <;> simp <;> omega
                    exact ⟨1, by decide, by go_num, by rw [HNX.out, hst]; exact HQ6.out.told ((qx), (qy), qw, qh)⟩
                · have hbb : (bw == 0) = false := beq_eq_false_iff_ne.2 hbw
                  have a1 : IntKind.i64.wrap (bx + bw) = bx + bw := by rw [IntKind.wrap_i64]; generalize (2 : Int) ^ k = P at *; omega
                  have a3 : IntKind.i64.wrap (by_ + bh) = by_ + bh := by rw [IntKind.wrap_i64]; generalize (2 : Int) ^ k = P at *; omega
                  have a5 : IntKind.i64.wrap (max (bx + bw) ((qx) + qw) - min bx (qx)) = max (bx + bw) ((qx) + qw) - min bx (qx) := by rw [IntKind.wrap_i64]; generalize (2 : Int) ^ k = P at *; omega
                  have a6 : IntKind.i64.wrap (max (by_ + bh) ((qy) + qh) - min by_ (qy)) = max (by_ + bh) ((qy) + qh) - min by_ (qy) := by rw [IntKind.wrap_i64]; generalize (2 : Int) ^ k = P at *; omega
                  have HST := Lib.hid (show stepB (bx, by_, bw, bh) (shift7 (qx, qy, qw, qh) (((0 % 2 : Nat) : Int) * 2 ^ k) (((0 / 2 : Nat) : Int) * 2 ^ k)) = (min bx (qx), min by_ (qy), max (bx + bw) ((qx) + qw) - min bx (qx), max (by_ + bh) ((qy) + qh) - min by_ (qy)) from by
                    unfold stepB shift7
                    dsimp only
                    rw [if_neg hqw]
                    simp only [if_neg hbw]
                    refine Prod.ext ?_ (Prod.ext ?_ (Prod.ext ?_ ?_)) <;> simp)
                  clear hbr hbr2 hqr hal halM hbrM gq gb
                  go_wp2_with fail
                  go_roundw
                  case measure => decide
                  case rel => exact ⟨1, by decide, by go_num, by rw [HNX.out, HST.out]; exact HQM.out.told (min bx (qx), min by_ (qy), max (bx + bw) ((qx) + qw) - min bx (qx), max (by_ + bh) ((qy) + qh) - min by_ (qy))⟩
            · have hk2w : IntKind.i64.wrap ((2 : Int) ^ k) = 2 ^ k := by rw [IntKind.wrap_i64]; generalize (2 : Int) ^ k = P at *; omega
              have halM := (Below.refl wr.heap.size wr).alloc (Nat.le_refl _) (.cells #[.int .i64 (qx + 2 ^ k), .int .i64 (qy), .int .i64 qw, .int .i64 qh] 45)
              have hbrM := hbr.below halM
              have HQM := Lib.hid (HQ.out.more halM)
              by_cases hqw : qw = 0
              · subst hqw
                obtain ⟨r0, r1, r2, r3⟩ := hqr.c
                have f0 := hqr.f 0
                have f1 := hqr.f 1
                have w1 : IntKind.i64.wrap (qx + 2 ^ k) = (qx + 2 ^ k) := by rw [IntKind.wrap_i64]; generalize (2 : Int) ^ k = P at *; omega
                have w2 : IntKind.i64.wrap (qy) = (qy) := by rw [IntKind.wrap_i64]; generalize (2 : Int) ^ k = P at *; omega
                clear hbr hbr2 hqr hal halM hbrM gq gb
                go_wp2_with fail
                go_roundw
                case measure => decide
                case rel => exact ⟨2, by decide, by go_num, by rw [HNX.out, show stepB (bx, by_, bw, bh) (shift7 (qx, qy, 0, qh) (((1 % 2 : Nat) : Int) * 2 ^ k) (((1 / 2 : Nat) : Int) * 2 ^ k)) = (bx, by_, bw, bh) from if_pos rfl]; exact HQM.out⟩
              · have hqb : (qw == 0) = false := beq_eq_false_iff_ne.2 hqw
                obtain ⟨r0, r1, r2, r3⟩ := hqr.c
                have f0 := hqr.f 0
                have f1 := hqr.f 1
                have w1 : IntKind.i64.wrap (qx + 2 ^ k) = (qx + 2 ^ k) := by rw [IntKind.wrap_i64]; generalize (2 : Int) ^ k = P at *; omega
                have w2 : IntKind.i64.wrap (qy) = (qy) := by rw [IntKind.wrap_i64]; generalize (2 : Int) ^ k = P at *; omega
                have HBM := Lib.hid hbrM
                obtain ⟨b0', b1', b2', b3'⟩ := hbrM.c
                have g0 := hbrM.f 0
                have g1 := hbrM.f 1
                have g2 := hbrM.f 2
                have g3 := hbrM.f 3
                have a2 : IntKind.i64.wrap ((qx + 2 ^ k) + qw) = (qx + 2 ^ k) + qw := by rw [IntKind.wrap_i64]; generalize (2 : Int) ^ k = P at *; omega
                have a4 : IntKind.i64.wrap ((qy) + qh) = (qy) + qh := by rw [IntKind.wrap_i64]; generalize (2 : Int) ^ k = P at *; omega
                by_cases hbw : bw = 0
                · subst hbw
                  have a5 : IntKind.i64.wrap ((qx + 2 ^ k) + qw - (qx + 2 ^ k)) = qw := by rw [IntKind.wrap_i64]; generalize (2 : Int) ^ k = P at *; omega
                  have a6 : IntKind.i64.wrap ((qy) + qh - (qy)) = qh := by rw [IntKind.wrap_i64]; generalize (2 : Int) ^ k = P at *; omega
                  have w7 : IntKind.i64.wrap qw = qw := by rw [IntKind.wrap_i64]; generalize (2 : Int) ^ k = P at *; omega
                  have w8 : IntKind.i64.wrap qh = qh := by rw [IntKind.wrap_i64]; generalize (2 : Int) ^ k = P at *; omega
                  have HW7 := Lib.hid (And.intro w7 w8)
                  have HA5 := Lib.hid (And.intro a5 a6)
                  clear w7 w8 a5 a6
                  have hq5 : BR (wr.alloc (.cells #[.int .i64 (qx + 2 ^ k), .int .i64 (qy), .int .i64 qw, .int .i64 qh] 45)) wr.heap.size ((qx + 2 ^ k), (qy), qw, qh) := heap_alloc_new wr _
                  clear hbr hbr2 hqr hal halM hbrM gq gb
                  obtain ⟨w7, w8⟩ := HW7.out
                  obtain ⟨a5, a6⟩ := HA5.out
                  obtain ⟨w6, hw6⟩ : ∃ w6, (((((wr.alloc (.cells #[.int .i64 (qx + 2 ^ k), .int .i64 (qy), .int .i64 qw, .int .i64 qh] 45)).setCell ⟨xb + 1, 0, none⟩ (.int .i64 (qx + 2 ^ k))).setCell ⟨xb + 1, 1, none⟩ (.int .i64 (qy))).setCell ⟨xb + 1, 2, none⟩ (.int .i64 qw)).setCell ⟨xb + 1, 3, none⟩ (.int .i64 qh)) = w6 := ⟨_, rfl⟩
                  have HQ6 : BqAt wn w6 xb ((qx + 2 ^ k), (qy), qw, qh) := by rw [← hw6]; exact HQM.out.told ((qx + 2 ^ k), (qy), qw, qh)
                  have hq6 : BR w6 wr.heap.size ((qx + 2 ^ k), (qy), qw, qh) := by rw [← hw6]; exact (set4_other (by omega) _ _ _ _).trans hq5
                  have HW6 := Lib.hid hw6
                  have HQ6 := Lib.hid HQ6
                  obtain ⟨c0', c1', c2', c3'⟩ := HQ6.out.br.c
                  obtain ⟨d0', d1', d2', d3'⟩ := hq6.c
                  clear hw6 hq6 hq5 HBM
                  have k0 := HQ6.out.br.f 0
                  have k1 := HQ6.out.br.f 1
                  have k2 := HQ6.out.br.f 2
                  have k3 := HQ6.out.br.f 3
                  go_wp2_with (rw [HW6.out])
                  go_roundw
                  case measure => decide
                  case rel =>
                    have hst : stepB (bx, by_, 0, bh) (shift7 (qx, qy, qw, qh) (((1 % 2 : Nat) : Int) * 2 ^ k) (((1 / 2 : Nat) : Int) * 2 ^ k)) = ((qx + 2 ^ k), (qy), qw, qh) := by
                      unfold stepB shift7
                      dsimp only
                      rw [if_neg hqw]
                      simp only [if_pos (rfl : (0 : Int) = 0), Int.min_self, Int.max_self]
                      refine Prod.ext ?_ (Prod.ext ?_ (Prod.ext ?_ ?_)) <;> simp <;> omega
                    exact ⟨2, by decide, by go_num, by rw [HNX.out, hst]; exact HQ6.out.told ((qx + 2 ^ k), (qy), qw, qh)⟩
                · have hbb : (bw == 0) = false := beq_eq_false_iff_ne.2 hbw
                  have a1 : IntKind.i64.wrap (bx + bw) = bx + bw := by rw [IntKind.wrap_i64]; generalize (2 : Int) ^ k = P at *; omega
                  have a3 : IntKind.i64.wrap (by_ + bh) = by_ + bh := by rw [IntKind.wrap_i64]; generalize (2 : Int) ^ k = P at *; omega
                  have a5 : IntKind.i64.wrap (max (bx + bw) ((qx + 2 ^ k) + qw) - min bx (qx + 2 ^ k)) = max (bx + bw) ((qx + 2 ^ k) + qw) - min bx (qx + 2 ^ k) := by rw [IntKind.wrap_i64]; generalize (2 : Int) ^ k = P at *; omega
                  have a6 : IntKind.i64.wrap (max (by_ + bh) ((qy) + qh) - min by_ (qy)) = max (by_ + bh) ((qy) + qh) - min by_ (qy) := by rw [IntKind.wrap_i64]; generalize (2 : Int) ^ k = P at *; omega
                  have HST := Lib.hid (show stepB (bx, by_, bw, bh) (shift7 (qx, qy, qw, qh) (((1 % 2 : Nat) : Int) * 2 ^ k) (((1 / 2 : Nat) : Int) * 2 ^ k)) = (min bx (qx + 2 ^ k), min by_ (qy), max (bx + bw) ((qx + 2 ^ k) + qw) - min bx (qx + 2 ^ k), max (by_ + bh) ((qy) + qh) - min by_ (qy)) from by
                    unfold stepB shift7
                    dsimp only
                    rw [if_neg hqw]
                    simp only [if_neg hbw]
                    refine Prod.ext ?_ (Prod.ext ?_ (Prod.ext ?_ ?_)) <;> simp)
                  clear hbr hbr2 hqr hal halM hbrM gq gb
                  go_wp2_with fail
                  go_roundw
                  case measure => decide
                  case rel => exact ⟨2, by decide, by go_num, by rw [HNX.out, HST.out]; exact HQM.out.told (min bx (qx + 2 ^ k), min by_ (qy), max (bx + bw) ((qx + 2 ^ k) + qw) - min bx (qx + 2 ^ k), max (by_ + bh) ((qy) + qh) - min by_ (qy))⟩
            · have hk2w : IntKind.i64.wrap ((2 : Int) ^ k) = 2 ^ k := by rw [IntKind.wrap_i64]; generalize (2 : Int) ^ k = P at *; omega
              have halM := (Below.refl wr.heap.size wr).alloc (Nat.le_refl _) (.cells #[.int .i64 (qx), .int .i64 (qy + 2 ^ k), .int .i64 qw, .int .i64 qh] 45)
              have hbrM := hbr.below halM
              have HQM := Lib.hid (HQ.out.more halM)
              by_cases hqw : qw = 0
              · subst hqw
                obtain ⟨r0, r1, r2, r3⟩ := hqr.c
                have f0 := hqr.f 0
                have f1 := hqr.f 1
                have w1 : IntKind.i64.wrap (qx) = (qx) := by rw [IntKind.wrap_i64]; generalize (2 : Int) ^ k = P at *; omega
                have w2 : IntKind.i64.wrap (qy + 2 ^ k) = (qy + 2 ^ k) := by rw [IntKind.wrap_i64]; generalize (2 : Int) ^ k = P at *; omega
                clear hbr hbr2 hqr hal halM hbrM gq gb
                go_wp2_with fail
                go_roundw
                case measure => decide
                case rel => exact ⟨3, by decide, by go_num, by rw [HNX.out, show stepB (bx, by_, bw, bh) (shift7 (qx, qy, 0, qh) (((2 % 2 : Nat) : Int) * 2 ^ k) (((2 / 2 : Nat) : Int) * 2 ^ k)) = (bx, by_, bw, bh) from if_pos rfl]; exact HQM.out⟩
              · have hqb : (qw == 0) = false := beq_eq_false_iff_ne.2 hqw
                obtain ⟨r0, r1, r2, r3⟩ := hqr.c
                have f0 := hqr.f 0
                have f1 := hqr.f 1
                have w1 : IntKind.i64.wrap (qx) = (qx) := by rw [IntKind.wrap_i64]; generalize (2 : Int) ^ k = P at *; omega
                have w2 : IntKind.i64.wrap (qy + 2 ^ k) = (qy + 2 ^ k) := by rw [IntKind.wrap_i64]; generalize (2 : Int) ^ k = P at *; omega
                have HBM := Lib.hid hbrM
                obtain ⟨b0', b1', b2', b3'⟩ := hbrM.c
                have g0 := hbrM.f 0
                have g1 := hbrM.f 1
                have g2 := hbrM.f 2
                have g3 := hbrM.f 3
                have a2 : IntKind.i64.wrap ((qx) + qw) = (qx) + qw := by rw [IntKind.wrap_i64]; generalize (2 : Int) ^ k = P at *; omega
                have a4 : IntKind.i64.wrap ((qy + 2 ^ k) + qh) = (qy + 2 ^ k) + qh := by rw [IntKind.wrap_i64]; generalize (2 : Int) ^ k = P at *; omega
                by_cases hbw : bw = 0
                · subst hbw
                  have a5 : IntKind.i64.wrap ((qx) + qw - (qx)) = qw := by rw [IntKind.wrap_i64]; generalize (2 : Int) ^ k = P at *; omega
                  have a6 : IntKind.i64.wrap ((qy + 2 ^ k) + qh - (qy + 2 ^ k)) = qh := by rw [IntKind.wrap_i64]; generalize (2 : Int) ^ k = P at *; omega
                  have w7 : IntKind.i64.wrap qw = qw := by rw [IntKind.wrap_i64]; generalize (2 : Int) ^ k = P at *; omega
                  have w8 : IntKind.i64.wrap qh = qh := by rw [IntKind.wrap_i64]; generalize (2 : Int) ^ k = P at *; omega
                  have HW7 := Lib.hid (And.intro w7 w8)
                  have HA5 := Lib.hid (And.intro a5 a6)
                  clear w7 w8 a5 a6
                  have hq5 : BR (wr.alloc (.cells #[.int .i64 (qx), .int .i64 (qy + 2 ^ k), .int .i64 qw, .int .i64 qh] 45)) wr.heap.size ((qx), (qy + 2 ^ k), qw, qh) := heap_alloc_new wr _
                  clear hbr hbr2 hqr hal halM hbrM gq gb
                  obtain ⟨w7, w8⟩ := HW7.out
                  obtain ⟨a5, a6⟩ := HA5.out
                  obtain ⟨w6, hw6⟩ : ∃ w6, (((((wr.alloc (.cells #[.int .i64 (qx), .int .i64 (qy + 2 ^ k), .int .i64 qw, .int .i64 qh] 45)).setCell ⟨xb + 1, 0, none⟩ (.int .i64 (qx))).setCell ⟨xb + 1, 1, none⟩ (.int .i64 (qy + 2 ^ k))).setCell ⟨xb + 1, 2, none⟩ (.int .i64 qw)).setCell ⟨xb + 1, 3, none⟩ (.int .i64 qh)) = w6 := ⟨_, rfl⟩
                  have HQ6 : BqAt wn w6 xb ((qx), (qy + 2 ^ k), qw, qh) := by rw [← hw6]; exact HQM.out.told ((qx), (qy + 2 ^ k), qw, qh)
                  have hq6 : BR w6 wr.heap.size ((qx), (qy + 2 ^ k), qw, qh) := by rw [← hw6]; exact (set4_other (by omega) _ _ _ _).trans hq5
                  have HW6 := Lib.hid hw6
                  have HQ6 := Lib.hid HQ6
                  obtain ⟨c0', c1', c2', c3'⟩ := HQ6.out.br.c
                  obtain ⟨d0', d1', d2', d3'⟩ := hq6.c
                  clear hw6 hq6 hq5 HBM
                  have k0 := HQ6.out.br.f 0
                  have k1 := HQ6.out.br.f 1
                  have k2 := HQ6.out.br.f 2
                  have k3 := HQ6.out.br.f 3
                  go_wp2_with (rw [HW6.out])
                  go_roundw
                  case measure => decide
                  case rel =>
                    have hst : stepB (bx, by_, 0, bh) (shift7 (qx, qy, qw, qh) (((2 % 2 : Nat) : Int) * 2 ^ k) (((2 / 2 : Nat) : Int) * 2 ^ k)) = ((qx), (qy + 2 ^ k), qw, qh) := by
                      unfold stepB shift7
                      dsimp only
                      rw [if_neg hqw]
                      simp only [if_pos (rfl : (0 : Int) = 0), Int.min_self, Int.max_self]
                      refine Prod.ext ?_ (Prod.ext ?_ (Prod.ext ?_ ?_)) <;> simp <;> omega
                    exact ⟨3, by decide, by go_num, by rw [HNX.out, hst]; exact HQ6.out.told ((qx), (qy + 2 ^ k), qw, qh)⟩
                · have hbb : (bw == 0) = false := beq_eq_false_iff_ne.2 hbw
                  have a1 : IntKind.i64.wrap (bx + bw) = bx + bw := by rw [IntKind.wrap_i64]; generalize (2 : Int) ^ k = P at *; omega
                  have a3 : IntKind.i64.wrap (by_ + bh) = by_ + bh := by rw [IntKind.wrap_i64]; generalize (2 : Int) ^ k = P at *; omega
                  have a5 : IntKind.i64.wrap (max (bx + bw) ((qx) + qw) - min bx (qx)) = max (bx + bw) ((qx) + qw) - min bx (qx) := by rw [IntKind.wrap_i64]; generalize (2 : Int) ^ k = P at *; omega
                  have a6 : IntKind.i64.wrap (max (by_ + bh) ((qy + 2 ^ k) + qh) - min by_ (qy + 2 ^ k)) = max (by_ + bh) ((qy + 2 ^ k) + qh) - min by_ (qy + 2 ^ k) := by rw [IntKind.wrap_i64]; generalize (2 : Int) ^ k = P at *; omega
                  have HST := Lib.hid (show stepB (bx, by_, bw, bh) (shift7 (qx, qy, qw, qh) (((2 % 2 : Nat) : Int) * 2 ^ k) (((2 / 2 : Nat) : Int) * 2 ^ k)) = (min bx (qx), min by_ (qy + 2 ^ k), max (bx + bw) ((qx) + qw) - min bx (qx), max (by_ + bh) ((qy + 2 ^ k) + qh) - min by_ (qy + 2 ^ k)) from by
                    unfold stepB shift7
                    dsimp only
                    rw [if_neg hqw]
                    simp only [if_neg hbw]
                    refine Prod.ext ?_ (Prod.ext ?_ (Prod.ext ?_ ?_)) <;> simp)
                  clear hbr hbr2 hqr hal halM hbrM gq gb
                  go_wp2_with fail
                  go_roundw
                  case measure => decide
                  case rel => exact ⟨3, by decide, by go_num, by rw [HNX.out, HST.out]; exact HQM.out.told (min bx (qx), min by_ (qy + 2 ^ k), max (bx + bw) ((qx) + qw) - min bx (qx), max (by_ + bh) ((qy + 2 ^ k) + qh) - min by_ (qy + 2 ^ k))⟩
            · have hk2w : IntKind.i64.wrap ((2 : Int) ^ k) = 2 ^ k := by rw [IntKind.wrap_i64]; generalize (2 : Int) ^ k = P at *; omega
              have halM := (Below.refl wr.heap.size wr).alloc (Nat.le_refl _) (.cells #[.int .i64 (qx + 2 ^ k), .int .i64 (qy + 2 ^ k), .int .i64 qw, .int .i64 qh] 45)
              have hbrM := hbr.below halM
              have HQM := Lib.hid (HQ.out.more halM)
              by_cases hqw : qw = 0
              · subst hqw
                obtain ⟨r0, r1, r2, r3⟩ := hqr.c
                have f0 := hqr.f 0
                have f1 := hqr.f 1
                have w1 : IntKind.i64.wrap (qx + 2 ^ k) = (qx + 2 ^ k) := by rw [IntKind.wrap_i64]; generalize (2 : Int) ^ k = P at *; omega
                have w2 : IntKind.i64.wrap (qy + 2 ^ k) = (qy + 2 ^ k) := by rw [IntKind.wrap_i64]; generalize (2 : Int) ^ k = P at *; omega
                clear hbr hbr2 hqr hal halM hbrM gq gb
                go_wp2_with fail
                go_roundw
                case measure => decide
                case rel => exact ⟨4, by decide, by go_num, by rw [HNX.out, show stepB (bx, by_, bw, bh) (shift7 (qx, qy, 0, qh) (((3 % 2 : Nat) : Int) * 2 ^ k) (((3 / 2 : Nat) : Int) * 2 ^ k)) = (bx, by_, bw, bh) from if_pos rfl]; exact HQM.out⟩
              · have hqb : (qw == 0) = false := beq_eq_false_iff_ne.2 hqw
                obtain ⟨r0, r1, r2, r3⟩ := hqr.c
                have f0 := hqr.f 0
                have f1 := hqr.f 1
                have w1 : IntKind.i64.wrap (qx + 2 ^ k) = (qx + 2 ^ k) := by rw [IntKind.wrap_i64]; generalize (2 : Int) ^ k = P at *; omega
                have w2 : IntKind.i64.wrap (qy + 2 ^ k) = (qy + 2 ^ k) := by rw [IntKind.wrap_i64]; generalize (2 : Int) ^ k = P at *; omega
                have HBM := Lib.hid hbrM
                obtain ⟨b0', b1', b2', b3'⟩ := hbrM.c
                have g0 := hbrM.f 0
                have g1 := hbrM.f 1
                have g2 := hbrM.f 2
                have g3 := hbrM.f 3
                have a2 : IntKind.i64.wrap ((qx + 2 ^ k) + qw) = (qx + 2 ^ k) + qw := by rw [IntKind.wrap_i64]; generalize (2 : Int) ^ k = P at *; omega
                have a4 : IntKind.i64.wrap ((qy + 2 ^ k) + qh) = (qy + 2 ^ k) + qh := by rw [IntKind.wrap_i64]; generalize (2 : Int) ^ k = P at *; omega
                by_cases hbw : bw = 0
                · subst hbw
                  have a5 : IntKind.i64.wrap ((qx + 2 ^ k) + qw - (qx + 2 ^ k)) = qw := by rw [IntKind.wrap_i64]; generalize (2 : Int) ^ k = P at *; omega
                  have a6 : IntKind.i64.wrap ((qy + 2 ^ k) + qh - (qy + 2 ^ k)) = qh := by rw [IntKind.wrap_i64]; generalize (2 : Int) ^ k = P at *; omega
                  have w7 : IntKind.i64.wrap qw = qw := by rw [IntKind.wrap_i64]; generalize (2 : Int) ^ k = P at *; omega
                  have w8 : IntKind.i64.wrap qh = qh := by rw [IntKind.wrap_i64]; generalize (2 : Int) ^ k = P at *; omega
                  have HW7 := Lib.hid (And.intro w7 w8)
                  have HA5 := Lib.hid (And.intro a5 a6)
                  clear w7 w8 a5 a6
                  have hq5 : BR (wr.alloc (.cells #[.int .i64 (qx + 2 ^ k), .int .i64 (qy + 2 ^ k), .int .i64 qw, .int .i64 qh] 45)) wr.heap.size ((qx + 2 ^ k), (qy + 2 ^ k), qw, qh) := heap_alloc_new wr _
                  clear hbr hbr2 hqr hal halM hbrM gq gb
                  obtain ⟨w7, w8⟩ := HW7.out
                  obtain ⟨a5, a6⟩ := HA5.out
                  obtain ⟨w6, hw6⟩ : ∃ w6, (((((wr.alloc (.cells #[.int .i64 (qx + 2 ^ k), .int .i64 (qy + 2 ^ k), .int .i64 qw, .int .i64 qh] 45)).setCell ⟨xb + 1, 0, none⟩ (.int .i64 (qx + 2 ^ k))).setCell ⟨xb + 1, 1, none⟩ (.int .i64 (qy + 2 ^ k))).setCell ⟨xb + 1, 2, none⟩ (.int .i64 qw)).setCell ⟨xb + 1, 3, none⟩ (.int .i64 qh)) = w6 := ⟨_, rfl⟩
                  have HQ6 : BqAt wn w6 xb ((qx + 2 ^ k), (qy + 2 ^ k), qw, qh) := by rw [← hw6]; exact HQM.out.told ((qx + 2 ^ k), (qy + 2 ^ k), qw, qh)
                  have hq6 : BR w6 wr.heap.size ((qx + 2 ^ k), (qy + 2 ^ k), qw, qh) := by rw [← hw6]; exact (set4_other (by omega) _ _ _ _).trans hq5
                  have HW6 := Lib.hid hw6
                  have HQ6 := Lib.hid HQ6
                  obtain ⟨c0', c1', c2', c3'⟩ := HQ6.out.br.c
                  obtain ⟨d0', d1', d2', d3'⟩ := hq6.c
                  clear hw6 hq6 hq5 HBM
                  have k0 := HQ6.out.br.f 0
                  have k1 := HQ6.out.br.f 1
                  have k2 := HQ6.out.br.f 2
                  have k3 := HQ6.out.br.f 3
                  go_wp2_with (rw [HW6.out])
                  go_roundw
                  case measure => decide
                  case rel =>
                    have hst : stepB (bx, by_, 0, bh) (shift7 (qx, qy, qw, qh) (((3 % 2 : Nat) : Int) * 2 ^ k) (((3 / 2 : Nat) : Int) * 2 ^ k)) = ((qx + 2 ^ k), (qy + 2 ^ k), qw, qh) := by
                      unfold stepB shift7
                      dsimp only
                      rw [if_neg hqw]
                      simp only [if_pos (rfl : (0 : Int) = 0), Int.min_self, Int.max_self]
                      refine Prod.ext ?_ (Prod.ext ?_ (Prod.ext ?_ ?_)) <;> simp <;> omega
                    exact ⟨4, by decide, by go_num, by rw [HNX.out, hst]; exact HQ6.out.told ((qx + 2 ^ k), (qy + 2 ^ k), qw, qh)⟩
                · have hbb : (bw == 0) = false := beq_eq_false_iff_ne.2 hbw
                  have a1 : IntKind.i64.wrap (bx + bw) = bx + bw := by rw [IntKind.wrap_i64]; generalize (2 : Int) ^ k = P at *; omega
                  have a3 : IntKind.i64.wrap (by_ + bh) = by_ + bh := by rw [IntKind.wrap_i64]; generalize (2 : Int) ^ k = P at *; omega
                  have a5 : IntKind.i64.wrap (max (bx + bw) ((qx + 2 ^ k) + qw) - min bx (qx + 2 ^ k)) = max (bx + bw) ((qx + 2 ^ k) + qw) - min bx (qx + 2 ^ k) := by rw [IntKind.wrap_i64]; generalize (2 : Int) ^ k = P at *; omega
                  have a6 : IntKind.i64.wrap (max (by_ + bh) ((qy + 2 ^ k) + qh) - min by_ (qy + 2 ^ k)) = max (by_ + bh) ((qy + 2 ^ k) + qh) - min by_ (qy + 2 ^ k) := by rw [IntKind.wrap_i64]; generalize (2 : Int) ^ k = P at *; omega
                  have HST := Lib.hid (show stepB (bx, by_, bw, bh) (shift7 (qx, qy, qw, qh) (((3 % 2 : Nat) : Int) * 2 ^ k) (((3 / 2 : Nat) : Int) * 2 ^ k)) = (min bx (qx + 2 ^ k), min by_ (qy + 2 ^ k), max (bx + bw) ((qx + 2 ^ k) + qw) - min bx (qx + 2 ^ k), max (by_ + bh) ((qy + 2 ^ k) + qh) - min by_ (qy + 2 ^ k)) from by
                    unfold stepB shift7
                    dsimp only
                    rw [if_neg hqw]
                    simp only [if_neg hbw]
                    refine Prod.ext ?_ (Prod.ext ?_ (Prod.ext ?_ ?_)) <;> simp)
                  clear hbr hbr2 hqr hal halM hbrM gq gb
                  go_wp2_with fail
                  go_roundw
                  case measure => decide
                  case rel => exact ⟨4, by decide, by go_num, by rw [HNX.out, HST.out]; exact HQM.out.told (min bx (qx + 2 ^ k), min by_ (qy + 2 ^ k), max (bx + bw) ((qx + 2 ^ k) + qw) - min bx (qx + 2 ^ k), max (by_ + bh) ((qy + 2 ^ k) + qh) - min by_ (qy + 2 ^ k))⟩
          · obtain rfl : t = 4 := by omega
            have htz : ¬ ((4 : Nat) : Int) < 4 := by decide
            obtain ⟨bx, hbb⟩ : ∃ b, b = empB (boxTo l k j 4) := ⟨_, rfl⟩
            rw [← hbb] at HQ HBX
            obtain ⟨b0', b1', b2', b3'⟩ := HQ.out.br.c
            have hsz := HQ.out.sz
            have hbel := HQ.out.bel
            have hsne := HSN.out
            obtain ⟨v', w', hrun, hown', hbel'⟩ := pushB_any (w := wr) bx (B := w.heap.size + 1) (by omega) (HOn.out.more hsne.symm hbel) (by rw [bxs_len]; omega)
            rw [← HBX.out] at hown'
            have HRUN := Lib.hid hrun
            have HO := Lib.hid hown'
            have HBF := Lib.hid ((HBn.out.more hbel (by omega)).more hbel' (Nat.le_refl _))
            clear hrun hown' hbel' hbel hsne hbb
            go_wp2_with (at_builtin; refine Lib.wpList_append_run _ rfl (.tmp 117) (.tmp 119) 77 77 rfl _ _ rfl rfl _ _ HRUN.out ?_)
            go_roundw
            case measure => simp [intOf]; omega
            case rel => exact ⟨j + 1, by omega, by go_num, HO.out, HBF.out⟩
    · obtain rfl : j = m + 1 := by omega
      have hltz : ¬ (((m + 1 : Nat)) : Int) ≤ (m : Int) := by omega
      have hown := HK.out
      obtain ⟨g, cap, rfl, hg1, hg2, hat⟩ := hown.some_ (by rw [bxs_len]; omega)
      rw [bxs_len] at hat
      have HAT := Lib.hid hat
      have HBL := Lib.hid HB.out.bel
      clear HK hown hat
      go_wp2_with fail
      go_ret
      refine ⟨g, 0, cap, fun i => empB (boxF l i), by rw [bxs_len]; rfl, fun i hi => ⟨zero_w _, fun hn => if_neg hn⟩, fun i hi => ?_, HBL.out⟩
      have := HAT.out i (by omega)
      rw [bxs_get l (by omega)] at this
      rw [Nat.zero_add]
      exact this
end Go.Proofs.YtmmaeikeafemaaaGreat
