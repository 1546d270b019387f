/-
  LeapMirror: a set that is turned by half, about the middle, runs to what is turned so.
-/
import Derived.Test.YtbibbonbhamcfaaB27
import Derived.Test.YtbibbonbhamcfaaB14
import Derived.Test.YtbibbonbhamcfaaB13
import Derived.Test.YtbibbonbhamcfaaB21
import Derived.Test.YtbibbonbhamcfaaB24
import Derived.Test.YtbibbonbhamcfaaB20
import Derived.Test.YtbibbonbhamcfaaB08
import Derived.Test.YtbibbonbhamcfaaB10
namespace Go.Proofs.Ytbibbonbhamcfaa
set_option maxRecDepth 100000
set_option linter.unusedVariables false
set_option linter.unusedSimpArgs false
open Go.RowKit Go.Sort

theorem neg_w {x : Int} (h : -1000 ≤ x ∧ x ≤ 1000) : IntKind.i64.wrap (-x) = -x := by rw [IntKind.wrap_i64]; omega
set_option maxHeartbeats 16000000 in
theorem leapMirror_law (B : Option Addr) (raw : List (Int × Int)) (d : Nat) (count : Int) (w : World) (hB : RdC w w.heap.size B raw) (hBl : raw.length ≤ 9223372036854775807) (hBc : raw.length ≤ d) (hBw : ∀ p ∈ raw, Cel.I64 p.1 ∧ Cel.I64 p.2) (hI : I64 count) :
    Calls Try.prog 11 #[.slice B raw.length d, .int .i64 count] w fun e w' => e = .returned (.bool true) ∧ Below w.heap.size w w' := by
  obtain ⟨c, hpk, hc31⟩ : ∃ c : Nat, (∀ W, Calls Try.prog 14 #[.int .i64 count, .int .i64 31] W fun e w' => e = .returned (.int .i64 (c : Int)) ∧ W = w') ∧ c < 31 := by
    have hq := pickI_bd count 31 (by decide)
    refine ⟨(pickI count 31).toNat, fun W => ?_, by omega⟩
    rw [Int.toNat_of_nonneg hq.1]
    exact pick9_any count 31 W hI.1 hI.2 (by decide) (by decide)
  have hset1 := fun W hW => Cel.set_any B raw d W hW hBl hBc hBw
  obtain ⟨hS1, hS2, _⟩ := raw_set raw
  have hbd : ∀ s ∈ Cel.rawSet raw, -8 ≤ s.1 ∧ s.1 ≤ 7 ∧ -8 ≤ s.2 ∧ s.2 ≤ 7 := fun s hs => Cel.rawTo_bd ((Cel.mem_setL _ _).1 hs)
  obtain ⟨L, hLL⟩ : ∃ L, L = Cel.rawSet raw := ⟨_, rfl⟩
  rw [← hLL] at hset1 hS1 hS2 hbd
  obtain ⟨R, hR⟩ : ∃ R : Int, R = 9000 := ⟨_, rfl⟩
  obtain ⟨s, n, t, k, a, p1, e1, b, p2, e2, hmk⟩ := mir_all hR L hS1 hS2 hbd hc31
  have hci : I64 (c : Int) := ⟨by omega, by omega⟩
  have HCI := Lib.hid hci
  have HMK := Lib.hid hmk
  have HRV := Lib.hid hR
  have HBD := Lib.hid hbd
  have HL60 := Lib.hid hS2
  have HB := Lib.hid hB
  clear hmk hR hbd hS1 hS2 hLL hB hBw hBl hBc hI hc31 hci
  go_enter Try.func11, Try.ntmps11
  go_wp2_with fail
  refine (awake9_any w).mono ?_
  rintro r w1 ⟨rfl, hb1⟩
  have HB1 := Lib.hid hb1
  have hset := hset1 w1 ((HB.out.below hb1 (Nat.le_refl _)).more hb1.size)
  clear hb1 hset1 HB
  go_wp2_with fail
  refine hset.mono ?_
  rintro r w2 ⟨v2, rfl, ⟨A2, c2, rfl, hcap2, hR2⟩, hb2⟩
  have HX2 := Lib.hid hR2
  have HB2 := Lib.hid (Qt.more HB1.out HB1.out.size hb2)
  clear hset hR2 hb2 HB1
  go_wp2_with fail
  go_loopw [7, 8] (fun v u wr => ∃ (k : Nat) (A1 : Option Addr) (c1 : Nat), k ≤ L.length ∧ u = .int .i64 k ∧ v = .slice A1 (mirTo L k).length c1 ∧ (mirTo L k).length ≤ c1 ∧ Hid (RdC wr wr.heap.size A1 (mirTo L k) ∧ Below w2.heap.size w2 wr)) (fun _ u _ => L.length - (intOf u).toNat)
  case atStart => exact ⟨0, none, 0, Nat.zero_le _, rfl, rfl, Nat.le_refl _, (show Hid _ from ⟨Cel.Rd.nil _ _ _, Below.refl _ _⟩)⟩
  case round =>
    obtain ⟨j, A1, c1, hjl, rfl, rfl, hc1, HH⟩ := hrel
    have hsl := Nat.le_trans (mir_len L j) HL60.out
    have hL60 := HL60.out
    by_cases hlt : j < L.length
    · have hltz : (j : Int) < (L.length : Int) := by omega
      have hst := mir_succ hlt
      have hxb := HBD.out _ (Cel.getD_mem hlt)
      obtain ⟨bb, off, rfl, hbB, hcell⟩ := Cel.Rd.at_ HX2.out (by omega)
      obtain ⟨k0, k1⟩ := hcell j hlt
      generalize L.getD j (0, 0) = xy at *
      obtain ⟨x, y⟩ := xy
      simp only at hxb hst k0 k1
      have q0 := Qt.cell_in (Qt.keep HH.out.2 k0)
      have q1 := Qt.cell_in (Qt.keep HH.out.2 k1)
      have hwx : IntKind.i64.wrap (-x) = -x := neg_w (by omega)
      have hwy : IntKind.i64.wrap (-y) = -y := neg_w (by omega)
      have HST := Lib.hid hst
      generalize mirTo L j = S at *
      clear hcell k0 k1 hst hxb hbB
      go_wp2_with fail
      refine Qt.below_tail 14 (by kernel_rfl) (by kernel_rfl) ?_
      simp only [List.take_succ_cons, List.take_zero, List.drop_succ_cons, List.drop_zero]
      iterate 14 (go_big_quiet_step (fail))
      refine wpQuiet_nil ?_
      intro w3 hb3
      have HR3 := (Cel.Rd.below HH.out.1 hb3 (Nat.le_refl _)).more hb3.size
      have hp := Cel.put_any A1 S c1 (-x, -y) w3 HR3 (by omega) hc1
      rw [← HST.out] at hp
      have HB3 := Lib.hid (Qt.more HH.out.2 HH.out.2.size hb3)
      clear HR3 hb3 q0 q1 hwx hwy
      go_wp2_with (go_at_call 24; refine hp.mono ?_; rintro e w4 ⟨v4, rfl, hown4, hb4⟩)
      obtain ⟨A4, c4, rfl, hc4, hR4⟩ := Cel.Own.rd hown4
      have HN : Hid (RdC w4 w4.heap.size A4 (mirTo L (j + 1)) ∧ Below w2.heap.size w2 w4) := ⟨hR4, Qt.more HB3.out HB3.out.size hb4⟩
      clear hp hown4 hR4 hb4
      go_wp2_with fail
      go_roundw
      case measure => simp [intOf]; omega
      case rel => exact ⟨j + 1, A4, c4, by omega, by go_num, rfl, hc4, HN⟩
    · have hz : ¬ (j : Int) < (L.length : Int) := by omega
      have hjL : j = L.length := by omega
      subst hjL
      have hnew := fun W => refNew6_any 9000 W
      have hnl : newL 9000 = new6 := by decide
      have hnr : newRoom 9000 = R := by rw [HRV.out]; decide
      rw [hnl, hnr] at hnew
      have HM2 := Lib.hid HH.out.1
      have HX3 := Lib.hid ((Cel.Rd.below HX2.out HH.out.2 (Nat.le_refl _)).more HH.out.2.size)
      have HB3 := Lib.hid (Qt.more HB2.out HB2.out.size HH.out.2)
      have HML := Lib.hid (And.intro hsl hc1)
      have hmk2 := HMK.out.mk2
      have HMK2 := Lib.hid hmk2
      have hfm : (mirTo L L.length).length ≤ 900000 := by omega
      have HFM := Lib.hid hfm
      generalize mirTo L L.length = M at *
      clear hnl hnr HH HX2 HB2 hsl hc1 hmk2 hfm
      go_wp2_with fail
      refine (hnew _).mono ?_
      intro r w4 h
      obtain ⟨A4, c4, rfl, hcap4, N4, hb4⟩ := storeR_box h
      have HX4 := Lib.hid ((Cel.Rd.below HX3.out hb4 (Nat.le_refl _)).more hb4.size)
      have HM4 := Lib.hid ((Cel.Rd.below HM2.out hb4 (Nat.le_refl _)).more hb4.size)
      have HB4 := Lib.hid (Qt.more HB3.out HB3.out.size hb4)
      have hc := refMake7_any A4 new6 c4 R A2 L c2 5 w4 N4 (by decide) hcap4 (lev_bd (new_right (room := R) (by have := HRV.out; omega) (by have := HRV.out; omega))) HX4.out (by have := HL60.out; omega) hcap2
      rw [HMK.out.mk1] at hc
      unfold storeV at hc
      clear h hb4 hnew HB3 HM2 HX3 N4
      go_wp2_with fail
      refine hc.mono ?_
      intro r w5 h
      obtain ⟨A5, c5, rfl, hcap5, N5, hb5⟩ := putR_box h
      have hal := (Below.refl w5.heap.size w5).alloc (Nat.le_refl _) (.cells #[.slice A5 s.length c5, .int .i64 R] 26)
      have hb' := Qt.more (B := w4.heap.size) hb5 hb5.size hal
      have HS5 := Lib.hid (stB_new N5 hcap5 R)
      have HB5 := Lib.hid (Qt.more HB4.out HB4.out.size hb')
      have HM5 := Lib.hid ((Cel.Rd.below HM4.out hb' (Nat.le_refl _)).more hb'.size)
      have hml := right_len HMK.out.rs
      clear h hc hb5 hb' N5 hal HB4 HM4 HX4
      have s0 := HS5.out.s0
      have s1 := HS5.out.s1
      go_wp2_with fail
      clear s0 s1
      generalize (w5.alloc (.cells #[.slice A5 s.length c5, .int .i64 R] 26)) = v3 at *
      generalize w5.heap.size = b3 at *
      have hc := refMake7_any A5 s c5 R A1 M c1 5 v3 HS5.out.rd (by omega) hcap5 (lev_bd HMK.out.rs) HM5.out HFM.out HML.out.2
      rw [HMK2.out] at hc
      unfold storeV at hc
      refine hc.mono ?_
      intro r w6 h
      obtain ⟨A4, c4, rfl, hcap4, N4, hb4⟩ := putR_box h
      have hal := (Below.refl w6.heap.size w6).alloc (Nat.le_refl _) (.cells #[.slice A4 t.length c4, .int .i64 R] 26)
      have hb' := Qt.more (B := v3.heap.size) hb4 hb4.size hal
      have HS4 := Lib.hid (stB_new N4 hcap4 R)
      have HB4 := Lib.hid (Qt.more HB5.out HB5.out.size hb')
      have htl := right_len HMK.out.rt
      have hal4 := right_len HMK.out.ra
      clear h hc hb4 hb' N4 hal HB5 HS5 HM5 hml
      have s0 := HS4.out.s0
      have s1 := HS4.out.s1
      go_wp2_with fail
      clear s0 s1
      generalize (w6.alloc (.cells #[.slice A4 t.length c4, .int .i64 R] 26)) = v4 at *
      generalize w6.heap.size = b4 at *
      have hrn := fun W hW => run9_any A4 t c4 R n c W HCI.out hW (by omega) hcap4 (lev_bd HMK.out.rt)
      rw [HMK.out.r1] at hrn
      unfold storeV at hrn
      refine region_calm_to (fun W => Below v4.heap.size v4 W) (fun (a0 a9 : Act) (w9 : World) => ∃ (A9 : Option Addr) (c9 b9 : Nat), a9 = ((((((((((((a0.put (some 66) (.int .i64 (n : Int))).put (some 67) (.int .i64 count)).put (some 68) (.int .i64 (c : Int))).put (some 65) (.agg #[.slice A4 t.length c4, .int .i64 R])).put (some 69) (.tuple #[.agg #[.slice A9 a.length c9, .int .i64 R], .int .i64 (p1 : Int), .int .i64 e1])).put (some 64) (.tuple #[.agg #[.slice A9 a.length c9, .int .i64 R], .int .i64 (p1 : Int), .int .i64 e1])).put (some 70) (.agg #[.slice A9 a.length c9, .int .i64 R])).put (some 71) (.int .i64 (p1 : Int))).put (some 72) (.int .i64 e1)).put (some 15) (.pointer (some ⟨b9, 0, none⟩))).put (some 16) (.int .i64 (p1 : Int))).put (some 17) (.int .i64 e1)) ∧ StB w9 b9 A9 a c9 R ∧ Below v4.heap.size v4 w9) (.calm 1 (.calm 2 (.calm 3 (.calm 0 (.two 4 9 (.calm 5 (.calm 6 (.calm 7 (.calm 8 (.only 9 (.only 10 (.only 11 (.only 12 .done)))))))) (.only 4 (.calm 5 (.calm 6 (.calm 7 (.calm 8 (.only 10 (.only 11 (.only 12 .done))))))))))))) (by kernel_rfl) (by kernel_rfl) (by kernel_rfl) (by rfl) (below_drew _) ?_ ?_
      · skip
        refine ⟨_, _, .int .i64 (n : Int), rfl, rfl, ⟨rfl, fun W hW => by first | exact ⟨rfl, rfl⟩ | (simp only [Act.eval, execOp]; go_simp; try exact ⟨rfl, rfl⟩)⟩, ?_⟩
        simp only [Act.put, List.setIfInBounds_toArray, List.set_cons_succ, List.set_cons_zero]
        refine ⟨_, _, .int .i64 count, rfl, rfl, ⟨rfl, fun W hW => by first | exact ⟨rfl, rfl⟩ | (simp only [Act.eval, execOp]; go_simp; try exact ⟨rfl, rfl⟩)⟩, ?_⟩
        simp only [Act.put, List.setIfInBounds_toArray, List.set_cons_succ, List.set_cons_zero]
        refine ⟨_, _, .int .i64 (c : Int), rfl, rfl, ⟨rfl, fun W hW => by simp only [execOp]; go_simp; exact (hpk W).mono fun e w1 h => ⟨h.1, h.2.symm⟩⟩, ?_⟩
        simp only [Act.put, List.setIfInBounds_toArray, List.set_cons_succ, List.set_cons_zero]
        refine ⟨_, _, (.agg #[.slice A4 t.length c4, .int .i64 R]), rfl, rfl, ⟨rfl, fun W hW => by have s0 := (HS4.out.below hW).s0; have s1 := (HS4.out.below hW).s1; simp only [execOp]; go_simp; done⟩, ?_⟩
        simp only [Act.put, List.setIfInBounds_toArray, List.set_cons_succ, List.set_cons_zero]
        constructor
        · refine ⟨_, rfl, ?_⟩
          go_wp2_with fail
          refine (hrn _ (HS4.out.rd.below (below_drew _))).mono ?_
          intro e w9 h
          obtain ⟨A9, c9, rfl, hcap9, N9, hb⟩ := putR_box h
          have hBc := Qt.more (below_drew v4) (Nat.le_refl _) hb
          have hS9 := stB_new N9 hcap9 R
          have hB9 := hBc.alloc hBc.size (.cells #[.slice A9 a.length c9, .int .i64 R] 26)
          have hB8 := hBc.alloc hBc.size (.cells #[.slice none 0 0, .int .i64 0] 26)
          clear h hb
          go_wp2_with fail
          refine ⟨rfl, hBc, ?_⟩
          refine ⟨_, _, (.tuple #[.agg #[.slice A9 a.length c9, .int .i64 R], .int .i64 (p1 : Int), .int .i64 e1]), rfl, rfl, ⟨rfl, fun W hW => by first | exact ⟨rfl, rfl⟩ | (simp only [Act.eval, execOp]; go_simp; try exact ⟨rfl, rfl⟩)⟩, ?_⟩
          simp only [Act.put, List.setIfInBounds_toArray, List.set_cons_succ, List.set_cons_zero]
          refine ⟨_, _, (.agg #[.slice A9 a.length c9, .int .i64 R]), rfl, rfl, ⟨rfl, fun W hW => by first | exact ⟨rfl, rfl⟩ | (simp only [Act.eval, execOp]; go_simp; try exact ⟨rfl, rfl⟩)⟩, ?_⟩
          simp only [Act.put, List.setIfInBounds_toArray, List.set_cons_succ, List.set_cons_zero]
          refine ⟨_, _, .int .i64 (p1 : Int), rfl, rfl, ⟨rfl, fun W hW => by first | exact ⟨rfl, rfl⟩ | (simp only [Act.eval, execOp]; go_simp; try exact ⟨rfl, rfl⟩)⟩, ?_⟩
          simp only [Act.put, List.setIfInBounds_toArray, List.set_cons_succ, List.set_cons_zero]
          refine ⟨_, _, .int .i64 e1, rfl, rfl, ⟨rfl, fun W hW => by first | exact ⟨rfl, rfl⟩ | (simp only [Act.eval, execOp]; go_simp; try exact ⟨rfl, rfl⟩)⟩, ?_⟩
          simp only [Act.put, List.setIfInBounds_toArray, List.set_cons_succ, List.set_cons_zero]
          refine ⟨_, rfl, ?_⟩
          go_wp2_with fail
          refine ⟨rfl, hB8, ?_⟩
          refine ⟨_, rfl, ?_⟩
          go_wp2_with fail
          refine ⟨rfl, hB9, ?_⟩
          refine ⟨_, rfl, ?_⟩
          go_wp2_with fail
          refine ⟨rfl, hB9, ?_⟩
          refine ⟨_, rfl, ?_⟩
          go_wp2_with fail
          refine ⟨rfl, hB9, ?_⟩
          show ∃ (A9 : Option Addr) (c9 b9 : Nat), _
          refine ⟨A9, c9, w9.heap.size, ?_, hS9, hB9⟩
          first | rfl | simp only [Act.put, List.setIfInBounds_toArray, List.set_cons_succ, List.set_cons_zero]
        · refine ⟨_, rfl, ?_⟩
          have hB8 := (below_drew v4).alloc (Nat.le_refl _) (.cells #[.slice none 0 0, .int .i64 0] 26)
          have hrow8 : (v4.drew.alloc (.cells #[.slice none 0 0, .int .i64 0] 26 (0, 0))).heap[v4.heap.size]? = _ := heap_alloc_new v4.drew (.cells #[.slice none 0 0, .int .i64 0] 26 (0, 0))
          go_wp2_with fail
          refine ⟨rfl, hB8, ?_⟩
          refine ⟨_, rfl, ?_⟩
          go_wp2_with fail
          refine (hrn _ (HS4.out.rd.below hB8)).mono ?_
          intro e w9 h
          obtain ⟨A9, c9, rfl, hcap9, N9, hb⟩ := putR_box h
          have hBc := Qt.more hB8 hB8.size hb
          have hrow9 := (hb.block _ (lt_heap6 hrow8)).trans hrow8
          have hS9 := stB_put (room := R) hrow9 N9 hcap9
          have hB9 := (hBc.setCell (p := ⟨v4.heap.size, 0, none⟩) (Nat.le_refl _) (.slice A9 a.length c9)).setCell (p := ⟨v4.heap.size, 1, none⟩) (Nat.le_refl _) (.int .i64 R)
          have f0 : w9.frozen? ⟨v4.heap.size, 0, none⟩ = false := Lib.frozen_of_heap hrow9 0
          have f1 : w9.frozen? ⟨v4.heap.size, 1, none⟩ = false := Lib.frozen_of_heap hrow9 1
          have g0 : w9.cell? ⟨v4.heap.size, 0, none⟩ = some (.slice none 0 0) := by rw [Lib.cell_of_heap hrow9]; rfl
          have g1 : w9.cell? ⟨v4.heap.size, 1, none⟩ = some (.int .i64 0) := by rw [Lib.cell_of_heap hrow9]; rfl
          clear h hb hrow9 hrow8
          go_wp2_with fail
          refine ⟨rfl, hBc, ?_⟩
          refine ⟨_, _, (.tuple #[.agg #[.slice A9 a.length c9, .int .i64 R], .int .i64 (p1 : Int), .int .i64 e1]), rfl, rfl, ⟨rfl, fun W hW => by first | exact ⟨rfl, rfl⟩ | (simp only [Act.eval, execOp]; go_simp; try exact ⟨rfl, rfl⟩)⟩, ?_⟩
          simp only [Act.put, List.setIfInBounds_toArray, List.set_cons_succ, List.set_cons_zero]
          refine ⟨_, _, (.agg #[.slice A9 a.length c9, .int .i64 R]), rfl, rfl, ⟨rfl, fun W hW => by first | exact ⟨rfl, rfl⟩ | (simp only [Act.eval, execOp]; go_simp; try exact ⟨rfl, rfl⟩)⟩, ?_⟩
          simp only [Act.put, List.setIfInBounds_toArray, List.set_cons_succ, List.set_cons_zero]
          refine ⟨_, _, .int .i64 (p1 : Int), rfl, rfl, ⟨rfl, fun W hW => by first | exact ⟨rfl, rfl⟩ | (simp only [Act.eval, execOp]; go_simp; try exact ⟨rfl, rfl⟩)⟩, ?_⟩
          simp only [Act.put, List.setIfInBounds_toArray, List.set_cons_succ, List.set_cons_zero]
          refine ⟨_, _, .int .i64 e1, rfl, rfl, ⟨rfl, fun W hW => by first | exact ⟨rfl, rfl⟩ | (simp only [Act.eval, execOp]; go_simp; try exact ⟨rfl, rfl⟩)⟩, ?_⟩
          simp only [Act.put, List.setIfInBounds_toArray, List.set_cons_succ, List.set_cons_zero]
          refine ⟨_, rfl, ?_⟩
          go_wp2_with fail
          refine ⟨rfl, hB9, ?_⟩
          refine ⟨_, rfl, ?_⟩
          go_wp2_with fail
          refine ⟨rfl, hB9, ?_⟩
          refine ⟨_, rfl, ?_⟩
          go_wp2_with fail
          refine ⟨rfl, hB9, ?_⟩
          show ∃ (A9 : Option Addr) (c9 b9 : Nat), _
          refine ⟨A9, c9, v4.heap.size, ?_, hS9, hB9⟩
          first | rfl | simp only [Act.put, List.setIfInBounds_toArray, List.set_cons_succ, List.set_cons_zero]
      rintro a9 v5 ⟨A5, c5, b5, rfl, hS5, hb5⟩
      simp only [Act.put, List.setIfInBounds_toArray, List.set_cons_succ, List.set_cons_zero]
      have HS5 := Lib.hid hS5
      have HB5 := Lib.hid (Qt.more HB4.out HB4.out.size hb5)
      have hcap5 := HS5.out.cap
      clear hrn hS5 hb5 HS4 HB4
      go_wp2_with fail
      have hrn := fun W hW => run9_any A5 a c5 R k c W HCI.out hW (by omega) hcap5 (lev_bd HMK.out.ra)
      rw [HMK.out.r2] at hrn
      unfold storeV at hrn
      refine region_calm_to (fun W => Below v5.heap.size v5 W) (fun (a0 a9 : Act) (w9 : World) => ∃ (A9 : Option Addr) (c9 b9 : Nat), a9 = ((((((((((((a0.put (some 75) (.int .i64 (k : Int))).put (some 76) (.int .i64 count)).put (some 77) (.int .i64 (c : Int))).put (some 74) (.agg #[.slice A5 a.length c5, .int .i64 R])).put (some 78) (.tuple #[.agg #[.slice A9 b.length c9, .int .i64 R], .int .i64 (p2 : Int), .int .i64 e2])).put (some 73) (.tuple #[.agg #[.slice A9 b.length c9, .int .i64 R], .int .i64 (p2 : Int), .int .i64 e2])).put (some 79) (.agg #[.slice A9 b.length c9, .int .i64 R])).put (some 80) (.int .i64 (p2 : Int))).put (some 81) (.int .i64 e2)).put (some 18) (.pointer (some ⟨b9, 0, none⟩))).put (some 19) (.int .i64 (p2 : Int))).put (some 20) (.int .i64 e2)) ∧ StB w9 b9 A9 b c9 R ∧ Below v5.heap.size v5 w9) (.calm 1 (.calm 2 (.calm 3 (.calm 0 (.two 4 9 (.calm 5 (.calm 6 (.calm 7 (.calm 8 (.only 9 (.only 10 (.only 11 (.only 12 .done)))))))) (.only 4 (.calm 5 (.calm 6 (.calm 7 (.calm 8 (.only 10 (.only 11 (.only 12 .done))))))))))))) (by kernel_rfl) (by kernel_rfl) (by kernel_rfl) (by rfl) (below_drew _) ?_ ?_
      · skip
        refine ⟨_, _, .int .i64 (k : Int), rfl, rfl, ⟨rfl, fun W hW => by first | exact ⟨rfl, rfl⟩ | (simp only [Act.eval, execOp]; go_simp; try exact ⟨rfl, rfl⟩)⟩, ?_⟩
        simp only [Act.put, List.setIfInBounds_toArray, List.set_cons_succ, List.set_cons_zero]
        refine ⟨_, _, .int .i64 count, rfl, rfl, ⟨rfl, fun W hW => by first | exact ⟨rfl, rfl⟩ | (simp only [Act.eval, execOp]; go_simp; try exact ⟨rfl, rfl⟩)⟩, ?_⟩
        simp only [Act.put, List.setIfInBounds_toArray, List.set_cons_succ, List.set_cons_zero]
        refine ⟨_, _, .int .i64 (c : Int), rfl, rfl, ⟨rfl, fun W hW => by simp only [execOp]; go_simp; exact (hpk W).mono fun e w1 h => ⟨h.1, h.2.symm⟩⟩, ?_⟩
        simp only [Act.put, List.setIfInBounds_toArray, List.set_cons_succ, List.set_cons_zero]
        refine ⟨_, _, (.agg #[.slice A5 a.length c5, .int .i64 R]), rfl, rfl, ⟨rfl, fun W hW => by have s0 := (HS5.out.below hW).s0; have s1 := (HS5.out.below hW).s1; simp only [execOp]; go_simp; done⟩, ?_⟩
        simp only [Act.put, List.setIfInBounds_toArray, List.set_cons_succ, List.set_cons_zero]
        constructor
        · refine ⟨_, rfl, ?_⟩
          go_wp2_with fail
          refine (hrn _ (HS5.out.rd.below (below_drew _))).mono ?_
          intro e w9 h
          obtain ⟨A9, c9, rfl, hcap9, N9, hb⟩ := putR_box h
          have hBc := Qt.more (below_drew v5) (Nat.le_refl _) hb
          have hS9 := stB_new N9 hcap9 R
          have hB9 := hBc.alloc hBc.size (.cells #[.slice A9 b.length c9, .int .i64 R] 26)
          have hB8 := hBc.alloc hBc.size (.cells #[.slice none 0 0, .int .i64 0] 26)
          clear h hb
          go_wp2_with fail
          refine ⟨rfl, hBc, ?_⟩
          refine ⟨_, _, (.tuple #[.agg #[.slice A9 b.length c9, .int .i64 R], .int .i64 (p2 : Int), .int .i64 e2]), rfl, rfl, ⟨rfl, fun W hW => by first | exact ⟨rfl, rfl⟩ | (simp only [Act.eval, execOp]; go_simp; try exact ⟨rfl, rfl⟩)⟩, ?_⟩
          simp only [Act.put, List.setIfInBounds_toArray, List.set_cons_succ, List.set_cons_zero]
          refine ⟨_, _, (.agg #[.slice A9 b.length c9, .int .i64 R]), rfl, rfl, ⟨rfl, fun W hW => by first | exact ⟨rfl, rfl⟩ | (simp only [Act.eval, execOp]; go_simp; try exact ⟨rfl, rfl⟩)⟩, ?_⟩
          simp only [Act.put, List.setIfInBounds_toArray, List.set_cons_succ, List.set_cons_zero]
          refine ⟨_, _, .int .i64 (p2 : Int), rfl, rfl, ⟨rfl, fun W hW => by first | exact ⟨rfl, rfl⟩ | (simp only [Act.eval, execOp]; go_simp; try exact ⟨rfl, rfl⟩)⟩, ?_⟩
          simp only [Act.put, List.setIfInBounds_toArray, List.set_cons_succ, List.set_cons_zero]
          refine ⟨_, _, .int .i64 e2, rfl, rfl, ⟨rfl, fun W hW => by first | exact ⟨rfl, rfl⟩ | (simp only [Act.eval, execOp]; go_simp; try exact ⟨rfl, rfl⟩)⟩, ?_⟩
          simp only [Act.put, List.setIfInBounds_toArray, List.set_cons_succ, List.set_cons_zero]
          refine ⟨_, rfl, ?_⟩
          go_wp2_with fail
          refine ⟨rfl, hB8, ?_⟩
          refine ⟨_, rfl, ?_⟩
          go_wp2_with fail
          refine ⟨rfl, hB9, ?_⟩
          refine ⟨_, rfl, ?_⟩
          go_wp2_with fail
          refine ⟨rfl, hB9, ?_⟩
          refine ⟨_, rfl, ?_⟩
          go_wp2_with fail
          refine ⟨rfl, hB9, ?_⟩
          show ∃ (A9 : Option Addr) (c9 b9 : Nat), _
          refine ⟨A9, c9, w9.heap.size, ?_, hS9, hB9⟩
          first | rfl | simp only [Act.put, List.setIfInBounds_toArray, List.set_cons_succ, List.set_cons_zero]
        · refine ⟨_, rfl, ?_⟩
          have hB8 := (below_drew v5).alloc (Nat.le_refl _) (.cells #[.slice none 0 0, .int .i64 0] 26)
          have hrow8 : (v5.drew.alloc (.cells #[.slice none 0 0, .int .i64 0] 26 (0, 0))).heap[v5.heap.size]? = _ := heap_alloc_new v5.drew (.cells #[.slice none 0 0, .int .i64 0] 26 (0, 0))
          go_wp2_with fail
          refine ⟨rfl, hB8, ?_⟩
          refine ⟨_, rfl, ?_⟩
          go_wp2_with fail
          refine (hrn _ (HS5.out.rd.below hB8)).mono ?_
          intro e w9 h
          obtain ⟨A9, c9, rfl, hcap9, N9, hb⟩ := putR_box h
          have hBc := Qt.more hB8 hB8.size hb
          have hrow9 := (hb.block _ (lt_heap6 hrow8)).trans hrow8
          have hS9 := stB_put (room := R) hrow9 N9 hcap9
          have hB9 := (hBc.setCell (p := ⟨v5.heap.size, 0, none⟩) (Nat.le_refl _) (.slice A9 b.length c9)).setCell (p := ⟨v5.heap.size, 1, none⟩) (Nat.le_refl _) (.int .i64 R)
          have f0 : w9.frozen? ⟨v5.heap.size, 0, none⟩ = false := Lib.frozen_of_heap hrow9 0
          have f1 : w9.frozen? ⟨v5.heap.size, 1, none⟩ = false := Lib.frozen_of_heap hrow9 1
          have g0 : w9.cell? ⟨v5.heap.size, 0, none⟩ = some (.slice none 0 0) := by rw [Lib.cell_of_heap hrow9]; rfl
          have g1 : w9.cell? ⟨v5.heap.size, 1, none⟩ = some (.int .i64 0) := by rw [Lib.cell_of_heap hrow9]; rfl
          clear h hb hrow9 hrow8
          go_wp2_with fail
          refine ⟨rfl, hBc, ?_⟩
          refine ⟨_, _, (.tuple #[.agg #[.slice A9 b.length c9, .int .i64 R], .int .i64 (p2 : Int), .int .i64 e2]), rfl, rfl, ⟨rfl, fun W hW => by first | exact ⟨rfl, rfl⟩ | (simp only [Act.eval, execOp]; go_simp; try exact ⟨rfl, rfl⟩)⟩, ?_⟩
          simp only [Act.put, List.setIfInBounds_toArray, List.set_cons_succ, List.set_cons_zero]
          refine ⟨_, _, (.agg #[.slice A9 b.length c9, .int .i64 R]), rfl, rfl, ⟨rfl, fun W hW => by first | exact ⟨rfl, rfl⟩ | (simp only [Act.eval, execOp]; go_simp; try exact ⟨rfl, rfl⟩)⟩, ?_⟩
          simp only [Act.put, List.setIfInBounds_toArray, List.set_cons_succ, List.set_cons_zero]
          refine ⟨_, _, .int .i64 (p2 : Int), rfl, rfl, ⟨rfl, fun W hW => by first | exact ⟨rfl, rfl⟩ | (simp only [Act.eval, execOp]; go_simp; try exact ⟨rfl, rfl⟩)⟩, ?_⟩
          simp only [Act.put, List.setIfInBounds_toArray, List.set_cons_succ, List.set_cons_zero]
          refine ⟨_, _, .int .i64 e2, rfl, rfl, ⟨rfl, fun W hW => by first | exact ⟨rfl, rfl⟩ | (simp only [Act.eval, execOp]; go_simp; try exact ⟨rfl, rfl⟩)⟩, ?_⟩
          simp only [Act.put, List.setIfInBounds_toArray, List.set_cons_succ, List.set_cons_zero]
          refine ⟨_, rfl, ?_⟩
          go_wp2_with fail
          refine ⟨rfl, hB9, ?_⟩
          refine ⟨_, rfl, ?_⟩
          go_wp2_with fail
          refine ⟨rfl, hB9, ?_⟩
          refine ⟨_, rfl, ?_⟩
          go_wp2_with fail
          refine ⟨rfl, hB9, ?_⟩
          show ∃ (A9 : Option Addr) (c9 b9 : Nat), _
          refine ⟨A9, c9, v5.heap.size, ?_, hS9, hB9⟩
          first | rfl | simp only [Act.put, List.setIfInBounds_toArray, List.set_cons_succ, List.set_cons_zero]
      rintro a9 v6 ⟨A6, c6, b6, rfl, hS6, hb6⟩
      simp only [Act.put, List.setIfInBounds_toArray, List.set_cons_succ, List.set_cons_zero]
      have HS6 := Lib.hid hS6
      have HB6 := Lib.hid (Qt.more HB5.out HB5.out.size hb6)
      have hcap6 := HS6.out.cap
      have hbl := right_len HMK.out.rb
      clear hrn hS6 hb6 HS5 HB5
      have s0 := HS6.out.s0
      have s1 := HS6.out.s1
      rcases HMK.out.res with h1 | ⟨h1, h2⟩ | ⟨h1, h2, ex, ey, er, P, Q, hm⟩
      · subst h1
        clear HS6
        go_wp2_with fail
        go_ret
        exact ⟨rfl, HB6.out⟩
      · subst h1
        subst h2
        clear HS6
        go_wp2_with fail
        go_ret
        exact ⟨rfl, HB6.out⟩
      subst h1
      subst h2
      have HM := Lib.hid hm
      clear hm
      have hlt1 : p1 < b.length := HM.out.isx.lt
      have hlt1z : ¬ (b.length : Int) ≤ (p1 : Int) := by omega
      have hlt1y : (p1 : Int) < (b.length : Int) := by omega
      have hlt2 : p2 < b.length := HM.out.isy.lt
      have hlt2z : ¬ (b.length : Int) ≤ (p2 : Int) := by omega
      have hlt2y : (p2 : Int) < (b.length : Int) := by omega
      obtain ⟨qb, ob, hA6, hqb, _⟩ := HS6.out.nd (Nat.lt_of_le_of_lt (Nat.zero_le _) hlt1)
      subst hA6
      clear s0 s1 hqb
      have s0 := HS6.out.s0
      have s1 := HS6.out.s1
      have x1 := (HS6.out.node hlt1).1
      rw [HM.out.isx.lev] at x1
      have x2 := (HS6.out.node hlt2).1
      rw [HM.out.isy.lev] at x2
      obtain ⟨lx, hlx, hlx2⟩ : ∃ lx : Int, lx = ((ex + 1 : Nat) : Int) ∧ ¬ lx < 2 := ⟨_, rfl, by have := HM.out.hx1; omega⟩
      rw [← hlx] at x1
      obtain ⟨ly, hly, hly2⟩ : ∃ ly : Int, ly = ((ey + 1 : Nat) : Int) ∧ ¬ ly < 2 := ⟨_, rfl, by have := HM.out.hy1; omega⟩
      rw [← hly] at x2
      clear hlx hly
      have hlx := HM.out.lx
      have hly := HM.out.ly
      have HLL := Lib.hid (And.intro hlx hly)
      clear hlx hly
      go_wp2_with fail
      clear s0 s1 x1 x2 hlx2 hly2 hlt1z hlt1y hlt2z hlt2y
      have hc := refOf7_any b HMK.out.rb (some ⟨qb, ob, none⟩) c6 R ex p1 v6 HM.out.hx HM.out.isx HS6.out.rd (by have := HLL.out.1; omega)
      unfold storeV at hc
      refine hc.mono ?_
      rintro r w8 ⟨A8, c8, rfl, hc8, hR8, hb8⟩
      have HS8 := Lib.hid (HS6.out.below hb8)
      have HB8 := Lib.hid (Qt.more HB6.out HB6.out.size hb8)
      have hc := Cel.refOf_any A8 (about7 b ex p1) c8 w8 hR8 (by have := HLL.out.1; omega) hc8
      rw [HM.out.ofx] at hc
      clear hb8 hR8 HS6 HB6
      go_wp2_with fail
      refine hc.mono ?_
      rintro r w9 ⟨v9, rfl, ⟨A9, c9, rfl, hc9, hR9⟩, hb9⟩
      dsimp only at hR9 hc9
      have HS9 := Lib.hid (HS8.out.below hb9)
      have HB9 := Lib.hid (Qt.more HB8.out HB8.out.size hb9)
      have HX9 := Lib.hid hR9
      clear hc hb9 hR9 HS8 HB8
      have s0 := HS9.out.s0
      have s1 := HS9.out.s1
      go_wp2_with fail
      clear s0 s1
      have hc := refOf7_any b HMK.out.rb (some ⟨qb, ob, none⟩) c6 R ey p2 w9 HM.out.hy HM.out.isy HS9.out.rd (by have := HLL.out.2; omega)
      unfold storeV at hc
      refine hc.mono ?_
      rintro r w10 ⟨A10, c10, rfl, hc10, hR10, hb10⟩
      have HB10 := Lib.hid (Qt.more HB9.out HB9.out.size hb10)
      have HX10 := Lib.hid ((Cel.Rd.below HX9.out hb10 (Nat.le_refl _)).more hb10.size)
      have hc := Cel.refOf_any A10 (about7 b ey p2) c10 w10 hR10 (by have := HLL.out.2; omega) hc10
      rw [HM.out.ofy] at hc
      clear hb10 hR10 HS9 HB9 HX9
      go_wp2_with fail
      refine hc.mono ?_
      rintro r w11 ⟨v11, rfl, ⟨A11, c11, rfl, hc11, hR11⟩, hb11⟩
      dsimp only at hR11 hc11
      have HB11 := Lib.hid (Qt.more HB10.out HB10.out.size hb11)
      have HX11 := Lib.hid ((Cel.Rd.below HX10.out hb11 (Nat.le_refl _)).more hb11.size)
      have HY11 := Lib.hid hR11
      have hpq := HM.out.len
      have hp2000 := HM.out.few
      have hHAS := HM.out.has
      have hBD := HM.out.bd
      have HPQ := Lib.hid hpq
      have HAS := Lib.hid hHAS
      have HBD2 := Lib.hid hBD
      clear hc hb11 hR11 HB10 HX10 hpq hHAS hBD
      go_wp2_with fail
      go_loopw [25] (fun i wr => ∃ j : Nat, j ≤ P.length ∧ i = .int .i64 j ∧ Hid (Below w11.heap.size w11 wr)) (fun i _ => P.length - (intOf i).toNat)
      case atStart => exact ⟨0, Nat.zero_le _, rfl, (show Hid _ from Below.refl _ _)⟩
      case round =>
        obtain ⟨j, hjP, rfl, HJ⟩ := hrel
        by_cases hlt : j < P.length
        · have hltz : (j : Int) < (P.length : Int) := by omega
          have hxb := HBD2.out j hlt
          have hhs := HAS.out j hlt
          obtain ⟨bb, off, rfl, hbB, hcell⟩ := Cel.Rd.at_ HX11.out (by omega)
          obtain ⟨k0, k1⟩ := hcell j hlt
          generalize P.getD j (0, 0) = xy at *
          obtain ⟨x, y⟩ := xy
          simp only at hxb hhs k0 k1
          have q0 := Qt.cell_in (Qt.keep HJ.out k0)
          have q1 := Qt.cell_in (Qt.keep HJ.out k1)
          have hwx : IntKind.i64.wrap (-x) = -x := neg_w (by omega)
          have hwy : IntKind.i64.wrap (-y) = -y := neg_w (by omega)
          have HYj := Lib.hid ((Cel.Rd.below HY11.out HJ.out (Nat.le_refl _)).more HJ.out.size)
          have hq2 : Q.length ≤ 1000000 := by have := HPQ.out; omega
          have hcall := fun W hW => Cel.refHas_any A11 Q c11 (-x, -y) W (((Cel.Rd.below HYj.out hW (Nat.le_refl _))).more (Below.size hW)) hq2 hc11
          rw [hhs] at hcall
          clear hcell k0 k1 hxb hbB hhs hq2
          go_wp2_with fail
          refine Qt.below_all (by kernel_rfl) (by kernel_rfl) ?_
          iterate 16 (go_big_quiet_step (first | (go_at_call 37; exact Qt.at_call' hcall)))
          refine wpQuiet_nil ?_
          intro w12 hb12
          have HN : Hid (Below w11.heap.size w11 w12) := Qt.more HJ.out HJ.out.size hb12
          clear hb12 q0 q1 hwx hwy HYj hcall
          go_wp2_with fail
          go_roundw
          case measure => simp [intOf]; omega
          case rel => exact ⟨j + 1, by omega, by go_num, HN⟩
        · have hz : ¬ (j : Int) < (P.length : Int) := by omega
          have HB12 := Lib.hid (Qt.more HB11.out HB11.out.size HJ.out)
          have hpq : ((P.length : Int) == (Q.length : Int)) = true := by rw [HPQ.out]; exact beq_self_eq_true _
          clear hlt
          go_wp2_with fail
          go_ret
          exact ⟨rfl, HB12.out⟩
end Go.Proofs.Ytbibbonbhamcfaa
