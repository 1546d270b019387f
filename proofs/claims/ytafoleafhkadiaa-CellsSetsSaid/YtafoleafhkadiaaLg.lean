/-
  CellsSets: a set is told by which cells it has, in whatever order and however often they come; what is put has it, what is taken out has it not, and nothing else is changed: the law returns true whatever numbers come in.
  Conditions: none.
-/
import Derived.Test.YtafoleafhkadiaaLh
namespace Go.Proofs.Ytafoleafhkadiaa
open Go.RowKit Go.Sort

theorem pushed1 {B : Nat} {w0 w2 w3 : World} {T : Nat} {v v' : Value} {out : List (Int × Int)} {x y : Int} (hB : B ≤ w2.heap.size) (hb : Below B w0 w2) (hown : Own w2 B T v out) {o : Obj}
    (h3 : w3.ownsRow B T 2 v' (out.length + 1) (fl out ++ [.int .i64 x, .int .i64 y])) (hg : (w2.alloc o).grownBy w3 v.ownBlock) : Own w3 B T v' (out ++ [(x, y)]) ∧ Below B w0 w3 := by
  refine ⟨own_push h3, (hb.alloc hB _).grown hg (by simp; omega) (fun k e => ?_)⟩
  have := (World.ownsRow.lt hown k e).1
  omega

set_option maxHeartbeats 16000000 in
set_option maxRecDepth 100000 in
theorem cellsSets_walk (A : Option Addr) (raw : List (Int × Int)) (c : Nat) (at_ cx cy : Int) (w : World) (hR : Rd w w.heap.size A raw) (hl : raw.length ≤ 9223372036854775807) (hc : raw.length ≤ c) (hw : ∀ p ∈ raw, I64 p.1 ∧ I64 p.2) (hat : I64 at_) (hcx : I64 cx) (hcy : I64 cy) :
    Calls Try.prog 4 #[.slice A raw.length c, .int .i64 at_, .int .i64 cx, .int .i64 cy] w fun e w' => e = .returned (.bool true) ∧ Below w.heap.size w w' := by
  obtain ⟨i0, hi, hz0, hz1, hz2⟩ := info_parts infoCell
  have HW := Lib.hid hw
  have HAT := Lib.hid hat
  have HCX := Lib.hid hcx
  have HCY := Lib.hid hcy
  have HRAW : Hid (Now w A raw) := hR
  clear hat hcx hcy
  go_enter Try.func4, Try.ntmps4
  go_wp2_with fail
  refine (awake_any w).mono ?_
  rintro e w1 ⟨rfl, hb1⟩
  have B1 := hb1
  have HRAW1 := Lib.hid (HRAW.out.below hb1)
  clear hR hw hb1 HRAW
  go_wp2
  go_loopw [10, 11] (fun v i wr => ∃ k : Nat, k ≤ raw.length ∧ k ≤ 60 ∧ i = .int .i64 k ∧ Aside (Own wr w1.heap.size 25 v (rawTo raw k)) ∧ Below w1.heap.size w1 wr) (fun _ i _ => 60 - (intOf i).toNat)
  case atStart => exact ⟨0, Nat.zero_le _, by omega, rfl, World.ownsRow_nil _ _ _ _, Below.refl _ _⟩
  case round =>
    obtain ⟨k, hk, hk60, rfl, HO, hb⟩ := hrel
    by_cases hlt : k < raw.length ∧ k < 60
    · obtain ⟨hlt, h60⟩ := hlt
      have hltz : (k : Int) < (raw.length : Int) := by omega
      have h60z : (k : Int) < 60 := by omega
      obtain ⟨b, off, rfl, hbB, hcell⟩ := HRAW1.out.at_ (by omega)
      obtain ⟨⟨x, y⟩, hxy⟩ : ∃ p, p = raw.getD k (0, 0) := ⟨_, rfl⟩
      obtain ⟨c0, c1⟩ := hcell k hlt
      rw [← hxy] at c0 c1
      simp only at c0 c1
      have c0 := Qt.keep hb c0
      have c1 := Qt.keep hb c1
      have hwf := HW.out _ (getD_mem hlt)
      rw [← hxy] at hwf
      have HWF := Lib.hid hwf
      have hbd := rawCell_bd (x, y)
      unfold rawCell at hbd
      simp only at hbd
      obtain ⟨n1, n2, n3, n4⟩ := hbd
      have HXY := Lib.hid hxy
      have hrl := length_rawTo raw k
      have k0 := Qt.cell_in c0
      have k1 := Qt.cell_in c1
      obtain ⟨A2, c2, hv, hc2, hr2⟩ := Own.rd HO.out
      subst hv
      clear hxy hcell hwf hr2
      go_wp2
      refine Qt.region_late (v := .slice A2 (rawTo raw k).length c2) 16 (by decide) (by kernel_rfl) (by kernel_rfl) rfl ⟨rfl, fun _ => rfl⟩ ?_
      simp only [List.take_succ_cons, List.take_zero, List.drop_succ_cons, List.drop_zero, Act.put, List.setIfInBounds_toArray, List.set_cons_succ, List.set_cons_zero]
      repeat (go_big_quiet_step (first | (go_at_call_of 21 x; exact Qt.at_same fun _ _ => pick_any x 16 _ HWF.out.1.1 HWF.out.1.2 (by omega) (by omega)) | (go_at_call_of 21 y; exact Qt.at_same fun _ _ => pick_any y 16 _ HWF.out.2.1 HWF.out.2.2 (by omega) (by omega))))
      refine wpQuiet_nil ?_
      intro w3 hb3
      have B3 := Qt.more hb hb.size hb3
      have hown := HO.out.below hb3
      have hsz3 : w1.heap.size ≤ w3.heap.size := B3.size
      go_wp2_with (at_builtin; refine wpList_append_own _ rfl (.tmp 37) (.tmp 53) 23 rfl w1.heap.size 25 i0 (.agg #[.int .i64 0, .int .i64 0]) 2 16 Try.underlying23 hi hz0 hz1 hz2 rfl (by decide) _ _ _ rfl (World.ownsRow.alloc hown _) ⟨w3.heap.size, 0, none⟩ 1 1 [.int .i64 (pickI x 16 - 8), .int .i64 (pickI y 16 - 8)] rfl rfl one_new one_cell (by unfold maxLen; omega) (by omega) (by simp; omega) ?_; intro v4 w4 hown4 hgrow4 _)
      have hp := pushed1 (v := .slice A2 (rawTo raw k).length c2) hsz3 B3 hown hown4 hgrow4
      have hset : rawTo raw k ++ [(pickI x 16 - 8, pickI y 16 - 8)] = rawTo raw (k + 1) := by
        rw [rawTo_succ hlt, ← HXY.out]
        rfl
      rw [hset] at hp
      have HP := Lib.hid hp
      clear hown4 hgrow4 hown hp hset k0 k1 c0 c1
      refine ⟨rfl, ?_⟩
      go_wp2
      go_roundw
      case measure => simp [intOf]; omega
      case rel => exact ⟨k + 1, by omega, by omega, by go_num, HP.out.1, HP.out.2⟩
    · have hset : rawTo raw k = rawTo raw 60 := by
        unfold rawTo
        by_cases h : k < raw.length
        · rw [show k = 60 by omega]
        · rw [List.take_of_length_le (by omega), List.take_of_length_le (by omega)]
      have ho := HO.out
      rw [hset] at ho
      obtain ⟨L, hL⟩ : ∃ L, L = rawTo raw 60 := ⟨_, rfl⟩
      rw [← hL] at ho
      have hl60 : L.length ≤ 60 := by rw [hL]; exact length_rawTo _ _
      obtain ⟨S, hS⟩ : ∃ S, S = setL L := ⟨_, rfl⟩
      have hs60 : S.length ≤ 60 := by rw [hS]; exact Nat.le_trans (length_setL _) hl60
      have HSR : Hid (rightB S = true) := by rw [hS, hL]; exact rightB_raw raw (Nat.le_refl _)
      have HSM : Hid (∀ y, y ∈ S ↔ y ∈ L) := fun y => by rw [hS]; exact mem_setL L y
      have HSE := Lib.hid hS
      have hpx := pickI_bd cx 16 (by omega)
      have hpy := pickI_bd cy 16 (by omega)
      have PX0 := fun w => pick_any cx 16 w HCX.out.1 HCX.out.2 (by omega) (by omega)
      have PY0 := fun w => pick_any cy 16 w HCY.out.1 HCY.out.2 (by omega) (by omega)
      generalize pickI cx 16 = px at hpx PX0
      generalize pickI cy 16 = py at hpy PY0
      have PX := Lib.hid PX0
      have PY := Lib.hid PY0
      obtain ⟨p1, p2⟩ := hpx
      obtain ⟨p3, p4⟩ := hpy
      have HQI : Hid (inB (px - 8, py - 8) = true) := by show _ = _; rw [inB_iff]; simp only; omega
      have hsr := (rightB_iff S).1 HSR.out
      obtain ⟨D, hD⟩ : ∃ D, D = putL (px - 8, py - 8) S := ⟨_, rfl⟩
      obtain ⟨N, hN⟩ : ∃ N, N = outL (px - 8, py - 8) S := ⟨_, rfl⟩
      have hd61 : D.length ≤ 61 := by rw [hD]; exact Nat.le_trans (length_putL_le _ _) (by omega)
      have hn60 : N.length ≤ 60 := by rw [hN]; exact Nat.le_trans (List.length_filter_le _ _) hs60
      have HDR : Hid (rightB D = true) := by rw [hD]; exact rightB_put HSR.out (by omega) HQI.out
      have HNR : Hid (rightB N = true) := by rw [hN]; exact rightB_out HSR.out _
      have HDN : Hid (outL (px - 8, py - 8) D = N) := by rw [hD, hN]; exact outL_putL hsr.2.2 _
      have HDE := Lib.hid hD
      have HNE := Lib.hid hN
      have HSW := Lib.hid hsr.2.2
      clear PX0 PY0 hsr hD hN hS
      have HBD : Hid (∀ p ∈ L, -8 ≤ p.1 ∧ p.1 ≤ 7 ∧ -8 ≤ p.2 ∧ p.2 ≤ 7) := by rw [hL]; exact fun p hp => rawTo_bd hp
      obtain ⟨A2, c2, hv, hc2, hr2⟩ := Own.rd ho
      subst hv
      have HN : Hid (Now wr A2 L) := hr2
      have hSh := shape_own ho
      have B2 := Qt.more B1 B1.size hb
      have hbd := pickI_bd at_ ((L.length : Int) + 1) (by omega)
      have P0 := fun w => pick_any at_ ((L.length : Int) + 1) w HAT.out.1 HAT.out.2 (by omega) (by omega)
      obtain ⟨t, ht⟩ : ∃ t : Nat, pickI at_ ((L.length : Int) + 1) = (t : Int) := ⟨(pickI at_ ((L.length : Int) + 1)).toNat, by omega⟩
      rw [ht] at hbd P0
      have P1 := Lib.hid P0
      have htl : t ≤ L.length := by omega
      clear hbd P0 ht hL ho HO hset hr2
      have hdec : (¬ (k : Int) < (raw.length : Int)) ∨ ((k : Int) < (raw.length : Int) ∧ ¬ (k : Int) < 60) := by omega
      obtain ⟨AT, cT, hT, hfrom⟩ := slice_from hSh HN.out htl hc2
      have hto := slice_to hSh htl hc2
      obtain ⟨v1, w1', v2, w2', v3, w3, r1, r2, r3, HO3, hb3⟩ := turn_any (w := wr.drew) (cT := cT) (c := c2) (t := t) HN.out hT hl60
      rw [List.length_drop] at r1
      rw [List.length_take, Nat.min_eq_left htl] at r3
      have hb3' : Below wr.heap.size wr w3 := (show Below wr.heap.size wr wr.drew from ⟨rfl, rfl, rfl, Nat.le_refl _, fun _ _ => rfl⟩).trans hb3
      obtain ⟨A3, c3, hv3, hc3, hR3⟩ := Own.rd HO3.out
      rw [hv3] at r3
      have HT3 : Hid (Now w3 A3 (L.drop t ++ L ++ L.take t)) := hR3
      have HL3 := Lib.hid (HN.out.below hb3')
      have B3 := Qt.more B2 B2.size hb3'
      have HFR := Lib.hid hfrom
      have HTO := Lib.hid hto
      have R1 := Lib.hid r1
      have R2 := Lib.hid r2
      have R3 := Lib.hid r3
      have HST := Lib.hid (setL_turn L t)
      have hTl : (L.drop t ++ L ++ L.take t).length ≤ 120 := by simp [List.length_drop, List.length_take]; omega
      have HTB : Hid (∀ p ∈ (L.drop t ++ L ++ L.take t), inB p = true) := fun p hp => by
        have hpl : p ∈ L := by
          rcases List.mem_append.1 hp with hp | hp
          · rcases List.mem_append.1 hp with hp | hp
            · exact List.mem_of_mem_drop hp
            · exact hp
          · exact List.mem_of_mem_take hp
        have := HBD.out p hpl
        rw [inB_iff]; omega
      generalize L.drop t ++ L ++ L.take t = T at hc3 R3 HT3 HST hTl HTB
      clear hSh hT hfrom hto r1 r2 r3 hv3 HO3 hR3 hb3 hb3'
      rcases hdec with h1 | ⟨h1, h2⟩
      all_goals
        clear hlt
        go_wp2_with fail
        refine (P1.out _).mono ?_
        rintro e w5 ⟨rfl, rfl⟩
        go_wp2_with fail
        refine Qt.region_pure4 [0, 1, 2, 4, 6, 7, 8] 3 5 9 10 (by kernel_rfl) (by kernel_rfl) (by kernel_rfl) rfl rfl rfl rfl rfl ?_
        refine ⟨_, some 60, .slice A2 L.length c2, rfl, rfl, ⟨rfl, fun _ => rfl⟩, ?_⟩
        simp only [Act.put, List.setIfInBounds_toArray, List.set_cons_succ, List.set_cons_zero]
        refine ⟨_, some 61, .int .i64 (t : Int), rfl, rfl, ⟨rfl, fun _ => rfl⟩, ?_⟩
        simp only [Act.put, List.setIfInBounds_toArray, List.set_cons_succ, List.set_cons_zero]
        refine ⟨_, some 62, .slice AT (L.length - t) cT, rfl, rfl, ⟨rfl, HFR.out _ _ (.tmp 60) (.tmp 61) rfl rfl rfl⟩, ?_⟩
        simp only [Act.put, List.setIfInBounds_toArray, List.set_cons_succ, List.set_cons_zero]
        refine ⟨_, some 64, .slice A2 L.length c2, rfl, rfl, ⟨rfl, fun _ => rfl⟩, ?_⟩
        simp only [Act.put, List.setIfInBounds_toArray, List.set_cons_succ, List.set_cons_zero]
        refine ⟨_, some 66, .slice A2 L.length c2, rfl, rfl, ⟨rfl, fun _ => rfl⟩, ?_⟩
        simp only [Act.put, List.setIfInBounds_toArray, List.set_cons_succ, List.set_cons_zero]
        refine ⟨_, some 67, .int .i64 (t : Int), rfl, rfl, ⟨rfl, fun _ => rfl⟩, ?_⟩
        simp only [Act.put, List.setIfInBounds_toArray, List.set_cons_succ, List.set_cons_zero]
        refine ⟨_, some 68, .slice A2 t c2, rfl, rfl, ⟨rfl, HTO.out _ _ (.tmp 66) (.tmp 67) rfl rfl rfl⟩, ?_⟩
        simp only [Qt.pureSteps, Act.put, List.setIfInBounds_toArray, List.set_cons_succ, List.set_cons_zero]
        refine Lib.wpList_append_run _ rfl (.const (.slice none 0 0)) (.tmp 62) 23 23 rfl (.slice none 0 0) (.slice AT (L.length - t) cT) rfl rfl _ _ R1.out ?_
        simp only [Act.put, List.setIfInBounds_toArray, List.set_cons_succ, List.set_cons_zero]
        refine Lib.wpList_append_run _ rfl (.tmp 63) (.tmp 64) 23 23 rfl v1 (.slice A2 L.length c2) rfl rfl _ _ R2.out ?_
        simp only [Act.put, List.setIfInBounds_toArray, List.set_cons_succ, List.set_cons_zero]
        refine Lib.wpList_append_run _ rfl (.tmp 65) (.tmp 68) 23 23 rfl v2 (.slice A2 t c2) rfl rfl _ _ R3.out ?_
        simp only [Act.put, List.setIfInBounds_toArray, List.set_cons_succ, List.set_cons_zero]
        go_wp2_with fail
        refine ⟨rfl, ?_⟩
        clear R1 R2 R3 HFR HTO
        go_wp2_with fail
        refine (of_ok HSE.out.symm HL3.out rfl hc2 (by omega) (fun p hp => by have := HBD.out p hp; rw [inB_iff]; omega)).mono ?_
        rintro e w6 ⟨ga, rfl, HA6, hb6⟩
        have B6 := Qt.more B3 B3.size hb6
        have HT6 := Lib.hid (HT3.out.below hb6)
        have HL6 := Lib.hid (HL3.out.below hb6)
        clear hb6 HT3 HL3
        go_wp2_with fail
        refine (of_ok (HST.out.trans HSE.out.symm) HT6.out rfl hc3 (by omega) HTB.out).mono ?_
        rintro e w7 ⟨gb, rfl, HB7, hb7⟩
        have B7 := Qt.more B6 B6.size hb7
        have HA7 := Lib.hid (HA6.out.below hb7)
        have HL7 := Lib.hid (HL6.out.below hb7)
        clear hb7 HT6 HL6 HA6 HTB HST
        go_wp2_with fail
        refine (PX.out _).mono ?_
        rintro e w8 ⟨rfl, rfl⟩
        go_wp2_with fail
        refine (PY.out _).mono ?_
        rintro e w8 ⟨rfl, rfl⟩
        have b7 : Below w7.heap.size w7 (w7.alloc (.cells #[.int .i64 (px - 8), .int .i64 (py - 8)] 25)) := (Below.refl _ _).alloc (Nat.le_refl _) _
        have HC7 := Lib.hid (Whole.new w7 25 #[.int .i64 (px - 8), .int .i64 (py - 8)])
        have B7' := Qt.more B7 B7.size b7
        have HA8 := Lib.hid (HA7.out.below b7)
        have HB8 := Lib.hid (HB7.out.below b7)
        have HL8 := Lib.hid (HL7.out.below b7)
        clear HA7 HB7 HL7
        go_wp2_with fail
        refine (on_ok HDE.out.symm HA8.out rfl (Nat.le_refl _) (by omega) HSR.out HQI.out).mono ?_
        rintro e w9 ⟨gw, rfl, HW9, hb9⟩
        have B9 := Qt.more B7' B7'.size hb9
        have HA9 := Lib.hid (HA8.out.below hb9)
        have HB9 := Lib.hid (HB8.out.below hb9)
        have HL9 := Lib.hid (HL8.out.below hb9)
        have HC9 := Lib.hid (HC7.out.below hb9)
        clear hb9 HA8 HB8 HL8 HC7 b7 B7'
        have q0 := HC9.out.cell 0
        have q1 := HC9.out.cell 1
        simp only [List.getElem?_toArray, List.getElem?_cons_zero, List.getElem?_cons_succ] at q0 q1
        go_wp2_with fail
        refine (off_ok HDN.out HW9.out rfl (Nat.le_refl _) HDR.out HQI.out).mono ?_
        rintro e w10 ⟨go, rfl, HO10, hb10⟩
        have B10 := Qt.more B9 B9.size hb10
        have HA10 := Lib.hid (HA9.out.below hb10)
        have HB10 := Lib.hid (HB9.out.below hb10)
        have HL10 := Lib.hid (HL9.out.below hb10)
        have HC10 := Lib.hid (HC9.out.below hb10)
        have HW10 := Lib.hid (HW9.out.below hb10)
        have q0 := Qt.keep hb10 q0
        have q1 := Qt.keep hb10 q1
        clear hb10 HA9 HB9 HL9 HC9 HW9
        go_wp2_with fail
        refine (off_ok HNE.out.symm HA10.out rfl (Nat.le_refl _) HSR.out HQI.out).mono ?_
        rintro e w11 ⟨gn, rfl, HN11, hb11⟩
        have B11 := Qt.more B10 B10.size hb11
        have HA11 := Lib.hid (HA10.out.below hb11)
        have HB11 := Lib.hid (HB10.out.below hb11)
        have HL11 := Lib.hid (HL10.out.below hb11)
        have HC11 := Lib.hid (HC10.out.below hb11)
        have HW11 := Lib.hid (HW10.out.below hb11)
        have HO11 := Lib.hid (HO10.out.below hb11)
        clear hb11 HA10 HB10 HL10 HC10 HW10 HO10 q0 q1
        go_wp2_with fail
        refine (same_yes HA11.out HB11.out rfl (by omega) rfl).mono ?_
        rintro e w12 ⟨rfl, hb12⟩
        have B12 := Qt.more B11 B11.size hb12
        have HA12 := Lib.hid (HA11.out.below hb12)
        have HL12 := Lib.hid (HL11.out.below hb12)
        have HC12 := Lib.hid (HC11.out.below hb12)
        have HW12 := Lib.hid (HW11.out.below hb12)
        have HO12 := Lib.hid (HO11.out.below hb12)
        have HN12 := Lib.hid (HN11.out.below hb12)
        clear hb12 HA11 HB11 HL11 HC11 HW11 HO11 HN11
        go_wp2_with fail
        refine (same_yes HO12.out HN12.out rfl (by omega) rfl).mono ?_
        rintro e w13 ⟨rfl, hb13⟩
        have B13 := Qt.more B12 B12.size hb13
        have HA13 := Lib.hid (HA12.out.below hb13)
        have HL13 := Lib.hid (HL12.out.below hb13)
        have HC13 := Lib.hid (HC12.out.below hb13)
        have HW13 := Lib.hid (HW12.out.below hb13)
        have HN13 := Lib.hid (HN12.out.below hb13)
        clear hb13 HA12 HL12 HC12 HW12 HO12 HN12
        go_wp2_with fail
        refine (right_ok' HA13.out rfl (Nat.le_refl _) HSR.out).mono ?_
        rintro e w14 ⟨rfl, hb14⟩
        go_wp2_with fail
        refine (right_ok' (HW13.out.below hb14) rfl (Nat.le_refl _) HDR.out).mono ?_
        rintro e w15 ⟨rfl, hb15⟩
        go_wp2_with fail
        refine (right_ok' ((HN13.out.below hb14).below hb15) rfl (Nat.le_refl _) HNR.out).mono ?_
        rintro e w16 ⟨rfl, hb16⟩
        have b16 : Below w13.heap.size w13 w16 := Qt.more (Qt.more hb14 hb14.size hb15) (Nat.le_trans hb14.size hb15.size) hb16
        have B16 := Qt.more B13 B13.size b16
        have HA := Lib.hid (HA13.out.below b16)
        have HL := Lib.hid (HL13.out.below b16)
        have HC := Lib.hid (HC13.out.below b16)
        have HWD := Lib.hid (HW13.out.below b16)
        have HNN := Lib.hid (HN13.out.below b16)
        clear b16 hb14 hb15 hb16 HA13 HL13 HC13 HW13 HN13
        go_wp2
        go_loopw [25] (fun i wq => ∃ j : Nat, j ≤ L.length ∧ i = .int .i64 j ∧ Below w16.heap.size w16 wq) (fun i _ => L.length - (intOf i).toNat)
        case atStart => exact ⟨0, Nat.zero_le _, rfl, Below.refl _ _⟩
        case round =>
          obtain ⟨j, hj, rfl, hbq⟩ := hrel
          by_cases hjl : j < L.length
          · have hjz : (j : Int) < (L.length : Int) := by omega
            obtain ⟨b, off, rfl, hbB, hcell⟩ := Rd.at_ HL.out (by omega)
            obtain ⟨⟨x, y⟩, hxy⟩ : ∃ p, p = L.getD j (0, 0) := ⟨_, rfl⟩
            obtain ⟨c0, c1⟩ := hcell j hjl
            rw [← hxy] at c0 c1
            simp only at c0 c1
            have k0 := Qt.cell_in (Qt.keep hbq c0)
            have k1 := Qt.cell_in (Qt.keep hbq c1)
            have q0 := HC.out.cell 0
            have q1 := HC.out.cell 1
            simp only [List.getElem?_toArray, List.getElem?_cons_zero, List.getElem?_cons_succ] at q0 q1
            have k2 := Qt.cell_in (Qt.keep hbq q0)
            have k3 := Qt.cell_in (Qt.keep hbq q1)
            have hpS : (x, y) ∈ S := (HSM.out _).2 (by rw [hxy]; exact getD_mem hjl)
            have hpD : (x, y) ∈ D := by rw [HDE.out]; exact (mem_putL _ _ _).2 (.inr hpS)
            have HAs := Lib.hid (fun W (hW : Below wr.heap.size wr W) => has_ok (c := S.length) (x := x) (y := y) ((HA.out.below hbq).below hW) rfl (Nat.le_refl _) (by omega) (hasB_yes hpS))
            have HWs := Lib.hid (fun W (hW : Below wr.heap.size wr W) => has_ok (c := D.length) (x := x) (y := y) ((HWD.out.below hbq).below hW) rfl (Nat.le_refl _) (by omega) (hasB_yes hpD))
            have hcase : (x = px - 8 ∧ y = py - 8) ∨ (x = px - 8 ∧ ¬ y = py - 8) ∨ ¬ x = px - 8 := by
              by_cases h1 : x = px - 8 <;> by_cases h2 : y = py - 8 <;> simp [h1, h2]
            clear hxy hcell c0 c1 q0 q1
            rcases hcase with ⟨rfl, rfl⟩ | ⟨rfl, hy⟩ | hx
            · have hpN : (px - 8, py - 8) ∉ N := by rw [HNE.out, mem_outL]; exact fun h => h.2 rfl
              have HNs := Lib.hid (fun W (hW : Below wr.heap.size wr W) => has_ok (c := N.length) (x := px - 8) (y := py - 8) ((HNN.out.below hbq).below hW) rfl (Nat.le_refl _) (by omega) (hasB_no hpN))
              clear hpS hpD hpN
              go_wp2
              refine Qt.below_all (by kernel_rfl) (by kernel_rfl) ?_
              repeat (go_big_quiet_step (first | (go_at_call 24; exact Qt.at_call' HAs.out) | (go_at_call 24; exact Qt.at_call' HWs.out) | (go_at_call 24; exact Qt.at_call' HNs.out)))
              refine wpQuiet_nil ?_
              intro w17 hb17
              clear k0 k1 k2 k3 HAs HWs HNs
              go_wp2
              go_roundw
              case measure => simp [intOf]; omega
              case rel => exact ⟨j + 1, by omega, by go_num, Qt.more hbq hbq.size hb17⟩
            · have hpN : (px - 8, y) ∈ N := by rw [HNE.out, mem_outL]; exact ⟨hpS, fun e => by simp only [Prod.mk.injEq] at e; omega⟩
              have HNs := Lib.hid (fun W (hW : Below wr.heap.size wr W) => has_ok (c := N.length) (x := px - 8) (y := y) ((HNN.out.below hbq).below hW) rfl (Nat.le_refl _) (by omega) (hasB_yes hpN))
              clear hpS hpD hpN
              go_wp2
              refine Qt.below_all (by kernel_rfl) (by kernel_rfl) ?_
              repeat (go_big_quiet_step (first | (go_at_call 24; exact Qt.at_call' HAs.out) | (go_at_call 24; exact Qt.at_call' HWs.out) | (go_at_call 24; exact Qt.at_call' HNs.out)))
              refine wpQuiet_nil ?_
              intro w17 hb17
              clear k0 k1 k2 k3 HAs HWs HNs
              go_wp2
              go_roundw
              case measure => simp [intOf]; omega
              case rel => exact ⟨j + 1, by omega, by go_num, Qt.more hbq hbq.size hb17⟩
            · have hpN : (x, y) ∈ N := by rw [HNE.out, mem_outL]; exact ⟨hpS, fun e => by simp only [Prod.mk.injEq] at e; omega⟩
              have HNs := Lib.hid (fun W (hW : Below wr.heap.size wr W) => has_ok (c := N.length) (x := x) (y := y) ((HNN.out.below hbq).below hW) rfl (Nat.le_refl _) (by omega) (hasB_yes hpN))
              clear hpS hpD hpN
              go_wp2
              refine Qt.below_all (by kernel_rfl) (by kernel_rfl) ?_
              repeat (go_big_quiet_step (first | (go_at_call 24; exact Qt.at_call' HAs.out) | (go_at_call 24; exact Qt.at_call' HWs.out) | (go_at_call 24; exact Qt.at_call' HNs.out)))
              refine wpQuiet_nil ?_
              intro w17 hb17
              clear k0 k1 k2 k3 HAs HWs HNs
              go_wp2
              go_roundw
              case measure => simp [intOf]; omega
              case rel => exact ⟨j + 1, by omega, by go_num, Qt.more hbq hbq.size hb17⟩
          · have hjz : ¬ (j : Int) < (L.length : Int) := by omega
            have BQ := Qt.more B16 B16.size hbq
            have HAq := Lib.hid (HA.out.below hbq)
            have HWq := Lib.hid (HWD.out.below hbq)
            have HNq := Lib.hid (HNN.out.below hbq)
            have q0 := HC.out.cell 0
            have q1 := HC.out.cell 1
            simp only [List.getElem?_toArray, List.getElem?_cons_zero, List.getElem?_cons_succ] at q0 q1
            have q0 := Qt.keep hbq q0
            have q1 := Qt.keep hbq q1
            have hqD : (px - 8, py - 8) ∈ D := by rw [HDE.out]; exact (mem_putL _ _ _).2 (.inl rfl)
            have HQD := Lib.hid (hasB_yes hqD)
            by_cases hq : (px - 8, py - 8) ∈ S
            · have HDS : Hid (D = S) := HDE.out.trans (put_in HSW.out hq)
              have hln := length_out_in HSW.out hq
              rw [← HNE.out] at hln
              have heq : ((N.length : Int) == (S.length : Int) - 1) = true := by simp; omega
              have HQS := Lib.hid (hasB_yes hq)
              clear hq hqD hln
              go_wp2_with fail
              refine (has_ok HAq.out rfl (Nat.le_refl _) (by omega) HQS.out).mono ?_
              rintro e w17 ⟨rfl, hb17⟩
              go_wp2_with fail
              refine (same_eq (HWq.out.below hb17) (HAq.out.below hb17) (by omega) HDS.out).mono ?_
              rintro e w18 ⟨rfl, hb18⟩
              have q0 := Qt.keep hb18 (Qt.keep hb17 q0)
              have q1 := Qt.keep hb18 (Qt.keep hb17 q1)
              go_wp2_with fail
              refine (has_ok ((HWq.out.below hb17).below hb18) rfl (Nat.le_refl _) (by omega) HQD.out).mono ?_
              rintro e w19 ⟨rfl, hb19⟩
              have B17 := Qt.more BQ BQ.size hb17
              have B18 := Qt.more B17 B17.size hb18
              have B19 := Qt.more B18 B18.size hb19
              go_wp2
              go_ret
              exact ⟨rfl, B19⟩
            · have HNS : Hid (N = S) := HNE.out.trans (outL_not hq)
              have hln := length_put_new HSW.out hq
              rw [← HDE.out] at hln
              have heq : ((D.length : Int) == (S.length : Int) + 1) = true := by simp; omega
              have HQS := Lib.hid (hasB_no hq)
              clear hq hqD hln
              go_wp2_with fail
              refine (has_ok HAq.out rfl (Nat.le_refl _) (by omega) HQS.out).mono ?_
              rintro e w17 ⟨rfl, hb17⟩
              go_wp2_with fail
              refine (same_eq (HNq.out.below hb17) (HAq.out.below hb17) (by omega) HNS.out).mono ?_
              rintro e w18 ⟨rfl, hb18⟩
              have q0 := Qt.keep hb18 (Qt.keep hb17 q0)
              have q1 := Qt.keep hb18 (Qt.keep hb17 q1)
              go_wp2_with fail
              refine (has_ok ((HWq.out.below hb17).below hb18) rfl (Nat.le_refl _) (by omega) HQD.out).mono ?_
              rintro e w19 ⟨rfl, hb19⟩
              have B17 := Qt.more BQ BQ.size hb17
              have B18 := Qt.more B17 B17.size hb18
              have B19 := Qt.more B18 B18.size hb19
              go_wp2
              go_ret
              exact ⟨rfl, B19⟩

end Go.Proofs.Ytafoleafhkadiaa
