/-
  Layer 12's laws: FreeCounts.
-/
import Derived.Test.YtocepdhjkhhpfaaB10
import Derived.Test.YtocepdhjkhhpfaaB11
namespace Go.Proofs.Ytocepdhjkhhpfaa
set_option maxRecDepth 100000
set_option linter.unusedVariables false
set_option linter.unusedSimpArgs false
open Go.RowKit Go.Sort

theorem held_step (l : List Wk) {k : Nat} (h : k < l.length) : heldL (l.take (k + 1)) = if 0 ≤ (l.getD k deadW).out then heldL (l.take k) ++ [(l.getD k deadW).out] else heldL (l.take k) := by
  have e0 : l.take (k + 1) = l.take k ++ [l.getD k deadW] := by rw [List.take_add_one, List.getD_eq_getElem?_getD, List.getElem?_eq_getElem h]; rfl
  rw [e0]
  generalize l.getD k deadW = x
  unfold heldL
  rw [List.filter_append, List.map_append]
  by_cases h0 : 0 ≤ x.out
  · rw [if_pos h0]; simp [h0]
  · rw [if_neg h0]; simp [h0]
theorem held_bd (l : List Wk) : (heldL l).length ≤ l.length := by unfold heldL; rw [List.length_map]; exact List.length_filter_le _ _
theorem held_range {l : List Wk} (h : ∀ w ∈ l, -1 ≤ w.out ∧ w.out ≤ 1000) : ∀ x ∈ heldL l, 0 ≤ x ∧ x ≤ 1000 := by
  intro x hx
  unfold heldL at hx
  obtain ⟨w, hw, rfl⟩ := List.mem_map.1 hx
  obtain ⟨h1, h2⟩ := List.mem_filter.1 hw
  exact ⟨by simpa using h2, (h w h1).2⟩
def backTo (H : List Int) (k : Nat) : List Wk := (H.take k).map pushW
theorem backTo_len {H : List Int} {k : Nat} (h : k ≤ H.length) : (backTo H k).length = k := by unfold backTo; simp; omega
theorem backTo_succ {H : List Int} {k : Nat} (h : k < H.length) : backTo H (k + 1) = backTo H k ++ [pushW (H.getD k 0)] := by
  unfold backTo
  rw [List.take_add_one, List.map_append, List.getD_eq_getElem?_getD, List.getElem?_eq_getElem h]
  rfl
theorem backTo_all (H : List Int) : backTo H H.length = H.map pushW := by unfold backTo; rw [List.take_length]
theorem popI_rep' (k : Nat) : ∀ j, j < (List.replicate k popW).length → FitW ((List.replicate k popW).getD j deadW) := by
  intro j hj
  rw [List.getD_eq_getElem?_getD, List.getElem?_eq_getElem hj, Option.getD_some, List.getElem_replicate]
  exact pop_fit
set_option maxHeartbeats 16000000 in
theorem freeCounts_law (c : Int) (A : Option Addr) (raw : List Int) (cA : Nat) (P : Option Addr) (picks : List Int) (cP : Nat) (w : World) (hc : I64 c) (hA : InL w A raw cA) (hP : InL w P picks cP) :
    Calls Try.prog 6 #[.int .i64 c, .slice A raw.length cA, .slice P picks.length cP] w fun e w' => e = .returned (.bool true) ∧ Below w.heap.size w w' := by
  have HA := Lib.hid hA
  have HP := Lib.hid hP
  have hpb := pickI_bd c 7 (by omega)
  obtain ⟨n, hn⟩ : ∃ n : Nat, pickI c 7 = n := ⟨(pickI c 7).toNat, by omega⟩
  have hn6 : n ≤ 6 := by omega
  have hpk := fun W => pick12_any c 7 W hc (by omega) (by omega)
  rw [hn] at hpk
  clear hA hP hpb hn hc
  go_enter Try.func6, Try.ntmps6
  go_wp2_with fail
  refine (awake12_any w).mono ?_
  rintro e w1 ⟨rfl, hb1⟩
  go_wp2_with fail
  refine (hpk w1).mono ?_
  rintro e w2 ⟨rfl, rfl⟩
  clear hpk
  go_wp2_with fail
  refine (makeF_any n (by omega) w1).mono ?_
  rintro e w2 ⟨v, rfl, hO2, hb2⟩
  obtain ⟨A9, c9, rfl, -, hN2⟩ := own_slice hO2
  have hB2 := Qt.more hb1 hb1.size hb2
  rw [makeL_len]
  have hcr := crowd_any A none raw [] cA 0 w2 (HA.out.below hB2) (now_nil _ _) (by simp)
  rw [crowdL_nil] at hcr
  have HN := Lib.hid (And.intro hN2 hB2)
  clear hb1 hO2 hb2 hN2 hB2
  go_wp2_with fail
  refine hcr.mono ?_
  rintro e w3 ⟨v, rfl, hO3, hb3⟩
  obtain ⟨AL, cL, rfl, -, hNL⟩ := hO3.slice
  obtain ⟨L, hL⟩ : ∃ L, min raw.length 8 = L := ⟨_, rfl⟩
  have hL8 : L ≤ 8 := by omega
  rw [hL] at hNL hO3 ⊢
  rw [List.length_replicate]
  obtain ⟨a, l, b, kk, q, s, t, hK⟩ := counts n L hn6 hL8 picks
  have HB3 := Lib.hid (Qt.more HN.out.2 HN.out.2.size hb3)
  have hr := runF_any A9 P AL (makeL n) picks (List.replicate L popW) c9 cP cL 0 w3 (HN.out.1.below hb3) (by rw [makeL_len]; omega) (makeL_wd (by omega)) (HP.out.below HB3.out) hNL (fun j hj => (popI_rep' L j hj)) (by decide) (by decide)
  rw [hK.run1, makeL_len, List.length_replicate] at hr
  have HK := Lib.hid hK
  clear hcr hO3 hb3 HN HA hL hNL hK
  go_wp2_with fail
  refine hr.mono ?_
  rintro e w4 ⟨A2, c2, L2, d2, rfl, hN4, hW4, hb4⟩
  clear hr
  simp only at hN4 hW4 ⊢
  rw [HK.out.alen, HK.out.llen]
  have HS := Lib.hid (And.intro hN4 (And.intro hW4 (Qt.more HB3.out HB3.out.size hb4)))
  clear hN4 hW4 hb4 HB3
  go_wp2_with fail
  go_loopw [13, 14, 15] (fun tk v i wr => ∃ k : Nat, k ≤ L ∧ i = .int .i64 k ∧ tk = .int .i64 ((heldL (l.take k)).length : Int) ∧ Hid (Own wr w4.heap.size v (heldL (l.take k)) ∧ Below w4.heap.size w4 wr)) (fun _ _ i _ => L - (intOf i).toNat)
  case atStart => exact ⟨0, Nat.zero_le _, rfl, rfl, (show Hid _ from ⟨World.ownsRow_nil _ _ _ _, Below.refl _ _⟩)⟩
  case round =>
    obtain ⟨k, hk, rfl, rfl, HO⟩ := hrel
    have hllen := HK.out.llen
    have hbd := held_bd (l.take k)
    rw [List.length_take] at hbd
    by_cases hlt : k < L
    · have hltz : (k : Int) < (L : Int) := by omega
      obtain ⟨b2, off2, hL2, hb2l, hc2⟩ := nowWk_row HS.out.2.1 (by omega)
      have hcW := (hc2 k (by omega)).below (HO.out.2.block b2 hb2l)
      have hsu := held_step l (show k < l.length by omega)
      have hout := HK.out.outs (l.getD k deadW) (by rw [List.getD_eq_getElem?_getD, List.getElem?_eq_getElem (by omega)]; exact List.getElem_mem _)
      obtain ⟨⟨xpc, xjob, x0, x1, x2, xd, xo⟩, hxx⟩ : ∃ x, x = l.getD k deadW := ⟨_, rfl⟩
      rw [← hxx] at hcW hsu hout
      have y11 := hcW.c11
      simp only at y11 hsu hout
      obtain ⟨hd, hhd⟩ : ∃ hd, hd = heldL (l.take k) := ⟨_, rfl⟩
      rw [← hhd] at hsu hbd HO ⊢
      have hdl : hd.length ≤ 8 := by omega
      subst hL2
      clear hc2 hcW hxx hhd hbd hllen
      by_cases h0 : 0 ≤ xo
      · rw [if_pos h0] at hsu
        have HSU := Lib.hid hsu
        obtain ⟨A3, c3, hv, -, -⟩ := own_slice HO.out.1
        obtain ⟨v', w5, hrun, hO5, hg5⟩ := pushW_any xo HO.out.2.size HO.out.1 (by omega)
        have hB5 := HO.out.2.grown hg5 HO.out.2.size (fun k e => (World.ownsRow.lt HO.out.1 k e).1)
        have HRun := Lib.hid hrun
        have HN := Lib.hid (And.intro hO5 hB5)
        subst hv
        clear hsu hrun hO5 hg5 hB5 hout
        go_wp2_with (at_builtin; refine Lib.wpList_append_run _ rfl (.tmp 58) (.tmp 64) 23 23 rfl _ _ rfl rfl _ _ HRun.out ?_)
        go_roundw
        case measure => simp [intOf]; omega
        case rel => exact ⟨k + 1, by omega, by go_num, by rw [HSU.out, List.length_append, List.length_singleton]; go_num, (show Hid _ from by rw [HSU.out]; exact HN.out)⟩
      · rw [if_neg h0] at hsu
        have HSU := Lib.hid hsu
        clear hsu hout
        go_wp2_with fail
        go_roundw
        case measure => simp [intOf]; omega
        case rel => exact ⟨k + 1, by omega, by go_num, by rw [HSU.out], (show Hid _ from by rw [HSU.out]; exact HO.out)⟩
    · obtain rfl : k = L := by omega
      have hltz : ¬ (k : Int) < (k : Int) := by omega
      have htk : l.take k = l := by rw [← hllen, List.take_length]
      rw [htk] at HO ⊢
      have htook := HK.out.took
      have hleast := HK.out.least
      obtain ⟨q2, hq2⟩ : ∃ H, H = heldL l := ⟨_, rfl⟩
      rw [← hq2] at HO htook ⊢
      have hHr := held_range HK.out.outs
      rw [← hq2] at hHr
      have hrun2 := HK.out.run2
      rw [← hq2] at hrun2
      rw [htook]
      obtain ⟨A5, c5, hv5, -, hN5⟩ := own_slice HO.out.1
      rw [htook] at hv5
      have hq8 : q ≤ 8 := by omega
      have HH := Lib.hid (And.intro hN5 (And.intro HO.out.2 (And.intro htook (And.intro hHr (And.intro hrun2 hleast)))))
      subst hv5
      clear htk hbd hllen htook hleast hq2 hHr hrun2 hN5 HO
      go_wp2
      obtain ⟨w5, hw5⟩ : ∃ w5, w5 = wr := ⟨_, rfl⟩
      rw [← hw5] at HH ⊢
      clear hw5
      go_loopw [16, 17] (fun v i wr => ∃ j : Nat, j ≤ q ∧ i = .int .i64 j ∧ Hid (OwnWk wr w5.heap.size v (backTo q2 j) ∧ Below w5.heap.size w5 wr)) (fun _ i _ => q - (intOf i).toNat)
      case atStart => exact ⟨0, Nat.zero_le _, rfl, (show Hid _ from ⟨World.ownsRow_nil _ _ _ _, Below.refl _ _⟩)⟩
      case round =>
        obtain ⟨j, hj, rfl, HO⟩ := hrel
        have hlen := backTo_len (H := q2) (k := j) (by have := HH.out.2.2.1; omega)
        by_cases hlt : j < q
        · have hltz2 : (j : Int) < (q : Int) := by omega
          have hjq : j < q2.length := by have := HH.out.2.2.1; omega
          obtain ⟨b5, off5, rfl, hb5, hc5⟩ := Rd.at_ HH.out.1 (by omega)
          have y0 := (HO.out.2.cell (p := ⟨b5, off5 + j, none⟩) hb5).trans (hc5 j hjq)
          have hsu := backTo_succ hjq
          obtain ⟨x, hx⟩ : ∃ x, x = q2.getD j 0 := ⟨_, rfl⟩
          rw [← hx] at y0 hsu
          obtain ⟨o, ho⟩ : ∃ o, o = backTo q2 j := ⟨_, rfl⟩
          rw [← ho] at hsu hlen HO
          obtain ⟨A6, c6, hv, -, -⟩ := HO.out.1.slice
          rw [hlen] at hv
          subst hv
          have HSU := Lib.hid hsu
          clear hc5 hx ho hsu
          go_wp2_with fail
          refine (pushF_any x wr).mono ?_
          rintro r w6 ⟨rfl, hb6⟩
          have hB6 := Qt.more HO.out.2 HO.out.2.size hb6
          obtain ⟨v', w7, hrun, hown, _, hb7⟩ := pushWk_any (pushW x) hB6.size (HO.out.1.next hb6) (by omega)
          have HRun := Lib.hid hrun
          have HN := Lib.hid (And.intro hown (hB6.trans hb7))
          clear hb6 hB6 hrun hown hb7 y0
          go_wp2_with (at_builtin; refine Lib.wpList_append_run _ rfl (.tmp 72) (.tmp 78) 27 27 rfl _ _ rfl rfl _ _ HRun.out ?_)
          go_roundw
          case measure => simp [intOf]; omega
          case rel => exact ⟨j + 1, by omega, by go_num, (show Hid _ from by rw [HSU.out]; exact HN.out)⟩
        · obtain rfl : j = q := by omega
          have hltz2 : ¬ (j : Int) < (j : Int) := by omega
          have hba : backTo q2 j = q2.map pushW := by rw [← HH.out.2.2.1, backTo_all]
          have hO := HO.out
          rw [hba] at hO
          obtain ⟨A6, c6, hv, -, hN6⟩ := hO.1.slice
          rw [show (q2.map pushW).length = j by rw [List.length_map]; exact HH.out.2.2.1] at hv
          subst hv
          have hB45 := Qt.more HH.out.2.1 HH.out.2.1.size hO.2
          have hr := runF_any A2 P A6 a picks (q2.map pushW) c2 cP c6 0 wr (HS.out.1.below hB45) (by rw [HK.out.alen]; omega) HK.out.awd (HP.out.below (Qt.more HS.out.2.2 HS.out.2.2.size hB45)) hN6 (fun i hi => by
            rw [List.getD_eq_getElem?_getD, List.getElem?_eq_getElem hi, Option.getD_some, List.getElem_map]
            have := HH.out.2.2.2.1 _ (List.getElem_mem (by simpa using hi))
            exact push_fit ⟨this.1, by omega⟩) (by decide) (by decide)
          rw [HH.out.2.2.2.2.1, HK.out.alen, show (q2.map pushW).length = j by rw [List.length_map]; exact HH.out.2.2.1] at hr
          have HB45 := Lib.hid hB45
          clear hba hO hN6 hB45 HO hlen
          go_wp2_with fail
          refine hr.mono ?_
          rintro e w6 ⟨A7, c7, L7, d7, rfl, hN7, hW7, hb7⟩
          clear hr
          simp only at hN7 hW7 ⊢
          rw [HK.out.blen, HK.out.klen]
          have hb4 := Qt.more HB45.out HB45.out.size hb7
          have hNa := HS.out.1.below hb4
          obtain ⟨ba, offa, hAa, -, hca⟩ := Rd.at_ hNa (by rw [HK.out.alen]; omega)
          have ya := hca 0 (by rw [HK.out.alen]; omega)
          obtain ⟨bb, offb, hAb, -, hcb⟩ := Rd.at_ hN7 (by rw [HK.out.blen]; omega)
          have yb := hcb 0 (by rw [HK.out.blen]; omega)
          rw [HK.out.ahead, Nat.add_zero] at ya
          rw [HK.out.bhead, Nat.add_zero] at yb
          have hsb := HK.out.sbd
          have htb := HK.out.tbd
          obtain ⟨za, hza⟩ : ∃ z, z = (j : Int) * 1048576 + s := ⟨_, rfl⟩
          obtain ⟨zb, hzb⟩ : ∃ z, z = (2 * (j : Int)) * 1048576 + t := ⟨_, rfl⟩
          rw [← hza] at ya
          rw [← hzb] at yb
          have da : za.tdiv 1048576 = (j : Int) := by rw [Int.tdiv_eq_ediv_of_nonneg (by omega)]; omega
          have db : zb.tdiv 1048576 = 2 * (j : Int) := by rw [Int.tdiv_eq_ediv_of_nonneg (by omega)]; omega
          have hmin := HH.out.2.2.2.2.2
          have hmi : min (k : Int) (n : Int) = (j : Int) := by omega
          have HE := Lib.hid (And.intro hN7 (Qt.more HS.out.2.2 HS.out.2.2.size hb4))
          subst hAa hAb
          have hfr := freeF_any _ b c7 w6 HE.out.1 (by rw [HK.out.blen]; omega) HK.out.bwd
          rw [HK.out.blen] at hfr
          clear hN7 hW7 hb7 hb4 hNa hca hcb hza hzb hsb htb hmin
          go_wp2_with fail
          all_goals
            refine hfr.mono ?_
            rintro e w7 ⟨v, rfl, hO8, hb8⟩
            obtain ⟨A8, c8, rfl, -, -⟩ := own_slice hO8
            rw [HK.out.free]
            have HB := Lib.hid (Qt.more HE.out.2 HE.out.2.size hb8)
            clear hfr hO8 hb8
            go_wp2_with fail
            go_ret
            exact ⟨rfl, HB.out⟩
end Go.Proofs.Ytocepdhjkhhpfaa
