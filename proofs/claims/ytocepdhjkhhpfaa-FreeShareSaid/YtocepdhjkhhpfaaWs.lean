/-
  Layer 12's laws: FreeShare.
-/
import Derived.Test.YtocepdhjkhhpfaaB10
import Derived.Test.YtocepdhjkhhpfaaB11
namespace Go.Proofs.Ytocepdhjkhhpfaa
set_option maxRecDepth 100000
set_option linter.unusedVariables false
set_option linter.unusedSimpArgs false
open Go.RowKit Go.Sort

theorem popI_set {n f : Nat} {l : List Wk} (h : ∀ j, j < l.length → PopI n f (l.getD j deadW)) (T : Nat) {u : Wk} {g : Nat} (hu : PopI n g u) (hg : f ≤ g) : ∀ j, j < (l.set T u).length → PopI n g ((l.set T u).getD j deadW) := by
  intro j hj
  rw [List.length_set] at hj
  rw [List.getD_eq_getElem?_getD, List.getElem?_set]
  by_cases e : T = j
  · rw [if_pos e, if_pos (by omega)]; exact hu
  · rw [if_neg e, ← List.getD_eq_getElem?_getD]; exact (h j hj).mono hg
theorem popI_rep (n k : Nat) : ∀ j, j < (List.replicate k popW).length → PopI n 0 ((List.replicate k popW).getD j deadW) := by
  intro j hj
  rw [List.getD_eq_getElem?_getD, List.getElem?_eq_getElem hj, Option.getD_some, List.getElem_replicate]
  exact popI_new n
/-- What is known at the head of the steps. -/
structure ShaAt (n f L : Nat) (AL : Option Addr) (cL : Nat) (A9 : Option Addr) (c9 : Nat) (ll : List Wk) (w wr : World) : Prop where
  words : Now wr A9 (wds n f)
  out : OwnWk wr w.heap.size (.slice AL L cL) ll
  len : ll.length = L
  inv : ∀ j, j < ll.length → PopI n f (ll.getD j deadW)
  fn : f ≤ n
  bel : Below w.heap.size w wr
set_option maxHeartbeats 16000000 in
theorem freeShare_law (c : Int) (A : Option Addr) (raw : List Int) (cA : Nat) (P : Option Addr) (picks : List Int) (cP : Nat) (w : World) (hc : I64 c) (hA : InL w A raw cA) (hP : InL w P picks cP) :
    Calls Try.prog 7 #[.int .i64 c, .slice A raw.length cA, .slice P picks.length cP] w fun e w' => e = .returned (.bool true) ∧ Below w.heap.size w w' := by
  have HA := Lib.hid hA
  have HP := Lib.hid hP
  have hpb := pickI_bd c 7 (by omega)
  obtain ⟨n, hn⟩ : ∃ n : Nat, pickI c 7 = n := ⟨(pickI c 7).toNat, by omega⟩
  have hn6 : n ≤ 6 := by omega
  have hpk := fun W => pick12_any c 7 W hc (by omega) (by omega)
  rw [hn] at hpk
  clear hA hP hpb hn hc
  go_enter Try.func7, Try.ntmps7
  go_wp2_with fail
  refine (awake12_any w).mono ?_
  rintro e w1 ⟨rfl, hb1⟩
  go_wp2_with fail
  refine (hpk w1).mono ?_
  rintro e w2 ⟨rfl, rfl⟩
  clear hpk
  go_wp2_with fail
  refine (makeF_any n (by omega) w1).mono ?_
  rintro e w2 ⟨v, rfl, hO2, hb2⟩
  obtain ⟨A9, c9, rfl, -, hN2⟩ := own_slice hO2
  have hB2 := Qt.more hb1 hb1.size hb2
  rw [makeL_len] at *
  have hcr := crowd_any A none raw [] cA 0 w2 (HA.out.below hB2) (now_nil _ _) (by simp)
  rw [crowdL_nil] at hcr
  have HN := Lib.hid (And.intro hN2 hB2)
  clear hb1 hO2 hb2 hN2 hB2
  go_wp2_with fail
  refine hcr.mono ?_
  rintro e w3 ⟨v, rfl, hO3, hb3⟩
  obtain ⟨AL, cL, rfl, -, -⟩ := hO3.slice
  obtain ⟨L, hL⟩ : ∃ L, (List.replicate (min raw.length 8) popW).length = L := ⟨_, rfl⟩
  have hL8 : L ≤ 8 := by rw [← hL, List.length_replicate]; omega
  rw [hL]
  have H0 : Hid (ShaAt n 0 L AL cL A9 c9 (List.replicate (min raw.length 8) popW) w w3) := ⟨by rw [wds_zero]; exact HN.out.1.below hb3, by rw [← hL]; exact ownWk_mono hO3 HN.out.2.size, hL, popI_rep n _, Nat.zero_le _, Qt.more HN.out.2 HN.out.2.size hb3⟩
  generalize List.replicate (min raw.length 8) popW = l0 at *
  clear hcr hO3 hb3 HN HA hL
  go_wp2_with fail
  go_loopw [9, 11] (fun v i wr => ∃ (k f : Nat) (ll : List Wk) (A9 : Option Addr) (c9 : Nat), v = .slice A9 (n + 1) c9 ∧ i = .int .i64 k ∧ k ≤ 40 ∧ Hid (ShaAt n f L AL cL A9 c9 ll w wr)) (fun _ i _ => 40 - (intOf i).toNat)
  case atStart => exact ⟨0, 0, l0, A9, c9, rfl, rfl, by omega, H0⟩
  case round =>
    clear H0
    obtain ⟨k, f, ll, A9, c9, rfl, rfl, hk40, HS⟩ := hrel
    by_cases hlt : k < picks.length ∧ k < 40 ∧ 0 < L
    · obtain ⟨t1, t2, t3⟩ := hlt
      have H := HS.out
      have hltz : (k : Int) < (picks.length : Int) := by omega
      have hPw := HP.out.below H.bel
      obtain ⟨b, off, rfl, hbB, hcell⟩ := Rd.at_ hPw.now (by omega)
      have y0 := hcell k t1
      have hfit := hPw.fit k t1
      obtain ⟨x, hx⟩ : ∃ x, x = picks.getD k 0 := ⟨_, rfl⟩
      rw [← hx] at y0 hfit
      have hpb := pickI_bd x L (by omega)
      have hpk := pick12_any x L wr hfit (by omega) (by omega)
      obtain ⟨T, hT⟩ : ∃ T : Nat, pickI x L = T := ⟨(pickI x L).toNat, by omega⟩
      rw [hT] at hpk
      have hTl : T < L := by omega
      obtain ⟨g2, hA2, -, hg2l, hfz2, hce2⟩ := OwnWk.row (A := AL) (c := cL) (l := ll) (by rw [H.len]; exact H.out) (by rw [H.len]; omega)
      subst hA2
      have hcW := hce2 T (by rw [H.len]; exact hTl)
      have hinv := H.inv T (by rw [H.len]; exact hTl)
      obtain ⟨⟨xpc, xjob, x0, x1, x2, xd, xo⟩, hxx⟩ : ∃ x, x = ll.getD T deadW := ⟨_, rfl⟩
      rw [← hxx] at hcW hinv
      have HX := Lib.hid hxx
      have HI := Lib.hid hinv
      have p1 : (0 : Int) < (L : Int) := by omega
      clear hcell hx hpb hT hfit hPw hfz2 hce2 hxx hinv H
      cases xd with
      | true =>
        have z10 := hcW.c10
        simp only at z10
        clear hcW
        go_wp2_with fail
        refine hpk.mono ?_
        rintro e w4 ⟨rfl, rfl⟩
        clear hpk y0
        go_wp2_with fail
        go_roundw
        case measure => simp [intOf]; omega
        case rel => exact ⟨k + 1, f, ll, A9, c9, rfl, by go_num, by omega, HS⟩
      | false =>
        obtain ⟨u, g, hstep, hu, hgn, hcase⟩ := pop_step (by omega) HS.out.fn HI.out rfl
        have hst := stepG_any ⟨xpc, xjob, x0, x1, x2, false, xo⟩ 0 (wds n f) (wds n g, u, 0) A9 c9 wr HS.out.words (by rw [wds_len]; omega) (by rw [wds_len, wds_len]) (fun A1 c1 b1 B1 W q1 q2 q3 => by
          rw [← hstep]
          exact stepL_any _ 0 (wds n f) A1 c1 b1 W (HI.out.fit.fine rfl) (by decide) (by decide) (wds_wd (by omega) (by have := HS.out.fn; omega)) q1 q2 (by rw [wds_len]; omega) q3)
        rw [wds_len] at hst
        have y1 := hcW.c0
        have y2 := hcW.c1
        have y3 := hcW.c2
        have y4 := hcW.c3
        have y5 := hcW.c4
        have y6 := hcW.c5
        have y7 := hcW.c6
        have y8 := hcW.c7
        have y9 := hcW.c8
        have y10 := hcW.c9
        have y11 := hcW.c10
        have y12 := hcW.c11
        simp only at y1 y2 y3 y4 y5 y11 y12
        have HU := Lib.hid (And.intro hu (And.intro hgn hcase))
        clear hcW hstep hu hgn hcase
        go_wp2_with fail
        refine hpk.mono ?_
        rintro e w4 ⟨rfl, rfl⟩
        clear hpk y0
        go_wp2_with fail
        refine hst.mono ?_
        rintro e w4 ⟨A8, c8, rfl, hO4, hb4⟩
        obtain ⟨A8', c8', he8, -, hN4⟩ := own_slice hO4
        injection he8 with e81 e82 e83
        rw [← e81] at hN4
        have HB8 : Hid (∀ q : Nat, (Value.slice A8 (wds n g).length c8).ownBlock = some q → wr.heap.size ≤ q) := fun q e => (World.ownsRow.lt hO4 q e).1
        rw [wds_len] at HB8
        clear hO4 e81 e82 e83
        clear hst y1 y2 y3 y4 y5 y6 y7 y8 y9 y10 y11 y12
        rw [wds_len]
        obtain ⟨upc, ujob, u0, u1, u2, ud, uo⟩ := u
        have hal := (Below.refl w4.heap.size w4).alloc (Nat.le_refl _) (.cells #[.int .i64 upc, .int .i64 ujob, .int .i64 u0, .int .i64 u1, .int .i64 u2, .int .i64 0, .int .i64 0, .int .i64 0, .int .i64 0, .int .i64 0, .bool ud, .int .i64 uo] 39)
        have hrow := heap_alloc_new w4 (.cells #[.int .i64 upc, .int .i64 ujob, .int .i64 u0, .int .i64 u1, .int .i64 u2, .int .i64 0, .int .i64 0, .int .i64 0, .int .i64 0, .int .i64 0, .bool ud, .int .i64 uo] 39)
        have hsz : w4.heap.size < (w4.alloc (.cells #[.int .i64 upc, .int .i64 ujob, .int .i64 u0, .int .i64 u1, .int .i64 u2, .int .i64 0, .int .i64 0, .int .i64 0, .int .i64 0, .int .i64 0, .bool ud, .int .i64 uo] 39)).heap.size := by simp
        obtain ⟨w5, hw5⟩ : ∃ w5, w4.alloc (.cells #[.int .i64 upc, .int .i64 ujob, .int .i64 u0, .int .i64 u1, .int .i64 u2, .int .i64 0, .int .i64 0, .int .i64 0, .int .i64 0, .int .i64 0, .bool ud, .int .i64 uo] 39) = w5 := ⟨_, rfl⟩
        rw [hw5] at hal hrow hsz
        have hb5 := Qt.more hb4 hb4.size hal
        have HW5 := Lib.hid hw5
        have H5 := Lib.hid (And.intro (HS.out.words.below hb5) (And.intro (hN4.below hal) (And.intro (HS.out.out.next hb5) (And.intro (Qt.more HS.out.bel HS.out.bel.size hb5) (And.intro hrow hsz)))))
        have hgs := Nat.le_trans HS.out.bel.size hb4.size
        clear hN4 hb4 hal hrow hsz hw5 hb5
        go_wp2_with (rw [HW5.out])
        go_loopw [16, 17] (fun q i wr => ∃ j : Nat, j ≤ n + 1 ∧ i = .int .i64 j ∧ q = .int .i64 (if j = 0 then 0 else if g = f then 0 else 1) ∧ Hid (Below w5.heap.size w5 wr)) (fun _ i _ => n + 1 - (intOf i).toNat)
        case atStart => exact ⟨0, Nat.zero_le _, rfl, rfl, (show Hid _ from Below.refl _ _)⟩
        case round =>
          obtain ⟨j, hj, rfl, rfl, hwj⟩ := hrel
          obtain ⟨wj, hwje⟩ : ∃ wj, wj = wr := ⟨_, rfl⟩
          rw [← hwje] at hwj ⊢
          clear hwje
          have HJ : Hid (Now wj A9 (wds n f) ∧ Now wj A8 (wds n g) ∧ OwnWk wj w.heap.size (.slice (some ⟨g2, 0, none⟩) L cL) ll ∧ Below w.heap.size w wj ∧ wj.heap[w4.heap.size]? = some (.cells #[.int .i64 upc, .int .i64 ujob, .int .i64 u0, .int .i64 u1, .int .i64 u2, .int .i64 0, .int .i64 0, .int .i64 0, .int .i64 0, .int .i64 0, .bool ud, .int .i64 uo] 39 (0, 0))) :=
            ⟨H5.out.1.below hwj.out, H5.out.2.1.below hwj.out, H5.out.2.2.1.next hwj.out, Qt.more H5.out.2.2.2.1 H5.out.2.2.2.1.size hwj.out, (hwj.out.block _ H5.out.2.2.2.2.2).trans H5.out.2.2.2.2.1⟩
          by_cases hlt : j < n + 1
          · have hltz : (j : Int) < (n : Int) + 1 := by omega
            obtain ⟨b8, off8, hA8, hb8, hc8⟩ := Rd.at_ HJ.out.2.1 (by rw [wds_len]; omega)
            obtain ⟨b9, off9, hA9, hb9, hc9⟩ := Rd.at_ HJ.out.1 (by rw [wds_len]; omega)
            subst hA8 hA9
            have q8 := hc8 j (by rw [wds_len]; omega)
            have q9 := hc9 j (by rw [wds_len]; omega)
            have hval : ((wds n g).getD j 0 != (wds n f).getD j 0) = decide (j = 0 ∧ g ≠ f) := by
              by_cases hj0 : j = 0
              · subst hj0
                rw [wds_get0, wds_get0]
                by_cases hgf : g = f
                · subst hgf; simp
                · have : hdN n g ≠ hdN n f := fun e => hgf (hdN_inj (by omega) e)
                  simp [this, hgf]
              · rw [wds_get n g (by omega), wds_get n f (by omega)]
                simp [hj0]
            obtain ⟨v8, hv8⟩ : ∃ v, v = (wds n g).getD j 0 := ⟨_, rfl⟩
            obtain ⟨v9, hv9⟩ : ∃ v, v = (wds n f).getD j 0 := ⟨_, rfl⟩
            rw [← hv8] at q8 hval
            rw [← hv9] at q9 hval
            have k8 := Qt.cell_in q8
            have k9 := Qt.cell_in q9
            have hn7 : n ≤ 1000 := by omega
            clear hc8 hc9 hv8 hv9 q8 q9
            by_cases hcc : j = 0 ∧ g ≠ f
            · obtain ⟨hj0, hgf⟩ := hcc
              rw [decide_eq_true ⟨hj0, hgf⟩] at hval
              subst hj0
              simp only [Nat.add_zero] at k8 k9
              go_wp2
              refine Qt.below_all (by kernel_rfl) (by kernel_rfl) ?_
              iterate 9 (go_big_quiet_step (fail))
              refine wpQuiet_nil ?_
              intro w6 hb6
              have HB6 := Lib.hid (Qt.more hwj.out hwj.out.size hb6)
              clear k8 k9 hb6
              go_wp2
              go_roundw
              case measure => first | (simp [intOf]; done) | (simp [intOf]; omega)
              case rel => exact ⟨1, by omega, by go_num, by rw [if_neg (by decide), if_neg hgf], HB6⟩
            · rw [decide_eq_false hcc] at hval
              have hq : (if j + 1 = 0 then (0 : Int) else if g = f then 0 else 1) = if j = 0 then 0 else if g = f then 0 else 1 := by
                rw [if_neg (by omega)]
                by_cases hj0 : j = 0
                · rw [if_pos hj0, if_pos (by by_cases h : g = f; exact h; exact absurd ⟨hj0, h⟩ hcc)]
                · rw [if_neg hj0]
              have HQ := Lib.hid hq
              obtain ⟨qv, hqv⟩ : ∃ qv : Int, qv = if j = 0 then 0 else if g = f then 0 else 1 := ⟨_, rfl⟩
              rw [← hqv] at HQ ⊢
              clear hcc hq hqv
              go_wp2
              refine Qt.below_all (by kernel_rfl) (by kernel_rfl) ?_
              iterate 9 (go_big_quiet_step (fail))
              refine wpQuiet_nil ?_
              intro w6 hb6
              have HB6 := Lib.hid (Qt.more hwj.out hwj.out.size hb6)
              clear k8 k9 hb6
              go_wp2
              go_roundw
              case measure => simp [intOf]; omega
              case rel => exact ⟨j + 1, by omega, by go_num, by rw [HQ.out], HB6⟩
          · obtain rfl : j = n + 1 := by omega
            have hltz : ¬ ((n : Int) + 1) < (n : Int) + 1 := by omega
            have hqq : (if n + 1 = 0 then (0 : Int) else if g = f then 0 else 1) = if g = f then 0 else 1 := if_neg (by omega)
            rw [hqq]
            rcases HU.out.2.2 with ⟨hgf, hdone⟩ | ⟨hgf, hpc, hud, huo⟩
            · rw [show (if g = f then (0 : Int) else 1) = 0 from if_pos hgf]
              have HGF := Lib.hid hgf
              clear hgf
              cases ud with
              | false =>
                clear hdone
                obtain ⟨b8, off8, hA8, hb8, hc8⟩ := Rd.at_ HJ.out.2.1 (by rw [wds_len]; omega)
                obtain ⟨b9, off9, hA9, hb9, hc9⟩ := Rd.at_ HJ.out.1 (by rw [wds_len]; omega)
                subst hA8 hA9
                have q8 := hc8 0 (by rw [wds_len]; omega)
                have q9 := hc9 0 (by rw [wds_len]; omega)
                rw [wds_get0, Nat.add_zero] at q8 q9
                obtain ⟨g3, hA3, -, -, hfz3, hce3⟩ := OwnWk.row (A := some ⟨g2, 0, none⟩) (c := cL) (l := ll) (by rw [HS.out.len]; exact HJ.out.2.2.1) (by rw [HS.out.len]; omega)
                injection hA3 with hA3
                injection hA3 with hA3
                subst hA3
                have hcT := hce3 T (by rw [HS.out.len]; exact hTl)
                rw [← HX.out] at hcT
                have z0 := hcT.c0
                simp only at z0
                have e10 : wj.cell? ⟨w4.heap.size, 10, none⟩ = some (.bool false) := by rw [Lib.cell_of_heap HJ.out.2.2.2.2]; rfl
                have e11 : wj.cell? ⟨w4.heap.size, 11, none⟩ = some (.int .i64 uo) := by rw [Lib.cell_of_heap HJ.out.2.2.2.2]; rfl
                have HJ2 := Lib.hid (And.intro hcT hfz3)
                have k1 := Qt.cell_in q8
                have k2 := Qt.cell_in q9
                have k3 := Qt.cell_in z0
                have k4 := Qt.cell_in e10
                have k5 := Qt.cell_in e11
                clear hc8 hc9 q8 q9 z0 e10 e11 hcT hfz3 hce3
                go_wp2
                refine Qt.below_all (by kernel_rfl) (by kernel_rfl) ?_
                iterate 41 (go_big_quiet_step (fail))
                refine wpQuiet_nil ?_
                intro w7 hb7
                clear k1 k2 k3 k4 k5
                have hout7 := HJ.out.2.2.1.next hb7
                have hrow7 := (hb7.block _ (lt_heap6' HJ.out.2.2.2.2)).trans HJ.out.2.2.2.2
                have hfz7 : ∀ q, w7.frozen? ⟨g2, q, none⟩ = false := fun q => (hb7.frozen (p := ⟨g2, q, none⟩) (World.ownsRow.lt HJ.out.2.2.1 g2 rfl).2).trans (HJ2.out.2 q)
                have hc7 := HJ2.out.1.below (hb7.block g2 (World.ownsRow.lt HJ.out.2.2.1 g2 rfl).2)
                obtain ⟨w8, hw8, hout8, hgr8⟩ := OwnWk.set (c := cL) (l := ll) (g := g2) (by rw [HS.out.len]; exact hout7) T (by rw [HS.out.len]; exact hTl) ⟨upc, ujob, u0, u1, u2, false, uo⟩
                simp only at hw8
                rw [HS.out.len] at hout8
                have d0 := hc7.c0
                have d1 := hc7.c1
                have d2 := hc7.c2
                have d3 := hc7.c3
                have d4 := hc7.c4
                have d5 := hc7.c5
                have d6 := hc7.c6
                have d7 := hc7.c7
                have d8 := hc7.c8
                have d9 := hc7.c9
                have d10 := hc7.c10
                have d11 := hc7.c11
                simp only at d0 d1 d2 d3 d4 d10 d11
                have m0 : w7.cell? ⟨w4.heap.size, 0, none⟩ = some (.int .i64 upc) := by rw [Lib.cell_of_heap hrow7]; rfl
                have m1 : w7.cell? ⟨w4.heap.size, 1, none⟩ = some (.int .i64 ujob) := by rw [Lib.cell_of_heap hrow7]; rfl
                have m2 : w7.cell? ⟨w4.heap.size, 2, none⟩ = some (.int .i64 u0) := by rw [Lib.cell_of_heap hrow7]; rfl
                have m3 : w7.cell? ⟨w4.heap.size, 3, none⟩ = some (.int .i64 u1) := by rw [Lib.cell_of_heap hrow7]; rfl
                have m4 : w7.cell? ⟨w4.heap.size, 4, none⟩ = some (.int .i64 u2) := by rw [Lib.cell_of_heap hrow7]; rfl
                have m5 : w7.cell? ⟨w4.heap.size, 5, none⟩ = some (.int .i64 0) := by rw [Lib.cell_of_heap hrow7]; rfl
                have m6 : w7.cell? ⟨w4.heap.size, 6, none⟩ = some (.int .i64 0) := by rw [Lib.cell_of_heap hrow7]; rfl
                have m7 : w7.cell? ⟨w4.heap.size, 7, none⟩ = some (.int .i64 0) := by rw [Lib.cell_of_heap hrow7]; rfl
                have m8 : w7.cell? ⟨w4.heap.size, 8, none⟩ = some (.int .i64 0) := by rw [Lib.cell_of_heap hrow7]; rfl
                have m9 : w7.cell? ⟨w4.heap.size, 9, none⟩ = some (.int .i64 0) := by rw [Lib.cell_of_heap hrow7]; rfl
                have m10 : w7.cell? ⟨w4.heap.size, 10, none⟩ = some (.bool false) := by rw [Lib.cell_of_heap hrow7]; rfl
                have m11 : w7.cell? ⟨w4.heap.size, 11, none⟩ = some (.int .i64 uo) := by rw [Lib.cell_of_heap hrow7]; rfl
                have HW8 := Lib.hid hw8
                have hB7 := Qt.more HJ.out.2.2.2.1 HJ.out.2.2.2.1.size hb7
                have HE := Lib.hid (And.intro hout8 (And.intro (hB7.grown hgr8 hB7.size (fun q e => by injection e with e; have := (World.ownsRow.lt HS.out.out g2 rfl).1; omega)) (And.intro hgr8 (HJ.out.2.1.below hb7))))
                have hlt2 := (World.ownsRow.lt HS.out.out g2 rfl).1
                have HNE : Hid (b8 ≠ g2) := fun e => by have := HB8.out b8 rfl; omega
                clear hb7 hout7 hrow7 hc7 hw8 hout8 hgr8 hB7
                go_wp2_with (rw [HW8.out])
                go_roundw
                case measure => simp [intOf]; omega
                case rel =>
                  refine ⟨k + 1, g, ll.set T ⟨upc, ujob, u0, u1, u2, false, uo⟩, some ⟨b8, off8, none⟩, c8, rfl, by go_num, by omega, (show Hid _ from ⟨?_, HE.out.1, by rw [List.length_set]; exact HS.out.len, popI_set HS.out.inv T HU.out.1 (by have := HGF.out; omega), HU.out.2.1, HE.out.2.1⟩)⟩
                  intro q hq
                  obtain ⟨bq, oq, e1, e2, e3⟩ := HE.out.2.2.2 q hq
                  injection e1 with e1
                  injection e1 with e1 e1'
                  subst e1 e1'
                  exact ⟨b8, off8, rfl, Nat.lt_of_lt_of_le e2 HE.out.2.2.1.size, by
                    rw [← e3]
                    have := HE.out.2.2.1.block b8 e2 (fun e => by injection e with e; exact HNE.out e)
                    simp [World.cell?, this]⟩
              | true =>
                obtain ⟨huo, -⟩ := hdone rfl
                try simp only at huo
                subst huo
                obtain ⟨b8, off8, hA8, hb8, hc8⟩ := Rd.at_ HJ.out.2.1 (by rw [wds_len]; omega)
                obtain ⟨b9, off9, hA9, hb9, hc9⟩ := Rd.at_ HJ.out.1 (by rw [wds_len]; omega)
                subst hA8 hA9
                have q8 := hc8 0 (by rw [wds_len]; omega)
                have q9 := hc9 0 (by rw [wds_len]; omega)
                rw [wds_get0, Nat.add_zero] at q8 q9
                obtain ⟨g3, hA3, -, -, hfz3, hce3⟩ := OwnWk.row (A := some ⟨g2, 0, none⟩) (c := cL) (l := ll) (by rw [HS.out.len]; exact HJ.out.2.2.1) (by rw [HS.out.len]; omega)
                injection hA3 with hA3
                injection hA3 with hA3
                subst hA3
                have hcT := hce3 T (by rw [HS.out.len]; exact hTl)
                rw [← HX.out] at hcT
                have z0 := hcT.c0
                simp only at z0
                have e10 : wj.cell? ⟨w4.heap.size, 10, none⟩ = some (.bool true) := by rw [Lib.cell_of_heap HJ.out.2.2.2.2]; rfl
                have e11 : wj.cell? ⟨w4.heap.size, 11, none⟩ = some (.int .i64 (-1)) := by rw [Lib.cell_of_heap HJ.out.2.2.2.2]; rfl
                have HJ2 := Lib.hid (And.intro hcT hfz3)
                have k1 := Qt.cell_in q8
                have k2 := Qt.cell_in q9
                have k3 := Qt.cell_in z0
                have k4 := Qt.cell_in e10
                have k5 := Qt.cell_in e11
                clear hc8 hc9 q8 q9 z0 e10 e11 hcT hfz3 hce3
                go_wp2
                refine Qt.below_all (by kernel_rfl) (by kernel_rfl) ?_
                iterate 41 (go_big_quiet_step (fail))
                refine wpQuiet_nil ?_
                intro w7 hb7
                clear k1 k2 k3 k4 k5
                have hout7 := HJ.out.2.2.1.next hb7
                have hrow7 := (hb7.block _ (lt_heap6' HJ.out.2.2.2.2)).trans HJ.out.2.2.2.2
                have hfz7 : ∀ q, w7.frozen? ⟨g2, q, none⟩ = false := fun q => (hb7.frozen (p := ⟨g2, q, none⟩) (World.ownsRow.lt HJ.out.2.2.1 g2 rfl).2).trans (HJ2.out.2 q)
                have hc7 := HJ2.out.1.below (hb7.block g2 (World.ownsRow.lt HJ.out.2.2.1 g2 rfl).2)
                obtain ⟨w8, hw8, hout8, hgr8⟩ := OwnWk.set (c := cL) (l := ll) (g := g2) (by rw [HS.out.len]; exact hout7) T (by rw [HS.out.len]; exact hTl) ⟨upc, ujob, u0, u1, u2, true, (-1)⟩
                simp only at hw8
                rw [HS.out.len] at hout8
                have d0 := hc7.c0
                have d1 := hc7.c1
                have d2 := hc7.c2
                have d3 := hc7.c3
                have d4 := hc7.c4
                have d5 := hc7.c5
                have d6 := hc7.c6
                have d7 := hc7.c7
                have d8 := hc7.c8
                have d9 := hc7.c9
                have d10 := hc7.c10
                have d11 := hc7.c11
                simp only at d0 d1 d2 d3 d4 d10 d11
                have m0 : w7.cell? ⟨w4.heap.size, 0, none⟩ = some (.int .i64 upc) := by rw [Lib.cell_of_heap hrow7]; rfl
                have m1 : w7.cell? ⟨w4.heap.size, 1, none⟩ = some (.int .i64 ujob) := by rw [Lib.cell_of_heap hrow7]; rfl
                have m2 : w7.cell? ⟨w4.heap.size, 2, none⟩ = some (.int .i64 u0) := by rw [Lib.cell_of_heap hrow7]; rfl
                have m3 : w7.cell? ⟨w4.heap.size, 3, none⟩ = some (.int .i64 u1) := by rw [Lib.cell_of_heap hrow7]; rfl
                have m4 : w7.cell? ⟨w4.heap.size, 4, none⟩ = some (.int .i64 u2) := by rw [Lib.cell_of_heap hrow7]; rfl
                have m5 : w7.cell? ⟨w4.heap.size, 5, none⟩ = some (.int .i64 0) := by rw [Lib.cell_of_heap hrow7]; rfl
                have m6 : w7.cell? ⟨w4.heap.size, 6, none⟩ = some (.int .i64 0) := by rw [Lib.cell_of_heap hrow7]; rfl
                have m7 : w7.cell? ⟨w4.heap.size, 7, none⟩ = some (.int .i64 0) := by rw [Lib.cell_of_heap hrow7]; rfl
                have m8 : w7.cell? ⟨w4.heap.size, 8, none⟩ = some (.int .i64 0) := by rw [Lib.cell_of_heap hrow7]; rfl
                have m9 : w7.cell? ⟨w4.heap.size, 9, none⟩ = some (.int .i64 0) := by rw [Lib.cell_of_heap hrow7]; rfl
                have m10 : w7.cell? ⟨w4.heap.size, 10, none⟩ = some (.bool true) := by rw [Lib.cell_of_heap hrow7]; rfl
                have m11 : w7.cell? ⟨w4.heap.size, 11, none⟩ = some (.int .i64 (-1)) := by rw [Lib.cell_of_heap hrow7]; rfl
                have HW8 := Lib.hid hw8
                have hB7 := Qt.more HJ.out.2.2.2.1 HJ.out.2.2.2.1.size hb7
                have HE := Lib.hid (And.intro hout8 (And.intro (hB7.grown hgr8 hB7.size (fun q e => by injection e with e; have := (World.ownsRow.lt HS.out.out g2 rfl).1; omega)) (And.intro hgr8 (HJ.out.2.1.below hb7))))
                have hlt2 := (World.ownsRow.lt HS.out.out g2 rfl).1
                have HNE : Hid (b8 ≠ g2) := fun e => by have := HB8.out b8 rfl; omega
                clear hb7 hout7 hrow7 hc7 hw8 hout8 hgr8 hB7
                go_wp2_with (rw [HW8.out])
                go_roundw
                case measure => simp [intOf]; omega
                case rel =>
                  refine ⟨k + 1, g, ll.set T ⟨upc, ujob, u0, u1, u2, true, (-1)⟩, some ⟨b8, off8, none⟩, c8, rfl, by go_num, by omega, (show Hid _ from ⟨?_, HE.out.1, by rw [List.length_set]; exact HS.out.len, popI_set HS.out.inv T HU.out.1 (by have := HGF.out; omega), HU.out.2.1, HE.out.2.1⟩)⟩
                  intro q hq
                  obtain ⟨bq, oq, e1, e2, e3⟩ := HE.out.2.2.2 q hq
                  injection e1 with e1
                  injection e1 with e1 e1'
                  subst e1 e1'
                  exact ⟨b8, off8, rfl, Nat.lt_of_lt_of_le e2 HE.out.2.2.1.size, by
                    rw [← e3]
                    have := HE.out.2.2.1.block b8 e2 (fun e => by injection e with e; exact HNE.out e)
                    simp [World.cell?, this]⟩
            · rw [show (if g = f then (0 : Int) else 1) = 1 from if_neg (by omega)]
              try simp only at hpc hud huo
              subst hpc hud huo hgf
              have hff : (0 : Int) ≤ (f : Int) := by omega
              have hfd : decide ((0 : Int) ≤ (f : Int)) = true := decide_eq_true hff
              have hne : (hdN n (f + 1) == hdN n f) = false := beq_eq_false_iff_ne.2 (fun e => by have := hdN_inj (by omega) e; omega)
              obtain ⟨b8, off8, hA8, hb8, hc8⟩ := Rd.at_ HJ.out.2.1 (by rw [wds_len]; omega)
              obtain ⟨b9, off9, hA9, hb9, hc9⟩ := Rd.at_ HJ.out.1 (by rw [wds_len]; omega)
              subst hA8 hA9
              have q8 := hc8 0 (by rw [wds_len]; omega)
              have q9 := hc9 0 (by rw [wds_len]; omega)
              rw [wds_get0, Nat.add_zero] at q8 q9
              obtain ⟨g3, hA3, -, -, hfz3, hce3⟩ := OwnWk.row (A := some ⟨g2, 0, none⟩) (c := cL) (l := ll) (by rw [HS.out.len]; exact HJ.out.2.2.1) (by rw [HS.out.len]; omega)
              injection hA3 with hA3
              injection hA3 with hA3
              subst hA3
              have hcT := hce3 T (by rw [HS.out.len]; exact hTl)
              rw [← HX.out] at hcT
              have z0 := hcT.c0
              simp only at z0
              have e10 : wj.cell? ⟨w4.heap.size, 10, none⟩ = some (.bool true) := by rw [Lib.cell_of_heap HJ.out.2.2.2.2]; rfl
              have e11 : wj.cell? ⟨w4.heap.size, 11, none⟩ = some (.int .i64 (f : Int)) := by rw [Lib.cell_of_heap HJ.out.2.2.2.2]; rfl
              have HJ2 := Lib.hid (And.intro hcT hfz3)
              have k1 := Qt.cell_in q8
              have k2 := Qt.cell_in q9
              have k3 := Qt.cell_in z0
              have k4 := Qt.cell_in e10
              have k5 := Qt.cell_in e11
              clear hc8 hc9 q8 q9 z0 e10 e11 hcT hfz3 hce3
              go_wp2
              refine Qt.below_all (by kernel_rfl) (by kernel_rfl) ?_
              iterate 41 (go_big_quiet_step (fail))
              refine wpQuiet_nil ?_
              intro w7 hb7
              clear k1 k2 k3 k4 k5
              have hout7 := HJ.out.2.2.1.next hb7
              have hrow7 := (hb7.block _ (lt_heap6' HJ.out.2.2.2.2)).trans HJ.out.2.2.2.2
              have hfz7 : ∀ q, w7.frozen? ⟨g2, q, none⟩ = false := fun q => (hb7.frozen (p := ⟨g2, q, none⟩) (World.ownsRow.lt HJ.out.2.2.1 g2 rfl).2).trans (HJ2.out.2 q)
              have hc7 := HJ2.out.1.below (hb7.block g2 (World.ownsRow.lt HJ.out.2.2.1 g2 rfl).2)
              obtain ⟨w8, hw8, hout8, hgr8⟩ := OwnWk.set (c := cL) (l := ll) (g := g2) (by rw [HS.out.len]; exact hout7) T (by rw [HS.out.len]; exact hTl) ⟨upc, ujob, u0, u1, u2, true, (f : Int)⟩
              simp only at hw8
              rw [HS.out.len] at hout8
              have d0 := hc7.c0
              have d1 := hc7.c1
              have d2 := hc7.c2
              have d3 := hc7.c3
              have d4 := hc7.c4
              have d5 := hc7.c5
              have d6 := hc7.c6
              have d7 := hc7.c7
              have d8 := hc7.c8
              have d9 := hc7.c9
              have d10 := hc7.c10
              have d11 := hc7.c11
              simp only at d0 d1 d2 d3 d4 d10 d11
              have m0 : w7.cell? ⟨w4.heap.size, 0, none⟩ = some (.int .i64 upc) := by rw [Lib.cell_of_heap hrow7]; rfl
              have m1 : w7.cell? ⟨w4.heap.size, 1, none⟩ = some (.int .i64 ujob) := by rw [Lib.cell_of_heap hrow7]; rfl
              have m2 : w7.cell? ⟨w4.heap.size, 2, none⟩ = some (.int .i64 u0) := by rw [Lib.cell_of_heap hrow7]; rfl
              have m3 : w7.cell? ⟨w4.heap.size, 3, none⟩ = some (.int .i64 u1) := by rw [Lib.cell_of_heap hrow7]; rfl
              have m4 : w7.cell? ⟨w4.heap.size, 4, none⟩ = some (.int .i64 u2) := by rw [Lib.cell_of_heap hrow7]; rfl
              have m5 : w7.cell? ⟨w4.heap.size, 5, none⟩ = some (.int .i64 0) := by rw [Lib.cell_of_heap hrow7]; rfl
              have m6 : w7.cell? ⟨w4.heap.size, 6, none⟩ = some (.int .i64 0) := by rw [Lib.cell_of_heap hrow7]; rfl
              have m7 : w7.cell? ⟨w4.heap.size, 7, none⟩ = some (.int .i64 0) := by rw [Lib.cell_of_heap hrow7]; rfl
              have m8 : w7.cell? ⟨w4.heap.size, 8, none⟩ = some (.int .i64 0) := by rw [Lib.cell_of_heap hrow7]; rfl
              have m9 : w7.cell? ⟨w4.heap.size, 9, none⟩ = some (.int .i64 0) := by rw [Lib.cell_of_heap hrow7]; rfl
              have m10 : w7.cell? ⟨w4.heap.size, 10, none⟩ = some (.bool true) := by rw [Lib.cell_of_heap hrow7]; rfl
              have m11 : w7.cell? ⟨w4.heap.size, 11, none⟩ = some (.int .i64 (f : Int)) := by rw [Lib.cell_of_heap hrow7]; rfl
              have HW8 := Lib.hid hw8
              have hB7 := Qt.more HJ.out.2.2.2.1 HJ.out.2.2.2.1.size hb7
              have HE := Lib.hid (And.intro hout8 (And.intro (hB7.grown hgr8 hB7.size (fun q e => by injection e with e; have := (World.ownsRow.lt HS.out.out g2 rfl).1; omega)) (And.intro hgr8 (HJ.out.2.1.below hb7))))
              have hlt2 := (World.ownsRow.lt HS.out.out g2 rfl).1
              have HNE : Hid (b8 ≠ g2) := fun e => by have := HB8.out b8 rfl; omega
              clear hb7 hout7 hrow7 hc7 hw8 hout8 hgr8 hB7
              go_wp2_with (rw [HW8.out])
              go_roundw
              case measure => simp [intOf]; omega
              case rel =>
                refine ⟨k + 1, f + 1, ll.set T ⟨upc, ujob, u0, u1, u2, true, (f : Int)⟩, some ⟨b8, off8, none⟩, c8, rfl, by go_num, by omega, (show Hid _ from ⟨?_, HE.out.1, by rw [List.length_set]; exact HS.out.len, popI_set HS.out.inv T HU.out.1 (by omega), HU.out.2.1, HE.out.2.1⟩)⟩
                intro q hq
                obtain ⟨bq, oq, e1, e2, e3⟩ := HE.out.2.2.2 q hq
                injection e1 with e1
                injection e1 with e1 e1'
                subst e1 e1'
                exact ⟨b8, off8, rfl, Nat.lt_of_lt_of_le e2 HE.out.2.2.1.size, by
                  rw [← e3]
                  have := HE.out.2.2.1.block b8 e2 (fun e => by injection e with e; exact HNE.out e)
                  simp [World.cell?, this]⟩
    · have HB := Lib.hid HS.out.bel
      clear HS
      by_cases t1 : k < picks.length
      · have hltz : (k : Int) < (picks.length : Int) := by omega
        by_cases t2 : k < 40
        · have t3 : ¬ (0 : Int) < (L : Int) := by omega
          have t4 : (L : Int) = 0 := by omega
          clear hlt
          go_wp2
          go_ret
          exact ⟨rfl, HB.out⟩
        · have t3 : ¬ (k : Int) < 40 := by omega
          clear hlt
          go_wp2
          go_ret
          exact ⟨rfl, HB.out⟩
      · have hltz : ¬ (k : Int) < (picks.length : Int) := by omega
        clear hlt
        go_wp2
        go_ret
        exact ⟨rfl, HB.out⟩
end Go.Proofs.Ytocepdhjkhhpfaa
