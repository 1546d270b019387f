/-
  MemOne's walk: at most 20 numbers.
-/
import Derived.Test.YthfbcjbiemdedaaAk
namespace Go.Proofs.Ythfbcjbiemdedaa
set_option maxRecDepth 100000
set_option linter.unusedVariables false
set_option linter.unusedSimpArgs false
open Go.RowKit Go.Sort
set_option maxHeartbeats 16000000 in
theorem memOne_a (A : Option Addr) (any : List Int) (c : Nat) (AR : Option Addr) (raw : List Ac) (cR : Nat) (w : World) (hA : any.length ≤ 20) (hR : Now w A any) (hl : any.length ≤ 9223372036854775807) (hw : ∀ j, j < any.length → I64 (any.getD j 0))
    (hRR : NowA w AR raw) (hlR : raw.length ≤ 9223372036854775807) (hcR : raw.length ≤ cR) (hwR : ∀ j, j < raw.length → Fine4A (raw.getD j deadA)) :
    Calls Try.prog 4 #[.slice A any.length c, .slice AR raw.length cR] w fun e w' => e = .returned (.bool true) ∧ Below w.heap.size w w' := by
  have HR := Lib.hid hR
  have HW := Lib.hid hw
  have HRR := Lib.hid hRR
  have HWR := Lib.hid hwR
  clear hR hw hRR hwR
  go_enter Try.func4, Try.ntmps4
  go_wp2_with fail
  refine (awake10_any w).mono ?_
  rintro r w1 ⟨rfl, hb1⟩
  have HB1 := Lib.hid hb1
  clear hb1
  go_wp2_with fail
  go_loopw [6, 7] (fun v i wr => ∃ k : Nat, k ≤ any.length ∧ k ≤ 20 ∧ i = .int .i64 k ∧ Hid (Own wr w.heap.size v (picks4 any k) ∧ Below w.heap.size w wr)) (fun _ i _ => 20 - (intOf i).toNat)
  case atStart => exact ⟨0, Nat.zero_le _, by omega, rfl, (show Hid _ from ⟨World.ownsRow_nil _ _ _ _, HB1.out⟩)⟩
  case round =>
    obtain ⟨k, hk, hk20, rfl, HH⟩ := hrel
    by_cases hlt : k < any.length ∧ k < 20
    · as_aux_lemma =>
      obtain ⟨hlt1, hlt2⟩ := hlt
      have hltz : (k : Int) < (any.length : Int) := by omega
      obtain ⟨b, off, rfl, hbB, hcell⟩ := Rd.at_ HR.out (by omega)
      have y0 := (HH.out.2.cell (p := ⟨b, off + k, none⟩) hbB).trans (hcell k hlt1)
      have i0 := HW.out k hlt1
      have hsu := picks4_succ hlt1
      have hln := picks4_len hk
      obtain ⟨x, hx⟩ : ∃ x, x = any.getD k 0 := ⟨_, rfl⟩
      rw [← hx] at y0 i0 hsu
      have hp := pick10_any x 4 wr i0 (by decide) (by decide)
      obtain ⟨v', w', hrun, hown, hg⟩ := pushW_any (pickI x 4) HH.out.2.size HH.out.1 (by rw [hln]; omega)
      rw [← hsu] at hown
      have HO2 := Lib.hid (And.intro hown (HH.out.2.grown hg HH.out.2.size (fun g e => (World.ownsRow.lt HH.out.1 g e).1)))
      have HRun := Lib.hid hrun
      clear hcell hsu hln hx hrun hown hg HH i0
      go_wp2_with fail
      refine hp.mono ?_
      rintro r w3 ⟨rfl, rfl⟩
      clear hp
      go_wp2_with (at_builtin; refine Lib.wpList_append_run _ rfl (.tmp 26) (.tmp 32) 22 22 rfl _ _ rfl rfl _ _ HRun.out ?_)
      go_roundw
      case measure => simp [intOf]; omega
      case rel => exact ⟨k + 1, by omega, by omega, by go_num, HO2⟩
    · have hltz : ¬ (k : Int) < (any.length : Int) := by omega
      obtain ⟨v', w', hrun, hown, hg⟩ := pushW_any 0 HH.out.2.size HH.out.1 (by rw [picks4_len hk]; omega)
      have hml : (picks4 any k ++ [0]).length = k + 1 := by rw [List.length_append, picks4_len hk]; rfl
      obtain ⟨A1, c1, rfl, hc1, hN1⟩ := own_slice hown
      have hb2 := HH.out.2.grown hg HH.out.2.size (fun g e => (World.ownsRow.lt HH.out.1 g e).1)
      have hsm := picks4_small any k
      obtain ⟨m0, hm0⟩ : ∃ m0, m0 = picks4 any k ++ [0] := ⟨_, rfl⟩
      rw [← hm0] at hml hrun hc1 hN1 hsm
      obtain ⟨M, hM⟩ : ∃ M, M = k + 1 := ⟨_, rfl⟩
      rw [← hM] at hml
      rw [hml] at hrun hc1
      have hM20 : 1 ≤ M ∧ M ≤ 21 := by omega
      have HRun := Lib.hid hrun
      have HB2 := Lib.hid hb2
      have HM := Lib.hid (And.intro hN1 (And.intro hsm hml))
      have hac := fun W (hb : Below w'.heap.size w' W) => accs_any AR raw cR (M : Int) W (HRR.out.below (Qt.more hb2 hb2.size hb) (Nat.le_refl _) |>.more (Qt.more hb2 hb2.size hb).size) hlR HWR.out (by omega) (by omega)
      have hac0 := hac w' (Below.refl _ _)
      have hlL := accs_len (M : Int) raw
      have hokL := accs_ok (n := (M : Int)) (by omega) raw
      have hfL : ∀ j, j < (accs (M : Int) raw).length → Fine4A ((accs (M : Int) raw).getD j deadA) := accs_fine (by omega) (by omega) (fun y hy => hy)
      obtain ⟨L, hL⟩ : ∃ L, L = accs (M : Int) raw := ⟨_, rfl⟩
      rw [← hL] at hac0 hlL hokL hfL
      have HOK := Lib.hid hokL
      have HFL := Lib.hid hfL
      clear hac hokL hfL hL hrun hown hg hb2 hN1 hsm hml hm0 hM HH
      as_aux_lemma =>
        go_wp2_with (at_builtin; refine Lib.wpList_append_run _ rfl (.tmp 34) (.tmp 35) 22 22 rfl _ _ rfl rfl _ _ HRun.out ?_)
        clear HRun
        refine hac0.mono ?_
        rintro r w3 ⟨v3, rfl, hv3, hb3⟩
        obtain ⟨AL, cL, rfl, hcL, hNL⟩ := hv3.slice
        have HB3 := Lib.hid (Qt.more HB2.out HB2.out.size hb3)
        have HM3 := Lib.hid (And.intro (HM.out.1.below hb3) HM.out.2)
        have HNL := Lib.hid hNL
        clear hac0 hv3 hb3 hNL HB2 HM
        go_wp2_with fail
        go_loopw [6, 9] (fun v i wr => ∃ (j : Nat) (m : List Int) (Am : Option Addr) (cm : Nat), j ≤ L.length ∧ i = .int .i64 j ∧ v = .slice Am M cm ∧ M ≤ cm ∧ Hid (Now wr Am m ∧ SmallW (3 + 1000 * (j : Int)) m ∧ m.length = M ∧ Below w3.heap.size w3 wr)) (fun _ i _ => L.length - (intOf i).toNat)
        case atStart => exact ⟨0, m0, A1, c1, Nat.zero_le _, rfl, rfl, hc1, (show Hid _ from ⟨HM3.out.1, HM3.out.2.1, HM3.out.2.2, Below.refl _ _⟩)⟩
        case round =>
          obtain ⟨j, m, Am, cm, hj, rfl, rfl, hcm, HH⟩ := hrel
          by_cases hjl : j < L.length
          · as_aux_lemma =>
            have hjz : (j : Int) < (L.length : Int) := by omega
            obtain ⟨hNm, hsm, hml, hbr⟩ := HH.out
            obtain ⟨bL, oL, rfl, hbL, y0, y1, y2, y3⟩ := HNL.out j hjl
            replace y0 := (hbr.cell (p := ⟨bL, oL + j * 4, none⟩) hbL).trans y0
            replace y1 := (hbr.cell (p := ⟨bL, oL + j * 4 + 1, none⟩) hbL).trans y1
            replace y2 := (hbr.cell (p := ⟨bL, oL + j * 4 + 2, none⟩) hbL).trans y2
            replace y3 := (hbr.cell (p := ⟨bL, oL + j * 4 + 3, none⟩) hbL).trans y3
            have hok := HOK.out (L.getD j deadA) (mem_getD hjl)
            have hfy := HFL.out j hjl
            obtain ⟨⟨k1, a1, o1, n1⟩, hy⟩ : ∃ y, y = L.getD j deadA := ⟨_, rfl⟩
            rw [← hy] at y0 y1 y2 y3 hok hfy
            simp only at y0 y1 y2 y3 hok
            obtain ⟨g1, g2, g3, g4, g5, g6, g7, g8⟩ := hok
            obtain ⟨a, rfl⟩ : ∃ a : Nat, a1 = a := ⟨a1.toNat, by omega⟩
            have haM : a < M := by omega
            have hds := doA_small (m := m) (y := (k1, (a : Int), o1, n1)) (b := 3 + 1000 * (j : Int)) ⟨g1, g2, by show 0 ≤ (a : Int); omega, by rw [hml]; show (a : Int) < _; omega, by show -1000 ≤ n1; omega, by show n1 ≤ 1000; omega⟩ hsm (by omega) (by omega) (by omega)
            simp only [Int.toNat_natCast] at hds
            have hcs := one_cases (y := (k1, (a : Int), o1, n1)) g1 g2 (m.getD a 0)
            have hvb := nwA_bd (y := (k1, (a : Int), o1, n1)) (x := m.getD a 0) (b := 3 + 1000 * (j : Int)) (by show -1000 ≤ n1; omega) (by show n1 ≤ 1000; omega) (hsm.get (by omega) a) (by omega)
            have hsm2 := small_set (j := a) hsm hvb (by omega)
            have hxb := hsm.get (by omega) a
            have hsA := set_getD (m := m) (i := a) (by omega) (nwA (k1, (a : Int), o1, n1) (m.getD a 0))
            have hsN := fun (i : Nat) (h : a ≠ i) => getD_setW (m := m) h (nwA (k1, (a : Int), o1, n1) (m.getD a 0))
            obtain ⟨v, hv⟩ : ∃ v, v = nwA (k1, (a : Int), o1, n1) (m.getD a 0) := ⟨_, rfl⟩
            obtain ⟨x, hx⟩ : ∃ x, x = m.getD a 0 := ⟨_, rfl⟩
            rw [← hv] at hds hcs hvb hsm2 hsA hsN
            rw [← hx] at hds hcs hxb
            have hdo := memDo_any (k1, (a : Int), o1, n1) m Am cm wr hfy (small_i64 hsm (by omega)) hNm (by omega) (by omega)
            rw [hds, hml] at hdo
            simp only at hcs
            have HX := Lib.hid (And.intro hx (And.intro hsA hsN))
            have HMm := Lib.hid (And.intro hNm hml)
            have hsm3 : SmallW (3 + 1000 * ((j + 1 : Nat) : Int)) (m.set a v) := by rw [show 3 + 1000 * ((j + 1 : Nat) : Int) = 3 + 1000 * (j : Int) + 1000 by omega]; exact hsm2
            have HS2 := Lib.hid (And.intro hsm3 (show (m.set a v).length = M by rw [List.length_set]; exact hml))
            have HBr := Lib.hid hbr
            have hjb : (j : Int) ≤ 40 := by omega
            clear hNm hsm hml hbr hfy hy hds hvb hsm2 hsA hsN hv hx hsm3 HH
            go_wp2_with fail
            refine hdo.mono ?_
            rintro r w5 ⟨A2, c2, rfl, hc2, hN2, hb5⟩
            rw [show (m.set a v).length = M from HS2.out.2] at hc2 ⊢
            obtain ⟨is, his⟩ : ∃ is, is = dnA (k1, (a : Int), o1, n1) x := ⟨_, rfl⟩
            rw [← his] at hcs ⊢
            clear hdo his
            have HB5 := Lib.hid (Qt.more HBr.out HBr.out.size hb5)
            obtain ⟨bm, om, rfl, hbm, hcm0⟩ := Rd.at_ HMm.out.1 (by rw [HMm.out.2]; omega)
            obtain ⟨bn, on, rfl, hbn, hcn0⟩ := Rd.at_ hN2 (by rw [HS2.out.2]; omega)
            have z0 := (hb5.cell (p := ⟨bL, oL + j * 4, none⟩) (block_lt_of_cell y0)).trans y0
            have z1 := (hb5.cell (p := ⟨bL, oL + j * 4 + 1, none⟩) (block_lt_of_cell y1)).trans y1
            have z2 := (hb5.cell (p := ⟨bL, oL + j * 4 + 2, none⟩) (block_lt_of_cell y2)).trans y2
            have z3 := (hb5.cell (p := ⟨bL, oL + j * 4 + 3, none⟩) (block_lt_of_cell y3)).trans y3
            have ma := (hb5.cell (p := ⟨bm, om + a, none⟩) hbm).trans (hcm0 a (by rw [HMm.out.2]; exact haM))
            rw [← HX.out.1] at ma
            have na := hcn0 a (by rw [HS2.out.2]; exact haM)
            rw [HX.out.2.1] at na
            have HCM := Lib.hid (fun i (h : i < M) => (hb5.cell (p := ⟨bm, om + i, none⟩) hbm).trans (hcm0 i (by rw [HMm.out.2]; exact h)))
            have HCN := Lib.hid (fun i (h : i < M) => hcn0 i (by rw [HS2.out.2]; exact h))
            have HN2 := Lib.hid hN2
            clear hcm0 hcn0 hN2 hb5 y0 y1 y2 y3 hbm hbn
            have hcs2 : (k1 = 1 ∧ is = true ∧ v = x) ∨ (k1 = 2 ∧ is = true ∧ v = n1) ∨ (k1 = 3 ∧ is = true ∧ v = n1 ∧ decide (x = o1) = true) ∨ (k1 = 3 ∧ is = false ∧ v = x ∧ decide (x = o1) = false) ∨ (k1 = 4 ∧ is = true ∧ v = x + n1) := by
              rcases hcs with ⟨h1, h2, h3⟩ | ⟨h1, h2, h3⟩ | ⟨h1, h2, h3, h4⟩ | ⟨h1, h2, h3, h4⟩ | ⟨h1, h2, h3⟩
              · exact .inl ⟨h1, h2, h3⟩
              · exact .inr (.inl ⟨h1, h2, h3⟩)
              · exact .inr (.inr (.inl ⟨h1, h3, h4, decide_eq_true h2⟩))
              · exact .inr (.inr (.inr (.inl ⟨h1, h3, h4, decide_eq_false h2⟩)))
              · exact .inr (.inr (.inr (.inr ⟨h1, h2, h3⟩)))
            clear hcs
            rcases hcs2 with ⟨rfl, rfl, hvx⟩ | ⟨rfl, rfl, hvx⟩ | ⟨rfl, rfl, hvx, hxo⟩ | ⟨rfl, rfl, hvx, hxo⟩ | ⟨rfl, rfl, hvx⟩
            all_goals as_aux_lemma =>
              go_wp2_with fail
              go_loopw [14] (fun i wr => ∃ e : Nat, e ≤ M ∧ i = .int .i64 e ∧ Below w5.heap.size w5 wr) (fun i _ => M - (intOf i).toNat)
              case atStart => exact ⟨0, Nat.zero_le _, rfl, Below.refl _ _⟩
              case round =>
                obtain ⟨e, he, rfl, hbe⟩ := hrel
                have b0 := (hbe.cell (p := ⟨bL, oL + j * 4, none⟩) (block_lt_of_cell z0)).trans z0
                have b1 := (hbe.cell (p := ⟨bL, oL + j * 4 + 1, none⟩) (block_lt_of_cell z1)).trans z1
                by_cases heM : e < M
                · as_aux_lemma =>
                  have hez : (e : Int) < (M : Int) := by omega
                  have nm := HCM.out e heM
                  have nn := HCN.out e heM
                  have c0 := Qt.cell_in b0
                  have c1x := Qt.cell_in b1
                  by_cases hea : e = a
                  · subst hea
                    rw [← HX.out.1] at nm
                    rw [HX.out.2.1] at nn
                    have q1 := Qt.cell_in ((hbe.cell (p := ⟨bm, om + e, none⟩) (block_lt_of_cell nm)).trans nm)
                    have q2 := Qt.cell_in ((hbe.cell (p := ⟨bn, on + e, none⟩) (block_lt_of_cell nn)).trans nn)
                    clear nm nn b0 b1
                    go_wp2_with fail
                    refine Qt.below_all (by kernel_rfl) (by kernel_rfl) ?_
                    repeat (go_big_quiet_step (fail))
                    refine wpQuiet_nil ?_
                    intro w7 hb7
                    clear q1 q2 c0 c1x
                    go_wp2_with fail
                    go_roundw
                    case measure => simp [intOf]; omega
                    case rel => exact ⟨e + 1, by omega, by go_num, Qt.more hbe hbe.size hb7⟩
                  · rw [HX.out.2.2 e (fun h => hea h.symm)] at nn
                    obtain ⟨u, hu⟩ : ∃ u, u = m.getD e 0 := ⟨_, rfl⟩
                    rw [← hu] at nm nn
                    have q1 := Qt.cell_in ((hbe.cell (p := ⟨bm, om + e, none⟩) (block_lt_of_cell nm)).trans nm)
                    have q2 := Qt.cell_in ((hbe.cell (p := ⟨bn, on + e, none⟩) (block_lt_of_cell nn)).trans nn)
                    have hne : ((e : Int) != (a : Int)) = true := by rw [bne_iff_ne]; omega
                    have hne2 : ((e : Int) == (a : Int)) = false := beq_eq_false_iff_ne.2 (by omega)
                    clear nm nn hu b0 b1
                    go_wp2_with fail
                    refine Qt.below_all (by kernel_rfl) (by kernel_rfl) ?_
                    repeat (go_big_quiet_step (fail))
                    refine wpQuiet_nil ?_
                    intro w7 hb7
                    clear q1 q2 c0 c1x
                    go_wp2_with fail
                    go_roundw
                    case measure => simp [intOf]; omega
                    case rel => exact ⟨e + 1, by omega, by go_num, Qt.more hbe hbe.size hb7⟩
                · as_aux_lemma =>
                  have hez : ¬ (e : Int) < (M : Int) := by omega
                  have c0 := Qt.cell_in b0
                  have c1x := Qt.cell_in b1
                  have c2x := Qt.cell_in ((hbe.cell (p := ⟨bL, oL + j * 4 + 2, none⟩) (block_lt_of_cell z2)).trans z2)
                  have c3x := Qt.cell_in ((hbe.cell (p := ⟨bL, oL + j * 4 + 3, none⟩) (block_lt_of_cell z3)).trans z3)
                  have q1 := Qt.cell_in ((hbe.cell (p := ⟨bm, om + a, none⟩) (block_lt_of_cell ma)).trans ma)
                  have q2 := Qt.cell_in ((hbe.cell (p := ⟨bn, on + a, none⟩) (block_lt_of_cell na)).trans na)
                  have hxo1 : (x == o1) = decide (x = o1) := by simp [BEq.beq]
                  try rw [hxo] at hxo1
                  have hw1 : IntKind.i64.wrap (x + n1) = x + n1 := by rw [IntKind.wrap_i64]; omega
                  have hw2 : wrap64 (x + n1) = x + n1 := by unfold wrap64; omega
                  subst hvx
                  clear b0 b1 z0 z1 z2 z3 ma na HCM
                  go_wp2_with fail
                  try simp only [List.append_eq, List.cons_append, List.nil_append]
                  refine Qt.below_all (by kernel_rfl) (by kernel_rfl) ?_
                  as_aux_lemma =>
                    iterate 10 (try (go_big_quiet_step (fail)))
                    as_aux_lemma =>
                      iterate 10 (try (go_big_quiet_step (fail)))
                      as_aux_lemma =>
                        iterate 10 (try (go_big_quiet_step (fail)))
                        as_aux_lemma =>
                          iterate 10 (try (go_big_quiet_step (fail)))
                          as_aux_lemma =>
                            iterate 10 (try (go_big_quiet_step (fail)))
                            as_aux_lemma =>
                              iterate 10 (try (go_big_quiet_step (fail)))
                              as_aux_lemma =>
                                iterate 10 (try (go_big_quiet_step (fail)))
                                as_aux_lemma =>
                                  repeat (go_big_quiet_step (fail))
                                  refine wpQuiet_nil ?_
                                  intro w7 hb7
                                  have HN7 := Lib.hid (HN2.out.below (Qt.more hbe hbe.size hb7))
                                  have HB7 := Lib.hid (Qt.more HB5.out HB5.out.size (Qt.more hbe hbe.size hb7))
                                  clear q1 q2 c0 c1x c2x c3x hxo1 hw1 hw2 hb7 hbe
                                  go_wp2_with fail
                                  go_roundw
                                  case measure => simp [intOf]; omega
                                  case rel => exact ⟨j + 1, _, _, c2, by omega, by go_num, rfl, hc2, (show Hid _ from ⟨HN7.out, HS2.out.1, HS2.out.2, HB7.out⟩)⟩
          · have hjz : ¬ (j : Int) < (L.length : Int) := by omega
            go_wp2_with fail
            go_ret
            exact ⟨rfl, Qt.more HB3.out HB3.out.size HH.out.2.2.2⟩
end Go.Proofs.Ythfbcjbiemdedaa
