/-
  Layer 12's laws: FreeAlone.
-/
import Derived.Test.YtocepdhjkhhpfaaB10
import Derived.Test.YtocepdhjkhhpfaaB11
import Derived.Test.YtocepdhjkhhpfaaWu
import Derived.Test.YtocepdhjkhhpfaaB12
import Derived.Test.YtocepdhjkhhpfaaB09
namespace Go.Proofs.Ytocepdhjkhhpfaa
set_option maxRecDepth 100000
set_option linter.unusedVariables false
set_option linter.unusedSimpArgs false
open Go.RowKit Go.Sort

def stA (n k : Nat) (i : Nat) : Wk := match i with | 0 => popW | 1 => s1A n k | 2 => s2A n k | _ => s3A n k
def wsA (n k : Nat) (i : Nat) : List Int := if i < 3 then wds n k else wds n (k + 1)
theorem wsA_len (n k i : Nat) : (wsA n k i).length = n + 1 := by unfold wsA; split <;> exact wds_len _ _
theorem st_step {n k i : Nat} (h : Alone n k) (hi : i < 3) : stepW 0 (wsA n k i) (stA n k i) = (wsA n k (i + 1), stA n k (i + 1), 0) := by
  rcases (show i = 0 ∨ i = 1 ∨ i = 2 by omega) with rfl | rfl | rfl
  · exact h.q1
  · exact h.q2
  · exact h.q3
theorem st_fine {n k i : Nat} (hn : n ≤ 20) (hk : k < n) (hi : i < 3) : FineW (stA n k i) := by
  have h1 := hdN_wd (n := n) (f := k) (by omega) (by omega)
  have h2 : WdI (nxN n k) := by
    have := makeL_len n
    unfold nxN
    rw [List.getD_eq_getElem?_getD, List.getElem?_eq_getElem (by omega)]
    exact makeL_wd (by omega) _ (List.getElem_mem _)
  rcases (show i = 0 ∨ i = 1 ∨ i = 2 by omega) with rfl | rfl | rfl
  · exact pop_fit.fine rfl
  · exact ⟨.inl rfl, .inr (.inl rfl), rfl, ⟨Int.le_refl 0, (show (0 : Int) ≤ 1000000 by decide)⟩, h1, wdI0, wdI0⟩
  · exact ⟨.inl rfl, .inr (.inr rfl), rfl, ⟨Int.le_refl 0, (show (0 : Int) ≤ 1000000 by decide)⟩, h1, h2, wdI0⟩
theorem wsA_wd {n k i : Nat} (hn : n ≤ 20) (hk : k < n) : ∀ x ∈ wsA n k i, WdI x := by
  unfold wsA; split
  · exact wds_wd (by omega) (by omega)
  · exact wds_wd (by omega) (by omega)
set_option maxHeartbeats 16000000 in
theorem freeAlone_law (c1 c2 : Int) (w : World) (h1 : I64 c1) (h2 : I64 c2) :
    Calls Try.prog 5 #[.int .i64 c1, .int .i64 c2] w fun e w' => e = .returned (.bool true) ∧ Below w.heap.size w w' := by
  have hpb := pickI_bd c1 20 (by omega)
  obtain ⟨n0, hn0⟩ : ∃ n0 : Nat, pickI c1 20 = n0 := ⟨(pickI c1 20).toNat, by omega⟩
  have hpk1 := fun W => pick12_any c1 20 W h1 (by omega) (by omega)
  rw [hn0] at hpk1
  obtain ⟨n, hn⟩ : ∃ n, n = 1 + n0 := ⟨_, rfl⟩
  have hn20 : n ≤ 20 := by omega
  have hn1 : 1 ≤ n := by omega
  have hnc : (1 : Int) + (n0 : Int) = (n : Int) := by omega
  have hpb2 := pickI_bd c2 n (by omega)
  have hpk2 := fun W => pick12_any c2 n W h2 (by omega) (by omega)
  obtain ⟨t, ht⟩ : ∃ t : Nat, pickI c2 n = t := ⟨(pickI c2 n).toNat, by omega⟩
  rw [ht] at hpk2
  have htn : t < n := by omega
  have HNC := Lib.hid hnc
  have hn19 : n0 ≤ 19 := by omega
  clear hpb hn0 hn hnc hpb2 ht h1 h2
  go_enter Try.func5, Try.ntmps5
  go_wp2_with fail
  refine (awake12_any w).mono ?_
  rintro e w1 ⟨rfl, hb1⟩
  have HB1 := Lib.hid hb1
  clear hb1
  go_wp2_with fail
  refine (hpk1 w1).mono ?_
  rintro e w2 ⟨rfl, rfl⟩
  clear hpk1
  go_wp2_with fail
  rw [HNC.out]
  refine (makeF_any n (by omega) w1).mono ?_
  rintro e w2 ⟨v, rfl, hO2, hb2⟩
  obtain ⟨A9, c9, rfl, -, hN2⟩ := own_slice hO2
  rw [makeL_len]
  have H0 := Lib.hid (And.intro (show Now w2 A9 (wds n 0) by rw [wds_zero]; exact hN2) (Qt.more HB1.out HB1.out.size hb2))
  clear hO2 hb2 hN2 HB1 hn19
  go_wp2_with fail
  go_loopw [7, 8] (fun v i wr => ∃ (k : Nat) (A9 : Option Addr) (c9 : Nat), v = .slice A9 (n + 1) c9 ∧ i = .int .i64 k ∧ k ≤ t ∧ Hid (Now wr A9 (wds n k) ∧ Below w.heap.size w wr)) (fun _ i _ => t - (intOf i).toNat)
  case atStart => exact ⟨0, A9, c9, rfl, rfl, Nat.zero_le _, H0⟩
  case round =>
    clear H0
    obtain ⟨k, A9, c9, rfl, rfl, hkt, HS⟩ := hrel
    by_cases hlt : k < t
    · have hltz : (k : Int) < (t : Int) := by omega
      go_wp2_with fail
      refine (hpk2 wr).mono ?_
      rintro e w3 ⟨rfl, rfl⟩
      go_wp2_with fail
      refine (popF_any wr).mono ?_
      rintro e w3 ⟨rfl, hb3⟩
      have HS3 := Lib.hid (And.intro (HS.out.1.below hb3) (Qt.more HS.out.2 HS.out.2.size hb3))
      clear hb3
      go_wp2_with fail
      have hwk := now_wks w3 [popW]
      have hbw := (Below.refl w3.heap.size w3).alloc (Nat.le_refl _) (.cells (flW [popW]).toArray 39)
      rw [show (flW [popW]).toArray = #[.int .i64 popW.pc, .int .i64 popW.job, .int .i64 popW.r0, .int .i64 popW.r1, .int .i64 popW.r2, .int .i64 0, .int .i64 0, .int .i64 0, .int .i64 0, .int .i64 0, .bool popW.done, .int .i64 popW.out] from rfl] at hwk hbw
      obtain ⟨wa, hwa⟩ : ∃ wa, w3.alloc (.cells #[.int .i64 popW.pc, .int .i64 popW.job, .int .i64 popW.r0, .int .i64 popW.r1, .int .i64 popW.r2, .int .i64 0, .int .i64 0, .int .i64 0, .int .i64 0, .int .i64 0, .bool popW.done, .int .i64 popW.out] 39) = wa := ⟨_, rfl⟩
      rw [hwa] at hwk hbw ⊢
      clear hwa
      have hr := runF_any A9 none (some ⟨w3.heap.size, 0, none⟩) (wds n k) [] [popW] c9 0 1 0 wa (HS3.out.1.below hbw) (by rw [wds_len]; omega) (wds_wd (by omega) (by omega)) (inl_none _ _) hwk (by intro j hj; match j, hj with | 0, _ => exact pop_fit) (by decide) (by decide)
      rw [(alone hn20 (show k < n by omega)).pop, wds_len] at hr
      have HB4 := Lib.hid (Qt.more HS3.out.2 HS3.out.2.size hbw)
      clear hwk hbw
      refine hr.mono ?_
      rintro r w4 ⟨A2, c2', L2, d2, rfl, hN4, hW4, hb4⟩
      clear hr
      simp only at hN4 hW4 ⊢
      rw [wds_len]
      obtain ⟨b2, off2, hL2, -, hc2⟩ := nowWk_row hW4 (by simp)
      have x0 := (hc2 0 (by simp)).c11
      simp only [List.getD_cons_zero, Nat.zero_mul, Nat.add_zero, s3A] at x0
      have HN := Lib.hid (And.intro hN4 (Qt.more HB4.out HB4.out.size hb4))
      subst hL2
      clear hN4 hW4 hb4 hc2 HB4 HS3
      go_wp2_with fail
      go_roundw
      case measure => simp [intOf]; omega
      case rel => exact ⟨k + 1, A2, c2', rfl, by go_num, by omega, HN⟩
    · obtain rfl : k = t := by omega
      have hltz : ¬ (k : Int) < (k : Int) := by omega
      go_wp2_with fail
      refine (hpk2 wr).mono ?_
      rintro e w3 ⟨rfl, rfl⟩
      clear hpk2
      go_wp2_with fail
      have hAl := alone hn20 htn
      have HAl := Lib.hid hAl
      have hfr := freeF_any A9 (wds n k) c9 wr HS.out.1 (by rw [wds_len]; omega) (wds_wd (by omega) (by omega))
      rw [hAl.was, wds_len] at hfr
      clear hAl
      refine hfr.mono ?_
      rintro e w3 ⟨v, rfl, hO3, hb3⟩
      obtain ⟨A10, c10, rfl, hc10, hm10, hN10, hSh⟩ := own_parts hO3
      rw [restL_len] at hc10 hSh ⊢
      obtain ⟨q, hq⟩ : ∃ q, n - k = q + 1 := ⟨n - k - 1, by omega⟩
      have hqk : n - (k + 1) = q := by omega
      rw [hq] at hc10 ⊢
      have HQ := Lib.hid (And.intro hq hqk)
      have HC10 := Lib.hid hc10
      have HS3 := Lib.hid (And.intro (HS.out.1.below hb3) (And.intro hN10 (And.intro trivial (Qt.more HS.out.2 HS.out.2.size hb3))))
      clear hfr hO3 hb3 hc10 hm10 hN10 hSh hq hqk
      go_wp2_with fail
      refine (popF_any w3).mono ?_
      rintro e w4 ⟨rfl, hb4⟩
      have HS4 := Lib.hid (And.intro (HS3.out.1.below hb4) (And.intro (HS3.out.2.1.below hb4) (And.intro trivial (Qt.more HS3.out.2.2.2 HS3.out.2.2.2.size hb4))))
      clear hb4 HS3 HS
      go_wp2_with fail
      have hwk := now_wks w4 [popW]
      have hbw := (Below.refl w4.heap.size w4).alloc (Nat.le_refl _) (.cells (flW [popW]).toArray 39)
      rw [show (flW [popW]).toArray = #[.int .i64 popW.pc, .int .i64 popW.job, .int .i64 popW.r0, .int .i64 popW.r1, .int .i64 popW.r2, .int .i64 0, .int .i64 0, .int .i64 0, .int .i64 0, .int .i64 0, .bool popW.done, .int .i64 popW.out] from rfl] at hwk hbw
      obtain ⟨wa, hwa⟩ : ∃ wa, w4.alloc (.cells #[.int .i64 popW.pc, .int .i64 popW.job, .int .i64 popW.r0, .int .i64 popW.r1, .int .i64 popW.r2, .int .i64 0, .int .i64 0, .int .i64 0, .int .i64 0, .int .i64 0, .bool popW.done, .int .i64 popW.out] 39) = wa := ⟨_, rfl⟩
      rw [hwa] at hwk hbw ⊢
      clear hwa
      have hr := runF_any A9 none (some ⟨w4.heap.size, 0, none⟩) (wds n k) [] [popW] c9 0 1 0 wa (HS4.out.1.below hbw) (by rw [wds_len]; omega) (wds_wd (by omega) (by omega)) (inl_none _ _) hwk (by intro j hj; match j, hj with | 0, _ => exact pop_fit) (by decide) (by decide)
      rw [HAl.out.pop, wds_len] at hr
      have hbr : Below w4.heap.size w4 wa := hbw
      refine hr.mono ?_
      rintro r w5 ⟨A2, c2', L2, d2, rfl, hN5, hW5, hb5⟩
      simp only at hN5 hW5 ⊢
      rw [wds_len]
      have hb45 := Qt.more hbr hbr.size hb5
      obtain ⟨b2, off2, hL2, -, hc2⟩ := nowWk_row hW5 (by simp)
      have x0 := (hc2 0 (by simp)).c11
      simp only [List.getD_cons_zero, Nat.zero_mul, Nat.add_zero, s3A] at x0
      have HS5 := Lib.hid (And.intro (HS4.out.1.below hb45) (And.intro (HS4.out.2.1.below hb45) (And.intro trivial (And.intro (Qt.more HS4.out.2.2.2 HS4.out.2.2.2.size hb45) hN5))))
      obtain ⟨b10, off10, hA10, hb10, hc10⟩ := Rd.at_ HS5.out.2.1 (by rw [restL_len]; omega)
      have x1 := hc10 0 (by rw [restL_len]; omega)
      rw [restL_get htn, Nat.add_zero] at x1
      subst hL2 hA10
      obtain ⟨A11, hA11⟩ : ∃ A11 : Option Addr, A11 = if c10 = 1 then some ⟨b10, off10, none⟩ else some ⟨b10, off10 + 1, none⟩ := ⟨_, rfl⟩
      have hN11 : Now w5 A11 (restL n (k + 1)) := by
        have hl1 := restL_len n (k + 1)
        have hl0 := restL_len n k
        rw [HQ.out.2] at hl1
        rw [HQ.out.1] at hl0
        by_cases hq0 : q = 0
        · rw [List.eq_nil_of_length_eq_zero (show (restL n (k + 1)).length = 0 by omega)]
          exact now_nil _ _
        · have := HC10.out
          rw [hA11, if_neg (by omega), ← restL_drop htn]
          exact now_drop HS5.out.2.1 (by omega)
      have HA11 := Lib.hid (And.intro hA11 hN11)
      clear hwk hbw hbr hr hN5 hW5 hb5 hb45 hc2 hc10 HS4 hA11 hN11
      go_wp2_with fail
      have HX1 : Hid (∀ W, Below w5.heap.size w5 W → W.cell? ⟨b10, off10, none⟩ = some (.int .i64 (k : Int))) := fun W hW => Qt.keep hW x1
      have HX2 : Hid (∀ W, Below w5.heap.size w5 W → W.cell? ⟨b2, off2 + 11, none⟩ = some (.int .i64 (k : Int))) := fun W hW => Qt.keep hW x0
      have hlz : ((q : Int) + 1 == 0) = false := beq_eq_false_iff_ne.2 (by omega)
      have hq1 : (1 : Int) ≤ (q : Int) + 1 := by omega
      have hql : q ≤ 20 := by have := HQ.out.1; omega
      clear x0 x1
      refine region_calm_to (fun W => Below w5.heap.size w5 W) (fun (a0 a9 : Act) (w9 : World) => ∃ (A12 : Option Addr) (c12 : Nat), a9 = ((((((((((((((((((((((((((((((a0.put (some 72) (.int .i64 0)).put (some 73) (.bool false)).put (some 74) (.bool false)).put (some 75) (.slice (some ⟨b2, off2, none⟩) 1 d2)).put (some 76) (.int .i64 1)).put (some 77) (.bool false)).put (some 78) (.bool false)).put (some 79) (.bool false)).put (some 80) (.slice (some ⟨b10, off10, none⟩) (q + 1) c10)).put (some 81) (.int .i64 ((q : Int) + 1))).put (some 82) (.bool false)).put (some 83) (.bool false)).put (some 84) (.bool false)).put (some 89) (.slice (some ⟨b10, off10, none⟩) (q + 1) c10)).put (some 90) (.pointer (some ⟨b10, off10, none⟩))).put (some 91) (.int .i64 (k : Int))).put (some 85) (.slice (some ⟨b2, off2, none⟩) 1 d2)).put (some 86) (.pointer (some ⟨b2, off2, none⟩))).put (some 87) (.pointer (some ⟨b2, off2 + 11, none⟩))).put (some 88) (.int .i64 (k : Int))).put (some 92) (.bool false)).put (some 93) (.bool false)).put (some 94) (.bool false)).put (some 97) (.slice (some ⟨b10, off10, none⟩) (q + 1) c10)).put (some 98) (.slice A11 q (c10 - 1))).put (some 95) ((.slice A2 (n + 1) c2'))).put (some 96) (.slice A12 q c12)).put (some 99) (.bool true)).put (some 100) (.bool false)).put (some 101) (.bool false)) ∧ Below w5.heap.size w5 w9) (.only 0 (.only 1 (.only 2 (.only 3 (.only 4 (.only 5 (.only 6 (.only 7 (.only 8 (.only 9 (.only 10 (.only 11 (.only 12 (.calm 17 (.calm 18 (.calm 19 (.only 13 (.only 14 (.only 15 (.only 16 (.only 20 (.only 21 (.only 22 (.calm 25 (.calm 26 (.only 23 (.only 24 (.only 27 (.only 28 (.only 29 .done)))))))))))))))))))))))))))))) (by kernel_rfl) (by kernel_rfl) (by kernel_rfl) (by rfl) (below_drew _) ?_ ?_
      · skip
        have hCd := below_drew w5
        have x0 := HX2.out _ hCd
        generalize w5.drew = v5 at *
        refine ⟨_, rfl, ?_⟩
        go_wp2_with fail
        refine ⟨rfl, hCd, ?_⟩
        refine ⟨_, rfl, ?_⟩
        go_wp2_with fail
        refine ⟨rfl, hCd, ?_⟩
        refine ⟨_, rfl, ?_⟩
        go_wp2_with fail
        refine ⟨rfl, hCd, ?_⟩
        refine ⟨_, rfl, ?_⟩
        go_wp2_with fail
        refine ⟨rfl, hCd, ?_⟩
        refine ⟨_, rfl, ?_⟩
        go_wp2_with fail
        refine ⟨rfl, hCd, ?_⟩
        refine ⟨_, rfl, ?_⟩
        go_wp2_with fail
        refine ⟨rfl, hCd, ?_⟩
        refine ⟨_, rfl, ?_⟩
        go_wp2_with fail
        refine ⟨rfl, hCd, ?_⟩
        refine ⟨_, rfl, ?_⟩
        go_wp2_with fail
        refine ⟨rfl, hCd, ?_⟩
        refine ⟨_, rfl, ?_⟩
        go_wp2_with fail
        refine ⟨rfl, hCd, ?_⟩
        refine ⟨_, rfl, ?_⟩
        go_wp2_with fail
        refine ⟨rfl, hCd, ?_⟩
        refine ⟨_, rfl, ?_⟩
        go_wp2_with fail
        refine ⟨rfl, hCd, ?_⟩
        refine ⟨_, rfl, ?_⟩
        go_wp2_with fail
        refine ⟨rfl, hCd, ?_⟩
        refine ⟨_, rfl, ?_⟩
        go_wp2_with fail
        refine ⟨rfl, hCd, ?_⟩
        refine ⟨_, _, .slice (some ⟨b10, off10, none⟩) (q + 1) c10, rfl, rfl, ⟨rfl, fun W hW => by first | exact ⟨rfl, rfl⟩ | (simp only [Act.eval, execOp]; go_simp; try exact ⟨rfl, rfl⟩)⟩, ?_⟩
        simp only [Act.put, List.setIfInBounds_toArray, List.set_cons_succ, List.set_cons_zero]
        refine ⟨_, _, .pointer (some ⟨b10, off10, none⟩), rfl, rfl, ⟨rfl, fun W hW => by first | exact ⟨rfl, rfl⟩ | (simp only [Act.eval, execOp]; go_simp; try exact ⟨rfl, rfl⟩)⟩, ?_⟩
        simp only [Act.put, List.setIfInBounds_toArray, List.set_cons_succ, List.set_cons_zero]
        refine ⟨_, _, .int .i64 (k : Int), rfl, rfl, ⟨rfl, fun W hW => by have f1 := HX1.out W hW; simp only [Act.eval, execOp]; go_simp; done⟩, ?_⟩
        simp only [Act.put, List.setIfInBounds_toArray, List.set_cons_succ, List.set_cons_zero]
        refine ⟨_, rfl, ?_⟩
        go_wp2_with fail
        refine ⟨rfl, hCd, ?_⟩
        refine ⟨_, rfl, ?_⟩
        go_wp2_with fail
        refine ⟨rfl, hCd, ?_⟩
        refine ⟨_, rfl, ?_⟩
        go_wp2_with fail
        refine ⟨rfl, hCd, ?_⟩
        refine ⟨_, rfl, ?_⟩
        go_wp2_with fail
        refine ⟨rfl, hCd, ?_⟩
        refine ⟨_, rfl, ?_⟩
        go_wp2_with fail
        refine ⟨rfl, hCd, ?_⟩
        refine ⟨_, rfl, ?_⟩
        go_wp2_with fail
        refine ⟨rfl, hCd, ?_⟩
        refine ⟨_, rfl, ?_⟩
        go_wp2_with fail
        refine ⟨rfl, hCd, ?_⟩
        refine ⟨_, _, .slice (some ⟨b10, off10, none⟩) (q + 1) c10, rfl, rfl, ⟨rfl, fun W hW => by first | exact ⟨rfl, rfl⟩ | (simp only [Act.eval, execOp]; go_simp; try exact ⟨rfl, rfl⟩)⟩, ?_⟩
        simp only [Act.put, List.setIfInBounds_toArray, List.set_cons_succ, List.set_cons_zero]
        refine ⟨_, _, .slice A11 q (c10 - 1), rfl, rfl, ⟨rfl, fun W hW => by rw [HA11.out.1]; simp only [Act.eval, execOp]; go_simp; done⟩, ?_⟩
        simp only [Act.put, List.setIfInBounds_toArray, List.set_cons_succ, List.set_cons_zero]
        refine ⟨_, rfl, ?_⟩
        go_wp2_with fail
        refine ⟨rfl, hCd, ?_⟩
        refine ⟨_, rfl, ?_⟩
        go_wp2_with fail
        have hfr := freeF_any A2 (wds n (k + 1)) c2' v5 (HS5.out.2.2.2.2.below hCd) (by rw [wds_len]; omega) (wds_wd (by omega) (by omega))
        rw [HAl.out.less, wds_len] at hfr
        refine hfr.mono ?_
        rintro e w6 ⟨v, rfl, hO6, hb6⟩
        obtain ⟨A12, c12, rfl, -, hN12⟩ := own_slice hO6
        have hC6 := Qt.more hCd hCd.size hb6
        rw [restL_len, HQ.out.2]
        clear hfr hO6 hb6 x0
        go_wp2_with fail
        refine ⟨rfl, hC6, ?_⟩
        refine ⟨_, rfl, ?_⟩
        go_wp2_with fail
        refine (ints_yes hN12 (HA11.out.2.below hC6) (by rw [restL_len, HQ.out.2]) (by rw [restL_len, HQ.out.2]) (by omega) rfl).mono ?_
        rintro e w7 ⟨rfl, hb7⟩
        have hC7 := Qt.more hC6 hC6.size hb7
        clear hb7 hN12
        go_wp2_with fail
        refine ⟨rfl, hC7, ?_⟩
        refine ⟨_, rfl, ?_⟩
        go_wp2_with fail
        refine ⟨rfl, hC7, ?_⟩
        refine ⟨_, rfl, ?_⟩
        go_wp2_with fail
        exact ⟨rfl, hC7, ⟨A12, c12, rfl⟩, hC7⟩
      · rintro a9 w9 ⟨A12, c12, rfl, hb9⟩
        simp only [Act.put, List.setIfInBounds_toArray, List.set_cons_succ, List.set_cons_zero]
        have x0 := HX2.out w9 hb9
        have HS9 := Lib.hid (And.intro (HS5.out.1.below hb9) (And.intro (HS5.out.2.2.2.2.below hb9) (And.intro (HS5.out.2.1.below hb9) (Qt.more HS5.out.2.2.2.1 HS5.out.2.2.2.1.size hb9))))
        clear hb9
        go_wp2_with fail
        refine (pushF_any (k : Int) w9).mono ?_
        rintro e w10 ⟨rfl, hb10'⟩
        have HS10 := Lib.hid (And.intro (HS9.out.1.below hb10') (And.intro (HS9.out.2.1.below hb10') (And.intro (HS9.out.2.2.1.below hb10') (Qt.more HS9.out.2.2.2 HS9.out.2.2.2.size hb10'))))
        clear hb10' HS9 x0 HX1 HX2 HA11 HS5 hlz
        go_wp2_with fail
        have hwk := now_wks w10 [pushW (k : Int)]
        have hbw := (Below.refl w10.heap.size w10).alloc (Nat.le_refl _) (.cells (flW [pushW (k : Int)]).toArray 39)
        rw [show (flW [pushW (k : Int)]).toArray = #[.int .i64 (pushW (k : Int)).pc, .int .i64 (pushW (k : Int)).job, .int .i64 (pushW (k : Int)).r0, .int .i64 (pushW (k : Int)).r1, .int .i64 (pushW (k : Int)).r2, .int .i64 0, .int .i64 0, .int .i64 0, .int .i64 0, .int .i64 0, .bool (pushW (k : Int)).done, .int .i64 (pushW (k : Int)).out] from rfl] at hwk hbw
        obtain ⟨wa, hwa⟩ : ∃ wa, w10.alloc (.cells #[.int .i64 (pushW (k : Int)).pc, .int .i64 (pushW (k : Int)).job, .int .i64 (pushW (k : Int)).r0, .int .i64 (pushW (k : Int)).r1, .int .i64 (pushW (k : Int)).r2, .int .i64 0, .int .i64 0, .int .i64 0, .int .i64 0, .int .i64 0, .bool (pushW (k : Int)).done, .int .i64 (pushW (k : Int)).out] 39) = wa := ⟨_, rfl⟩
        rw [hwa] at hwk hbw ⊢
        clear hwa
        have hr := runF_any A2 none (some ⟨w10.heap.size, 0, none⟩) (wds n (k + 1)) [] [pushW k] c2' 0 1 0 wa (HS10.out.2.1.below hbw) (by rw [wds_len]; omega) (wds_wd (by omega) (by omega)) (inl_none _ _) hwk (by intro j hj; match j, hj with | 0, _ => exact push_fit ⟨by omega, by omega⟩) (by decide) (by decide)
        rw [HAl.out.push, wds_len] at hr
        have hbr : Below w10.heap.size w10 wa := hbw
        refine hr.mono ?_
        rintro r w11 ⟨A3, c3', L3, d3, rfl, hN11, hW11, hb11⟩
        simp only at hN11 hW11 ⊢
        rw [bL_len]
        have hb := Qt.more hbr hbr.size hb11
        have HS11 := Lib.hid (And.intro (HS10.out.1.below hb) (And.intro (HS10.out.2.1.below hb) (And.intro (HS10.out.2.2.1.below hb) (And.intro hN11 (Qt.more HS10.out.2.2.2 HS10.out.2.2.2.size hb)))))
        clear hr hwk hbw hbr hN11 hW11 hb11 hb HS10
        go_wp2_with fail
        refine (popF_any w11).mono ?_
        rintro e w12 ⟨rfl, hb12⟩
        have hal := (Below.refl w12.heap.size w12).alloc (Nat.le_refl _) (.cells (wkA popW) 39)
        have hrow := heap_alloc_new w12 (.cells (wkA popW) 39)
        obtain ⟨w13, hw13⟩ : ∃ w13, w12.alloc (.cells (wkA popW) 39) = w13 := ⟨_, rfl⟩
        rw [hw13] at hal hrow
        have hb := Qt.more hb12 hb12.size hal
        have HW13 := Lib.hid hw13
        have HS13 := Lib.hid (And.intro (HS11.out.1.below hb) (And.intro (HS11.out.2.1.below hb) (And.intro (HS11.out.2.2.1.below hb) (And.intro (HS11.out.2.2.2.1.below hb) (And.intro (Qt.more HS11.out.2.2.2.2 HS11.out.2.2.2.2.size hb) hrow)))))
        have HS12 := Lib.hid (And.intro (HS11.out.1.below hb12) (And.intro (HS11.out.2.1.below hb12) (And.intro (HS11.out.2.2.1.below hb12) (And.intro (HS11.out.2.2.2.1.below hb12) (And.intro (Qt.more HS11.out.2.2.2.2 HS11.out.2.2.2.2.size hb12) hal)))))
        have hg12 : w.heap.size ≤ w12.heap.size := Nat.le_trans HS11.out.2.2.2.2.size hb12.size
        clear hb12 hal hrow hw13 hb HS11
        go_wp2_with (rw [HW13.out])
        go_loopw [20, 21] (fun v i wr => ∃ (j : Nat) (A20 : Option Addr) (c20 : Nat), v = .slice A20 (n + 1) c20 ∧ i = .int .i64 j ∧ j ≤ 3 ∧ Hid (Now wr A20 (wsA n k j) ∧ wr.heap[w12.heap.size]? = some (.cells (wkA (stA n k j)) 39 (0, 0)) ∧ Below w12.heap.size w13 wr)) (fun _ i _ => 3 - (intOf i).toNat)
        case atStart => exact ⟨0, A9, c9, rfl, rfl, by omega, (show Hid _ from ⟨HS13.out.1, HS13.out.2.2.2.2.2, Below.refl _ _⟩)⟩
        case round =>
          obtain ⟨j, A20, c20, rfl, rfl, hj, HJ⟩ := hrel
          by_cases hj3 : j < 3
          · have hfine := st_fine (k := k) hn20 htn hj3
            obtain ⟨x, hx⟩ : ∃ x, x = stA n k j := ⟨_, rfl⟩
            have hrow := HJ.out.2.1
            rw [← hx] at hrow hfine
            have hst := stepG_any x 0 (wsA n k j) (wsA n k (j + 1), stA n k (j + 1), 0) A20 c20 wr HJ.out.1 (by rw [wsA_len]; omega) (by rw [wsA_len, wsA_len]) (fun A1 c1 b1 B1 W q1 q2 q3 => by
              rw [← st_step HAl.out hj3, ← hx]
              exact stepL_any x 0 (wsA n k j) A1 c1 b1 W hfine (by decide) (by decide) (wsA_wd hn20 htn) q1 q2 (by rw [wsA_len]; omega) q3)
            rw [wsA_len] at hst
            obtain ⟨xpc, xjob, xr0, xr1, xr2, xd, xo⟩ := x
            have hxd := hfine.done
            simp only at hxd
            subst hxd
            have y0 : wr.cell? ⟨w12.heap.size, 0, none⟩ = some (.int .i64 xpc) := by rw [Lib.cell_of_heap hrow]; rfl
            have y1 : wr.cell? ⟨w12.heap.size, 1, none⟩ = some (.int .i64 xjob) := by rw [Lib.cell_of_heap hrow]; rfl
            have y2 : wr.cell? ⟨w12.heap.size, 2, none⟩ = some (.int .i64 xr0) := by rw [Lib.cell_of_heap hrow]; rfl
            have y3 : wr.cell? ⟨w12.heap.size, 3, none⟩ = some (.int .i64 xr1) := by rw [Lib.cell_of_heap hrow]; rfl
            have y4 : wr.cell? ⟨w12.heap.size, 4, none⟩ = some (.int .i64 xr2) := by rw [Lib.cell_of_heap hrow]; rfl
            have y5 : wr.cell? ⟨w12.heap.size, 5, none⟩ = some (.int .i64 0) := by rw [Lib.cell_of_heap hrow]; rfl
            have y6 : wr.cell? ⟨w12.heap.size, 6, none⟩ = some (.int .i64 0) := by rw [Lib.cell_of_heap hrow]; rfl
            have y7 : wr.cell? ⟨w12.heap.size, 7, none⟩ = some (.int .i64 0) := by rw [Lib.cell_of_heap hrow]; rfl
            have y8 : wr.cell? ⟨w12.heap.size, 8, none⟩ = some (.int .i64 0) := by rw [Lib.cell_of_heap hrow]; rfl
            have y9 : wr.cell? ⟨w12.heap.size, 9, none⟩ = some (.int .i64 0) := by rw [Lib.cell_of_heap hrow]; rfl
            have y10 : wr.cell? ⟨w12.heap.size, 10, none⟩ = some (.bool false) := by rw [Lib.cell_of_heap hrow]; rfl
            have y11 : wr.cell? ⟨w12.heap.size, 11, none⟩ = some (.int .i64 xo) := by rw [Lib.cell_of_heap hrow]; rfl
            have HX := Lib.hid hx
            clear hrow hfine hx
            go_wp2_with fail
            refine hst.mono ?_
            rintro e w14 ⟨A21, c21, rfl, hO14, hb14⟩
            clear hst y0 y1 y2 y3 y4 y5 y6 y7 y8 y9 y10 y11
            simp only at hO14 ⊢
            rw [wsA_len]
            obtain ⟨⟨upc, ujob, ur0, ur1, ur2, ud, uo⟩, hu⟩ : ∃ u, u = stA n k (j + 1) := ⟨_, rfl⟩
            rw [← hu]
            have hal := (Below.refl w14.heap.size w14).alloc (Nat.le_refl _) (.cells #[.int .i64 upc, .int .i64 ujob, .int .i64 ur0, .int .i64 ur1, .int .i64 ur2, .int .i64 0, .int .i64 0, .int .i64 0, .int .i64 0, .int .i64 0, .bool ud, .int .i64 uo] 39)
            have hrow23 := heap_alloc_new w14 (.cells #[.int .i64 upc, .int .i64 ujob, .int .i64 ur0, .int .i64 ur1, .int .i64 ur2, .int .i64 0, .int .i64 0, .int .i64 0, .int .i64 0, .int .i64 0, .bool ud, .int .i64 uo] 39)
            obtain ⟨w15, hw15⟩ : ∃ w15, w14.alloc (.cells #[.int .i64 upc, .int .i64 ujob, .int .i64 ur0, .int .i64 ur1, .int .i64 ur2, .int .i64 0, .int .i64 0, .int .i64 0, .int .i64 0, .int .i64 0, .bool ud, .int .i64 uo] 39) = w15 := ⟨_, rfl⟩
            rw [hw15] at hal hrow23
            have hrl := lt_heap6' HJ.out.2.1
            have hrow19 := (hal.block _ (by have := hb14.size; omega)).trans ((hb14.block _ hrl).trans HJ.out.2.1)
            rw [← HX.out] at hrow19
            have hb15 := HJ.out.2.2.trans ((hb14.mono (by omega)).trans (hal.mono (by have := hb14.size; omega)))
            have hO15 := own_next hO14 hal
            have hsz14 := hb14.size
            have HW15 := Lib.hid hw15
            have HU := Lib.hid hu
            have HR := Lib.hid (And.intro hrow19 (And.intro hb15 hO15))
            have z0 : w15.cell? ⟨w12.heap.size, 0, none⟩ = some (.int .i64 xpc) := by rw [Lib.cell_of_heap hrow19]; rfl
            have z1 : w15.cell? ⟨w12.heap.size, 1, none⟩ = some (.int .i64 xjob) := by rw [Lib.cell_of_heap hrow19]; rfl
            have z2 : w15.cell? ⟨w12.heap.size, 2, none⟩ = some (.int .i64 xr0) := by rw [Lib.cell_of_heap hrow19]; rfl
            have z3 : w15.cell? ⟨w12.heap.size, 3, none⟩ = some (.int .i64 xr1) := by rw [Lib.cell_of_heap hrow19]; rfl
            have z4 : w15.cell? ⟨w12.heap.size, 4, none⟩ = some (.int .i64 xr2) := by rw [Lib.cell_of_heap hrow19]; rfl
            have z5 : w15.cell? ⟨w12.heap.size, 5, none⟩ = some (.int .i64 0) := by rw [Lib.cell_of_heap hrow19]; rfl
            have z6 : w15.cell? ⟨w12.heap.size, 6, none⟩ = some (.int .i64 0) := by rw [Lib.cell_of_heap hrow19]; rfl
            have z7 : w15.cell? ⟨w12.heap.size, 7, none⟩ = some (.int .i64 0) := by rw [Lib.cell_of_heap hrow19]; rfl
            have z8 : w15.cell? ⟨w12.heap.size, 8, none⟩ = some (.int .i64 0) := by rw [Lib.cell_of_heap hrow19]; rfl
            have z9 : w15.cell? ⟨w12.heap.size, 9, none⟩ = some (.int .i64 0) := by rw [Lib.cell_of_heap hrow19]; rfl
            have z10 : w15.cell? ⟨w12.heap.size, 10, none⟩ = some (.bool false) := by rw [Lib.cell_of_heap hrow19]; rfl
            have z11 : w15.cell? ⟨w12.heap.size, 11, none⟩ = some (.int .i64 xo) := by rw [Lib.cell_of_heap hrow19]; rfl
            have m0 : w15.cell? ⟨w14.heap.size, 0, none⟩ = some (.int .i64 upc) := by rw [Lib.cell_of_heap hrow23]; rfl
            have m1 : w15.cell? ⟨w14.heap.size, 1, none⟩ = some (.int .i64 ujob) := by rw [Lib.cell_of_heap hrow23]; rfl
            have m2 : w15.cell? ⟨w14.heap.size, 2, none⟩ = some (.int .i64 ur0) := by rw [Lib.cell_of_heap hrow23]; rfl
            have m3 : w15.cell? ⟨w14.heap.size, 3, none⟩ = some (.int .i64 ur1) := by rw [Lib.cell_of_heap hrow23]; rfl
            have m4 : w15.cell? ⟨w14.heap.size, 4, none⟩ = some (.int .i64 ur2) := by rw [Lib.cell_of_heap hrow23]; rfl
            have m5 : w15.cell? ⟨w14.heap.size, 5, none⟩ = some (.int .i64 0) := by rw [Lib.cell_of_heap hrow23]; rfl
            have m6 : w15.cell? ⟨w14.heap.size, 6, none⟩ = some (.int .i64 0) := by rw [Lib.cell_of_heap hrow23]; rfl
            have m7 : w15.cell? ⟨w14.heap.size, 7, none⟩ = some (.int .i64 0) := by rw [Lib.cell_of_heap hrow23]; rfl
            have m8 : w15.cell? ⟨w14.heap.size, 8, none⟩ = some (.int .i64 0) := by rw [Lib.cell_of_heap hrow23]; rfl
            have m9 : w15.cell? ⟨w14.heap.size, 9, none⟩ = some (.int .i64 0) := by rw [Lib.cell_of_heap hrow23]; rfl
            have m10 : w15.cell? ⟨w14.heap.size, 10, none⟩ = some (.bool ud) := by rw [Lib.cell_of_heap hrow23]; rfl
            have m11 : w15.cell? ⟨w14.heap.size, 11, none⟩ = some (.int .i64 uo) := by rw [Lib.cell_of_heap hrow23]; rfl
            have fz : ∀ q, w15.frozen? ⟨w12.heap.size, q, none⟩ = false := fun q => Lib.frozen_of_heap hrow19 q
            obtain ⟨w16, hw16, h16, g16⟩ := set12 w15 w12.heap.size ⟨xpc, xjob, xr0, xr1, xr2, false, xo⟩ ⟨upc, ujob, ur0, ur1, ur2, ud, uo⟩ 39 (0, 0) hrow19
            simp only at hw16
            have HW16 := Lib.hid hw16
            have HE := Lib.hid (And.intro h16 (And.intro (hb15.grown g16 (by have := hrl; have := hb14.size; have := hal.size; omega) (fun q e => by injection e with e; omega)) (World.ownsRow.kept hO15 g16 (.inr (fun e => by have := (World.ownsRow.lt hO15 w12.heap.size e).1; omega)))))
            clear hu hal hrow23 hrow19 hw15 hb15 hO15 hO14 hb14 hw16 h16 g16 hrl
            go_wp2_with (first | rw [HW15.out] | rw [HW16.out])
            go_roundw
            case measure => simp [intOf]; omega
            case rel =>
              obtain ⟨A99, c99, he, -, hN⟩ := own_slice HE.out.2.2
              injection he with e1 e2 e3
              rw [← e1] at hN
              exact ⟨j + 1, A21, c21, rfl, by go_num, by omega, (show Hid _ from ⟨hN, by rw [← HU.out]; exact HE.out.1, HE.out.2.1⟩)⟩
          · obtain rfl : j = 3 := by omega
            have hN20 : Now wr A20 (wds n (k + 1)) := HJ.out.1
            have hrow19 : wr.heap[w12.heap.size]? = some (.cells (wkA (s3A n k)) 39 (0, 0)) := HJ.out.2.1
            have hb := HJ.out.2.2
            obtain ⟨w20, hw20⟩ : ∃ w20, w20 = wr := ⟨_, rfl⟩
            rw [← hw20] at hN20 hrow19 hb ⊢
            clear hw20 HJ
            have hb20 := HS12.out.2.2.2.2.2.trans hb
            have HZ := Lib.hid (And.intro (HS12.out.1.below hb20) (And.intro (HS12.out.2.1.below hb20) (And.intro (HS12.out.2.2.1.below hb20) (And.intro (HS12.out.2.2.2.1.below hb20) (And.intro hN20 (And.intro hrow19 (Qt.more HS12.out.2.2.2.2.1 hg12 hb20)))))))
            obtain ⟨b9, off9, hA9, -, hc9⟩ := Rd.at_ HZ.out.1 (by rw [wds_len]; omega)
            have z9 := hc9 0 (by rw [wds_len]; omega)
            obtain ⟨b3, off3, hA3, -, hc3⟩ := Rd.at_ HZ.out.2.2.2.1 (by rw [bL_len]; omega)
            have z3 := hc3 0 (by rw [bL_len]; omega)
            rw [wds_get0, Nat.add_zero] at z9
            rw [bL_get, Nat.add_zero] at z3
            have zb : 0 ≤ hdN n k ∧ hdN n k ≤ 30000000 := by unfold hdN; split <;> omega
            obtain ⟨z, hz⟩ : ∃ z, z = hdN n k := ⟨_, rfl⟩
            rw [← hz] at z9 z3 zb
            obtain ⟨zb1, zb2⟩ := zb
            have hwz : IntKind.i64.wrap (z + 2097152) = z + 2097152 := IntWalk.i64_in _ (by omega)
            have z19 : w20.cell? ⟨w12.heap.size, 10, none⟩ = some (.bool true) := by rw [Lib.cell_of_heap hrow19]; rfl
            subst hA9 hA3
            have HX9 : Hid (∀ W, Below w20.heap.size w20 W → W.cell? ⟨b9, off9, none⟩ = some (.int .i64 z)) := fun W hW => Qt.keep hW z9
            have HX3 : Hid (∀ W, Below w20.heap.size w20 W → W.cell? ⟨b3, off3, none⟩ = some (.int .i64 (z + 2097152))) := fun W hW => Qt.keep hW z3
            have HX19 : Hid (∀ W, Below w20.heap.size w20 W → W.cell? ⟨w12.heap.size, 10, none⟩ = some (.bool true)) := fun W hW => Qt.keep hW z19
            clear hN20 hrow19 hb hb20 hc9 hc3 hz z9 z3 z19
            go_wp2_with fail
            refine region_calm_to (fun W => Below w20.heap.size w20 W) (fun (a0 a9 : Act) (w9 : World) => (∃ (A13 : Option Addr) (c13 : Nat), a9 = ((((((((((((((((((((((((((((((((((((a0.put (some 135) (.bool true)).put (some 136) (.bool true)).put (some 137) (.int .i64 0)).put (some 138) (.bool true)).put (some 139) (.bool true)).put (some 140) (.bool true)).put (some 141) (.slice L3 1 d3)).put (some 142) (.int .i64 1)).put (some 143) (.bool true)).put (some 144) (.bool true)).put (some 145) (.bool true)).put (some 148) (.slice (some ⟨b10, off10, none⟩) (q + 1) c10)).put (some 146) (.slice (some ⟨b3, off3, none⟩) (n + 1) c3')).put (some 147) (.slice A13 (q + 1) c13)).put (some 149) (.bool true)).put (some 150) (.bool true)).put (some 151) (.bool true)).put (some 155) (.slice (some ⟨b9, off9, none⟩) (n + 1) c9)).put (some 156) (.pointer (some ⟨b9, off9, none⟩))).put (some 157) (.int .i64 z)).put (some 158) (.int .i64 (z + 2097152))).put (some 152) (.slice (some ⟨b3, off3, none⟩) (n + 1) c3')).put (some 153) (.pointer (some ⟨b3, off3, none⟩))).put (some 154) (.int .i64 (z + 2097152))).put (some 159) (.bool true)).put (some 160) (.bool true)).put (some 161) (.bool true)).put (some 162) (.pointer (some ⟨w12.heap.size, 10, none⟩))).put (some 163) (.bool true)).put (some 164) (.bool true)).put (some 165) (.bool true)).put (some 167) (.slice A2 (n + 1) c2')).put (some 166) (.slice A20 (n + 1) c20)).put (some 168) (.bool true)).put (some 169) (.bool true)).put (some 4) (.bool true))) ∧ Below w20.heap.size w20 w9) (.only 0 (.only 1 (.only 2 (.only 3 (.only 4 (.only 5 (.only 6 (.only 7 (.only 8 (.only 9 (.only 10 (.calm 13 (.only 11 (.only 12 (.only 14 (.only 15 (.only 16 (.calm 20 (.calm 21 (.calm 22 (.calm 23 (.only 17 (.only 18 (.only 19 (.only 24 (.only 25 (.only 26 (.only 27 (.only 28 (.only 29 (.only 30 (.calm 32 (.only 31 (.only 33 (.only 34 (.only 35 .done)))))))))))))))))))))))))))))))))))) (by kernel_rfl) (by kernel_rfl) (by kernel_rfl) (by rfl) (below_drew _) ?_ ?_
            · skip
              have hCd := below_drew w20
              generalize w20.drew = v5 at *
              refine ⟨_, rfl, ?_⟩
              go_wp2_with fail
              refine ⟨rfl, hCd, ?_⟩
              refine ⟨_, rfl, ?_⟩
              go_wp2_with fail
              refine ⟨rfl, hCd, ?_⟩
              refine ⟨_, rfl, ?_⟩
              go_wp2_with fail
              refine ⟨rfl, hCd, ?_⟩
              refine ⟨_, rfl, ?_⟩
              go_wp2_with fail
              refine ⟨rfl, hCd, ?_⟩
              refine ⟨_, rfl, ?_⟩
              go_wp2_with fail
              refine ⟨rfl, hCd, ?_⟩
              refine ⟨_, rfl, ?_⟩
              go_wp2_with fail
              refine ⟨rfl, hCd, ?_⟩
              refine ⟨_, rfl, ?_⟩
              go_wp2_with fail
              refine ⟨rfl, hCd, ?_⟩
              refine ⟨_, rfl, ?_⟩
              go_wp2_with fail
              refine ⟨rfl, hCd, ?_⟩
              refine ⟨_, rfl, ?_⟩
              go_wp2_with fail
              refine ⟨rfl, hCd, ?_⟩
              refine ⟨_, rfl, ?_⟩
              go_wp2_with fail
              refine ⟨rfl, hCd, ?_⟩
              refine ⟨_, rfl, ?_⟩
              go_wp2_with fail
              refine ⟨rfl, hCd, ?_⟩
              refine ⟨_, _, .slice (some ⟨b10, off10, none⟩) (q + 1) c10, rfl, rfl, ⟨rfl, fun W hW => by first | exact ⟨rfl, rfl⟩ | (simp only [Act.eval, execOp]; go_simp; try exact ⟨rfl, rfl⟩)⟩, ?_⟩
              simp only [Act.put, List.setIfInBounds_toArray, List.set_cons_succ, List.set_cons_zero]
              refine ⟨_, rfl, ?_⟩
              go_wp2_with fail
              refine ⟨rfl, hCd, ?_⟩
              refine ⟨_, rfl, ?_⟩
              go_wp2_with fail
              have hfr := freeF_any (some ⟨b3, off3, none⟩) (bL n k) c3' v5 (HZ.out.2.2.2.1.below hCd) (by rw [bL_len]; omega) (bL_wd (by omega) (by omega))
              rw [HAl.out.back, bL_len] at hfr
              refine hfr.mono ?_
              rintro e v6 ⟨v, rfl, hO6, hb6⟩
              obtain ⟨A13, c13, rfl, -, hN13⟩ := own_slice hO6
              have hC6 := Qt.more hCd hCd.size hb6
              rw [restL_len, HQ.out.1]
              clear hfr hO6 hb6
              go_wp2_with fail
              refine ⟨rfl, hC6, ?_⟩
              refine ⟨_, rfl, ?_⟩
              go_wp2_with fail
              refine (ints_yes hN13 (HZ.out.2.2.1.below hC6) (by rw [restL_len, HQ.out.1]) (by rw [restL_len, HQ.out.1]) (by omega) rfl).mono ?_
              rintro e v7 ⟨rfl, hb7⟩
              have hC7 := Qt.more hC6 hC6.size hb7
              clear hb7 hN13
              have z9 := HX9.out _ hC7
              have z3 := HX3.out _ hC7
              have z19 := HX19.out _ hC7
              go_wp2_with fail
              refine ⟨rfl, hC7, ?_⟩
              refine ⟨_, rfl, ?_⟩
              go_wp2_with fail
              refine ⟨rfl, hC7, ?_⟩
              refine ⟨_, rfl, ?_⟩
              go_wp2_with fail
              refine ⟨rfl, hC7, ?_⟩
              refine ⟨_, _, .slice (some ⟨b9, off9, none⟩) (n + 1) c9, rfl, rfl, ⟨rfl, fun W hW => by first | exact ⟨rfl, rfl⟩ | (simp only [Act.eval, execOp]; go_simp; try exact ⟨rfl, rfl⟩)⟩, ?_⟩
              simp only [Act.put, List.setIfInBounds_toArray, List.set_cons_succ, List.set_cons_zero]
              refine ⟨_, _, .pointer (some ⟨b9, off9, none⟩), rfl, rfl, ⟨rfl, fun W hW => by first | exact ⟨rfl, rfl⟩ | (simp only [Act.eval, execOp]; go_simp; try exact ⟨rfl, rfl⟩)⟩, ?_⟩
              simp only [Act.put, List.setIfInBounds_toArray, List.set_cons_succ, List.set_cons_zero]
              refine ⟨_, _, .int .i64 z, rfl, rfl, ⟨rfl, fun W hW => by have f1 := HX9.out W hW; simp only [Act.eval, execOp]; go_simp; done⟩, ?_⟩
              simp only [Act.put, List.setIfInBounds_toArray, List.set_cons_succ, List.set_cons_zero]
              refine ⟨_, _, .int .i64 (z + 2097152), rfl, rfl, ⟨rfl, fun W hW => by simp only [Act.eval, execOp]; go_simp; try exact hwz⟩, ?_⟩
              simp only [Act.put, List.setIfInBounds_toArray, List.set_cons_succ, List.set_cons_zero]
              refine ⟨_, rfl, ?_⟩
              go_wp2_with fail
              refine ⟨rfl, hC7, ?_⟩
              refine ⟨_, rfl, ?_⟩
              go_wp2_with fail
              refine ⟨rfl, hC7, ?_⟩
              refine ⟨_, rfl, ?_⟩
              go_wp2_with fail
              refine ⟨rfl, hC7, ?_⟩
              refine ⟨_, rfl, ?_⟩
              go_wp2_with fail
              refine ⟨rfl, hC7, ?_⟩
              refine ⟨_, rfl, ?_⟩
              go_wp2_with fail
              refine ⟨rfl, hC7, ?_⟩
              refine ⟨_, rfl, ?_⟩
              go_wp2_with fail
              refine ⟨rfl, hC7, ?_⟩
              refine ⟨_, rfl, ?_⟩
              go_wp2_with fail
              refine ⟨rfl, hC7, ?_⟩
              refine ⟨_, rfl, ?_⟩
              go_wp2_with fail
              refine ⟨rfl, hC7, ?_⟩
              refine ⟨_, rfl, ?_⟩
              go_wp2_with fail
              refine ⟨rfl, hC7, ?_⟩
              refine ⟨_, rfl, ?_⟩
              go_wp2_with fail
              refine ⟨rfl, hC7, ?_⟩
              refine ⟨_, _, .slice A2 (n + 1) c2', rfl, rfl, ⟨rfl, fun W hW => by first | exact ⟨rfl, rfl⟩ | (simp only [Act.eval, execOp]; go_simp; try exact ⟨rfl, rfl⟩)⟩, ?_⟩
              simp only [Act.put, List.setIfInBounds_toArray, List.set_cons_succ, List.set_cons_zero]
              refine ⟨_, rfl, ?_⟩
              go_wp2_with fail
              refine ⟨rfl, hC7, ?_⟩
              refine ⟨_, rfl, ?_⟩
              go_wp2_with fail
              refine (ints_yes (HZ.out.2.2.2.2.1.below hC7) (HZ.out.2.1.below hC7) (by rw [wds_len]) (by rw [wds_len]) (by omega) rfl).mono ?_
              rintro e v8 ⟨rfl, hb8⟩
              have hC8 := Qt.more hC7 hC7.size hb8
              clear hb8
              go_wp2_with fail
              refine ⟨rfl, hC8, ?_⟩
              refine ⟨_, rfl, ?_⟩
              go_wp2_with fail
              refine ⟨rfl, hC8, ?_⟩
              refine ⟨_, rfl, ?_⟩
              go_wp2_with fail
              exact ⟨rfl, hC8, ⟨A13, c13, rfl⟩, hC8⟩
            · rintro a9 w9' ⟨⟨A13, c13, rfl⟩, hb9'⟩
              simp only [Act.put, List.setIfInBounds_toArray, List.set_cons_succ, List.set_cons_zero]
              have HB := Lib.hid (Qt.more HZ.out.2.2.2.2.2.2 HZ.out.2.2.2.2.2.2.size hb9')
              clear hb9'
              go_wp2_with fail
              go_ret
              exact ⟨rfl, HB.out⟩
end Go.Proofs.Ytocepdhjkhhpfaa
