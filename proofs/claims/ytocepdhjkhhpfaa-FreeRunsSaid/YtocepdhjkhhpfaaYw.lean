/-
  Layer 12's laws: FreeRuns.
-/
import Derived.Test.YtocepdhjkhhpfaaB14
import Derived.Test.YtocepdhjkhhpfaaYv
import Derived.Test.YtocepdhjkhhpfaaB10
namespace Go.Proofs.Ytocepdhjkhhpfaa
set_option maxRecDepth 100000
set_option linter.unusedVariables false
set_option linter.unusedSimpArgs false
open Go.RowKit Go.Sort

theorem own_less12 {w : World} {B B' : Nat} {v : Value} {l : List Int} (h : Own w B v l) (hB : B' ≤ B) : Own w B' v l := by
  refine ⟨h.1, ?_⟩
  rcases h.2 with h0 | ⟨g, cap, cur, hv, hb, rest⟩
  · exact .inl h0
  · exact .inr ⟨g, cap, cur, hv, by omega, rest⟩
set_option maxHeartbeats 16000000 in
theorem freeRuns_law (c : Int) (A : Option Addr) (crowds : List (List Int)) (cA : Nat) (P : Option Addr) (picks : List Int) (cP : Nat) (w : World) (hc : I64 c) (hA : InRows w A crowds) (hP : InL w P picks cP) (hlA : crowds.length ≤ 9223372036854775807) :
    Calls Try.prog 3 #[.int .i64 c, .slice A crowds.length cA, .slice P picks.length cP] w fun e w' => e = .returned (.bool true) ∧ Below w.heap.size w w' := by
  have HA := Lib.hid hA
  have HP := Lib.hid hP
  have hpb := pickI_bd c 7 (by omega)
  obtain ⟨n, hn⟩ : ∃ n : Nat, pickI c 7 = n := ⟨(pickI c 7).toNat, by omega⟩
  have hn6 : n ≤ 6 := by omega
  have hpk := fun W => pick12_any c 7 W hc (by omega) (by omega)
  rw [hn] at hpk
  clear hA hP hpb hn hc
  go_enter Try.func3, Try.ntmps3
  go_wp2_with fail
  refine (awake12_any w).mono ?_
  rintro e w1 ⟨rfl, hb1⟩
  go_wp2_with fail
  refine (hpk w1).mono ?_
  rintro e w2 ⟨rfl, rfl⟩
  clear hpk
  go_wp2_with fail
  refine (refMake_any n (by omega) w1).mono ?_
  rintro e w2 ⟨v, rfl, hO2, hb2⟩
  obtain ⟨A9, c9, rfl, -, hN2⟩ := own_slice hO2
  have hB2 := Qt.more hb1 hb1.size hb2
  rw [makeL_len]
  have HN := Lib.hid (And.intro hN2 hB2)
  clear hb1 hO2 hb2 hN2 hB2
  go_wp2_with fail
  go_loopw [8, 9, 10] (fun mv hv i wr => ∃ (k : Nat) (m held : List Int) (cnt : Nat) (F : List Nat) (Am : Option Addr) (cm : Nat), k ≤ crowds.length ∧ k ≤ 4 ∧ i = .int .i64 k ∧ mv = .slice Am (n + 1) cm ∧ Hid (Now wr Am m ∧ Own wr w.heap.size hv held ∧ OnceI n cnt m F held ∧ cnt ≤ 8 * k ∧ Below w.heap.size w wr)) (fun _ _ i _ => 4 - (intOf i).toNat)
  case atStart => exact ⟨0, makeL n, [], 0, List.range n, A9, c9, Nat.zero_le _, Nat.zero_le _, rfl, rfl, (show Hid _ from ⟨HN.out.1, World.ownsRow_nil _ _ _ _, once_new n, Nat.le_refl _, HN.out.2⟩)⟩
  case round =>
    obtain ⟨k, m, held, cnt, F, Am, cm, hkl, hk6, rfl, rfl, HO⟩ := hrel
    have hml : m.length = n + 1 := HO.out.2.2.1.stk.len
    have hhl : held.length ≤ n := by have := HO.out.2.2.1.len; omega
    obtain ⟨AH, dH, rfl, hdc, hdm, hNH, hSH⟩ := own_parts HO.out.2.1
    have HD := Lib.hid (And.intro hdc hdm)
    clear hdc hdm
    by_cases hlt : k < crowds.length
    · have hltz : (k : Int) < (crowds.length : Int) := by omega
      by_cases hlt6 : k < 4
      · have hltz6 : (k : Int) < 4 := by omega
        obtain ⟨b, off, a, cr, hAe, hbl, hc0, hIn⟩ := (HA.out.below HO.out.2.2.2.2) k hlt
        subst hAe
        have HI := Lib.hid (And.intro hIn (And.intro hNH hSH))
        obtain ⟨raw, hraw⟩ : ∃ raw, raw = crowds.getD k [] := ⟨_, rfl⟩
        rw [← hraw] at HI hc0
        clear hIn hraw hNH hSH
        go_wp2_with fail
        refine (crowd_any a AH raw held cr dH wr HI.out.1 HI.out.2.1 (by omega)).mono ?_
        rintro e w3 ⟨v, rfl, hO3, hb3⟩
        obtain ⟨AL, cL, rfl, -, hNL⟩ := hO3.slice
        obtain ⟨m', l', cnt', F', hrun, hI', hcn, hll, hall, hpush, hgiv⟩ := once_step (by omega) (by have := HO.out.2.2.2.1; omega) HO.out.2.2.1 raw picks
        have hfit : ∀ j, j < (crowdL raw held).length → FitW ((crowdL raw held).getD j deadW) := fun j hj => (crowd_wk (n := n) (c := 0) (m := []) (F := []) raw held HO.out.2.2.1.bd (min raw.length 8) _ (by rw [List.getD_eq_getElem?_getD, List.getElem?_eq_getElem hj]; exact List.getElem_mem hj)).1.fit (by omega)
        have hl8 : (crowdL raw held).length ≤ 8 := by unfold crowdL; rw [crowdTo_len]; omega
        have hB3 := Qt.more HO.out.2.2.2.2 HO.out.2.2.2.2.size hb3
        have hmw := stk_wd HO.out.2.2.1.stk (by omega) (by have := HO.out.2.2.2.1; omega)
        have hr := runF_any Am P AL m picks (crowdL raw held) cm cP cL 0 w3 (HO.out.1.below hb3) (by omega) hmw (HP.out.below hB3) hNL hfit (by decide) (by decide)
        obtain ⟨hl64, hra⟩ := runW_ok hrun
        have hr2 : Hid (∀ W, Below w3.heap.size w3 W → Calls Try.prog 17 #[.slice Am m.length cm, .int .i64 0, .slice P picks.length cP, .slice AL (crowdL raw held).length cL] W (RunR (m', l', 0) W)) := fun W hW => by
          have := refRun_any Am P AL m picks (crowdL raw held) cm cP cL 0 W ((HO.out.1.below hb3).below hW) (by omega) hmw (HP.out.below (Qt.more hB3 hB3.size hW)) (hNL.below hW) hl64 hfit (by decide) (by decide) (by rw [hra])
          rwa [hra] at this
        rw [hrun, hml] at hr
        rw [hml] at hr2
        obtain ⟨cl, hcl⟩ : ∃ cl, cl = crowdL raw held := ⟨_, rfl⟩
        rw [← hcl] at hr hr2 hll hl8 ⊢
        have hml' := hI'.stk.len
        have HJ := Lib.hid (And.intro hI' (And.intro hB3 (And.intro hb3 (And.intro hcn hgiv))))
        clear hrun hI' hall hpush hcl hfit hO3 hNL hB3 hb3 hcn hgiv hl64 hra hmw
        go_wp2_with fail
        refine hr.mono ?_
        rintro e w4 ⟨A2, c2, L2, d2, rfl, hN4, hW4, hb4⟩
        clear hr
        simp only at hN4 hW4 ⊢
        rw [hml', hll]
        have HS := Lib.hid (And.intro hN4 (And.intro hW4 hb4))
        clear hN4 hW4 hb4
        have hr2 := hr2.out w4 HS.out.2.2
        go_wp2_with fail
        refine hr2.mono ?_
        rintro e w5 ⟨A3, c3, L3, d3, rfl, hN5, hW5, hb5⟩
        clear hr2
        simp only at hN5 hW5 ⊢
        rw [hml', hll]
        have HS5 := Lib.hid (And.intro hN5 (And.intro hW5 hb5))
        clear hN5 hW5 hb5
        have hin := ints_yes (c := c2) (c' := c3) (HS.out.1.below HS5.out.2.2) HS5.out.1 (by rw [hml']) (by rw [hml']) (by omega) rfl
        go_wp2_with fail
        refine hin.mono ?_
        rintro e w6 ⟨rfl, hb6⟩
        clear hin
        have hsm := sameW_any L2 L3 l' d2 d3 w6 ((HS.out.2.1.below HS5.out.2.2).below hb6) (HS5.out.2.1.below hb6) (by omega)
        rw [hll] at hsm
        have HB6 := Lib.hid hb6
        clear hb6
        go_wp2_with fail
        refine hsm.mono ?_
        rintro e w7 ⟨rfl, hb7⟩
        clear hsm
        have hb57 := Qt.more HB6.out HB6.out.size hb7
        have hb47 := Qt.more HS5.out.2.2 HS5.out.2.2.size hb57
        have hb37 := Qt.more HS.out.2.2 HS.out.2.2.size hb47
        have hb07 := Qt.more HJ.out.2.2.1 HJ.out.2.2.1.size hb37
        have hkp := keep_any AH L3 held l' dH d3 w7 (HI.out.2.1.below hb07) HI.out.2.2 HD.out.1 HD.out.2 (by omega) (HS5.out.2.1.below hb57) (by omega) HJ.out.2.2.2.2
        rw [hll] at hkp
        have HB := Lib.hid (And.intro hb57 (And.intro hb37 hb07))
        have HKP := Lib.hid hkp
        clear hkp hb57 hb47 hb37 hb07 hb7
        go_wp2_with fail
        refine HKP.out.mono ?_
        rintro e w8 ⟨v8, rfl, hO8, hb8⟩
        clear HKP
        obtain ⟨A8, c8, rfl, -, hN8⟩ := own_slice hO8
        have HK := Lib.hid (And.intro hO8 hb8)
        clear hO8 hb8 hN8
        go_wp2_with fail
        go_roundw
        case measure => simp [intOf]; omega
        case rel =>
          have hB7 : Below w.heap.size w w7 := Qt.more HJ.out.2.1 HJ.out.2.1.size HB.out.2.1
          refine ⟨k + 1, m', keepL held l', cnt', F', A3, c3, by omega, by omega, by go_num, rfl, (show Hid _ from ⟨(HS5.out.1.below HB.out.1).below HK.out.2, own_less12 HK.out.1 hB7.size, HJ.out.1, ?_, Qt.more hB7 hB7.size HK.out.2⟩)⟩
          have h1 := HJ.out.2.2.2.1
          have h2 := HO.out.2.2.2.1
          omega
      · have hltz6 : ¬ (k : Int) < 4 := by omega
        go_wp2
        go_ret
        exact ⟨rfl, HO.out.2.2.2.2⟩
    · have hltz : ¬ (k : Int) < (crowds.length : Int) := by omega
      have hk66 : (k : Int) < 4 ∨ ¬ (k : Int) < 4 := by omega
      rcases hk66 with h6 | h6
      · go_wp2
        go_ret
        exact ⟨rfl, HO.out.2.2.2.2⟩
      · go_wp2
        go_ret
        exact ⟨rfl, HO.out.2.2.2.2⟩
end Go.Proofs.Ytocepdhjkhhpfaa
