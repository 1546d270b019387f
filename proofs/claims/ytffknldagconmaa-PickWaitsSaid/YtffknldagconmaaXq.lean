/-
  PickWaits: behind the picks none waits longer than for as many turns as there are workers.
-/
import Derived.Test.YtffknldagconmaaB04
namespace Go.Proofs.Ytffknldagconmaa
set_option maxRecDepth 100000
set_option linter.unusedVariables false
set_option linter.unusedSimpArgs false
open Go.RowKit Go.Sort

set_option maxHeartbeats 16000000 in
theorem pickWaits_law (A : Option Addr) (picks : List Int) (c : Nat) (B : Option Addr) (raw : List Int) (d : Nat) (w : World) (hP : InL w A picks c) (hR : InL w B raw d) :
    Calls Try.prog 5 #[.slice A picks.length c, .slice B raw.length d] w fun e w' => e = .returned (.bool true) ∧ Below w.heap.size w w' := by
  have HP := Lib.hid hP
  have HR := Lib.hid hR
  clear hP hR
  go_enter Try.func5, Try.ntmps5
  go_wp2_with fail
  refine (awake11_any w).mono ?_
  rintro r w1 ⟨rfl, hb1⟩
  have HB1 := Lib.hid hb1
  clear hb1
  go_wp2_with fail
  refine (left11_any B raw d w1 (HR.out.now.below HB1.out) HR.out.len HR.out.fit).mono ?_
  rintro r w2 ⟨v2, rfl, ho2, hb2⟩
  obtain ⟨A2, c2, rfl, hc2, hN2⟩ := own_slice ho2
  have HB2 := Lib.hid (Qt.more HB1.out HB1.out.size hb2)
  have HN2 := Lib.hid hN2
  clear hb2 ho2 hN2 HB1 HR
  have hll := leftP_len raw
  have htt := left_tot raw
  have HM := Lib.hid (left_bd raw)
  generalize leftP raw = l at *
  have h3 := turns11_any A A2 picks l c c2 w2 (HP.out.below HB2.out) HN2.out (by omega) HM.out (by omega)
  go_wp2_with fail
  refine h3.mono ?_
  rintro r w3 ⟨v3, rfl, ho3, hb3⟩
  obtain ⟨A3, c3, rfl, hc3, hN3⟩ := own_slice ho3
  rw [turns_len] at hc3
  rw [turns_len]
  have HB3 := Lib.hid (Qt.more HB2.out HB2.out.size hb3)
  have HN3 := Lib.hid hN3
  have HN23 := Lib.hid (HN2.out.below hb3)
  have hpl := HP.out.len
  clear h3 hb3 ho3 hN3 HB2 HN2
  go_wp2_with fail
  go_loopw [8] (fun i wr => ∃ v : Nat, v ≤ l.length ∧ i = .int .i64 v ∧ wr = w3) (fun i _ => l.length - (intOf i).toNat)
  case atStart => exact ⟨0, Nat.zero_le _, rfl, rfl⟩
  case round =>
    obtain ⟨v, hv, rfl, hwr⟩ := hrel
    subst hwr
    by_cases hvl : v < l.length
    · have hvz : (v : Int) < (l.length : Int) := by omega
      go_wp2_with fail
      obtain ⟨wo, rfl⟩ : ∃ wo : World, wo = wr := ⟨_, rfl⟩
      go_loopw [9, 10, 11] (fun x y i wr => ∃ j : Nat, j ≤ totP l ∧ i = .int .i64 j ∧ x = .int .i64 (waitP picks l v j : Int) ∧ y = .int .i64 (hadP picks l v j : Int) ∧ wr = wo) (fun _ _ i _ => totP l - (intOf i).toNat)
      case atStart => exact ⟨0, Nat.zero_le _, rfl, rfl, rfl, rfl⟩
      case round =>
        obtain ⟨j, hj, rfl, rfl, rfl, hwr2⟩ := hrel
        subst hwr2
        by_cases hlt : j < totP l
        · have hgt := turns_get picks l hlt
          obtain ⟨b, off, rfl, hbB, hcell⟩ := Rd.at_ HN3.out (by rw [turns_len]; omega)
          have y1 := hcell j (by rw [turns_len]; exact hlt)
          rw [hgt] at y1
          obtain ⟨b2, off2, rfl, hbB2, hcell2⟩ := Rd.at_ HN23.out (by omega)
          have y2 := hcell2 v hvl
          have hhb := hadP_le picks l v j
          have hwb := (wait_bd (picks := picks) hvl (j + 1) hlt).1
          have hwb0 := (wait_bd (picks := picks) hvl j hj).1
          have hlb := HM.out v
          have hws : waitP picks l v (j + 1) = if tnP picks l j = v then 0 else if picks.length ≤ j ∧ (hadP picks l v j : Int) < l.getD v 0 then waitP picks l v j + 1 else waitP picks l v j := rfl
          have hhs : hadP picks l v (j + 1) = hadP picks l v j + if tnP picks l j = v then 1 else 0 := rfl
          obtain ⟨T, hT⟩ : ∃ T, T = tnP picks l j := ⟨_, rfl⟩
          rw [← hT] at y1 hws hhs
          obtain ⟨x, hx⟩ : ∃ x, x = l.getD v 0 := ⟨_, rfl⟩
          rw [← hx] at y2 hlb hws
          obtain ⟨W2, hW2⟩ : ∃ W2, W2 = waitP picks l v (j + 1) := ⟨_, rfl⟩
          obtain ⟨H2, hH2⟩ : ∃ H2, H2 = hadP picks l v (j + 1) := ⟨_, rfl⟩
          rw [← hW2] at hws hwb
          rw [← hH2] at hhs
          generalize waitP picks l v j = W1 at *
          generalize hadP picks l v j = H1 at *
          have hjz : (j : Int) < (totP l : Int) := by omega
          clear hcell hcell2 hgt hT hx
          by_cases hTv : T = v
          · rw [if_pos hTv] at hws hhs
            have HE := Lib.hid (And.intro (hW2.symm.trans hws) (hH2.symm.trans hhs))
            clear hW2 hH2
            subst hTv
            have hTT : ((T : Int) == (T : Int)) = true := by simp
            clear hws hhs
            go_wp2_with fail
            go_roundw
            case measure => simp [intOf]; omega
            case rel => exact ⟨j + 1, by omega, by go_num, by rw [HE.out.1]; rfl, by rw [HE.out.2]; go_num, by first | trivial | rfl⟩
          · rw [if_neg hTv] at hws hhs
            have hTz : ((T : Int) == (v : Int)) = false := beq_eq_false_iff_ne.2 (by omega)
            have hTz2 : ¬ (T : Int) = (v : Int) := by omega
            by_cases hp : picks.length ≤ j
            · have hpz : (picks.length : Int) ≤ (j : Int) := by omega
              by_cases hxz : (H1 : Int) < x
              · rw [if_pos ⟨hp, hxz⟩] at hws
                have HE := Lib.hid (And.intro (hW2.symm.trans hws) (hH2.symm.trans hhs))
                have hwz : ¬ ((l.length : Int) < (W1 : Int) + 1) := by omega
                clear hws hhs hlb hW2 hH2
                go_wp2_with fail
                go_roundw
                case measure => simp [intOf]; omega
                case rel => exact ⟨j + 1, by omega, by go_num, by rw [HE.out.1]; go_num, by rw [HE.out.2]; go_num, by first | trivial | rfl⟩
              · rw [if_neg (fun h => hxz h.2)] at hws
                have HE := Lib.hid (And.intro (hW2.symm.trans hws) (hH2.symm.trans hhs))
                have hwz : ¬ ((l.length : Int) < (W1 : Int)) := by omega
                clear hws hhs hlb hW2 hH2
                go_wp2_with fail
                go_roundw
                case measure => simp [intOf]; omega
                case rel => exact ⟨j + 1, by omega, by go_num, by rw [HE.out.1], by rw [HE.out.2]; go_num, by first | trivial | rfl⟩
            · rw [if_neg (fun h => hp h.1)] at hws
              have HE := Lib.hid (And.intro (hW2.symm.trans hws) (hH2.symm.trans hhs))
              have hpz : ¬ (picks.length : Int) ≤ (j : Int) := by omega
              have hwz : ¬ ((l.length : Int) < (W1 : Int)) := by omega
              clear hws hhs hlb hW2 hH2
              go_wp2_with fail
              go_roundw
              case measure => simp [intOf]; omega
              case rel => exact ⟨j + 1, by omega, by go_num, by rw [HE.out.1], by rw [HE.out.2]; go_num, by first | trivial | rfl⟩
        · obtain rfl : j = totP l := by omega
          have hjz : ¬ (totP l : Int) < (totP l : Int) := by omega
          go_wp2_with fail
          go_roundw
          case measure => simp [intOf]; omega
          case rel => exact ⟨v + 1, by omega, by go_num, by first | trivial | rfl⟩
    · obtain rfl : v = l.length := by omega
      have hvz : ¬ (l.length : Int) < (l.length : Int) := by omega
      go_wp2_with fail
      go_ret
      exact ⟨rfl, HB3.out⟩
end Go.Proofs.Ytffknldagconmaa
