/-
  Next: the document's.
-/
import Derived.Test.YtocepdhjkhhpfaaB09
namespace Go.Proofs.Ytocepdhjkhhpfaa
set_option maxRecDepth 100000
set_option linter.unusedVariables false
set_option linter.unusedSimpArgs false
open Go.RowKit Go.Sort

/-- where the search begins -/
def fromP (n : Nat) (last : Int) : Nat := if 0 ≤ last ∧ last < (n : Int) then (last + 1).toNat else 0
theorem fromP_le (n : Nat) (last : Int) : fromP n last ≤ n := by unfold fromP; split <;> omega
theorem upto_from (l : List Int) (last : Int) (h : 0 < manyP l) : uptoP l last % manyP l = cntP l (fromP l.length last) % manyP l := by
  unfold uptoP fromP
  by_cases h1 : 0 ≤ last ∧ last < (l.length : Int)
  · rw [if_pos h1]
  · rw [if_neg h1]
    by_cases h2 : last < 0
    · rw [show (last + 1).toNat = 0 by omega]
    · rw [cntP_past l (show l.length ≤ (last + 1).toNat by omega), Nat.mod_self]
      show 0 = 0 % _
      rw [Nat.zero_mod]
/-- how far it is from there -/
def farP (n f t : Nat) : Nat := if f ≤ t then t - f else t + n - f
theorem far_ok {l : List Int} {f t : Nat} (hf : f ≤ l.length) (hm : 0 < manyP l) (ht : t = kthP l (cntP l f % manyP l)) :
    t < l.length ∧ 0 < l.getD t 0 ∧ farP l.length f t < l.length ∧ (f + farP l.length f t) % l.length = t ∧ ∀ i, i < farP l.length f t → ¬ 0 < l.getD ((f + i) % l.length) 0 := by
  obtain ⟨k1, k2, k3⟩ := kth_ok (l := l) (r := cntP l f % manyP l) (Nat.mod_lt _ hm)
  rw [← ht] at k1 k2 k3
  have hcm := cntP_many l f
  refine ⟨k1, k2, ?_⟩
  by_cases hc : cntP l f = manyP l
  · rw [hc, Nat.mod_self] at k3
    have htf : t < f := by
      rcases Nat.lt_or_ge t f with h | h
      · exact h
      · have := cntP_mono l h; omega
    have hfar : farP l.length f t = t + l.length - f := by unfold farP; rw [if_neg (by omega)]
    rw [hfar]
    refine ⟨by omega, ?_, fun i hi h0 => ?_⟩
    · rw [show f + (t + l.length - f) = t + l.length by omega, Nat.add_mod_right, Nat.mod_eq_of_lt k1]
    · by_cases hi2 : f + i < l.length
      · rw [Nat.mod_eq_of_lt hi2] at h0
        have h1 := cntP_mono l (show f ≤ f + i by omega)
        have h2 := live_many h0
        omega
      · rw [Nat.mod_eq_sub_mod (by omega), Nat.mod_eq_of_lt (by omega)] at h0
        have h1 := cntP_mono l (show f + i - l.length + 1 ≤ t by omega)
        rw [live_cnt h0] at h1
        omega
  · rw [Nat.mod_eq_of_lt (by omega)] at k3
    have htf : f ≤ t := by
      rcases Nat.lt_or_ge t f with h | h
      · have := cntP_mono l (show t + 1 ≤ f from h); rw [live_cnt k2] at this; omega
      · exact h
    have hfar : farP l.length f t = t - f := by unfold farP; rw [if_pos htf]
    rw [hfar]
    refine ⟨by omega, ?_, fun i hi h0 => ?_⟩
    · rw [show f + (t - f) = t by omega, Nat.mod_eq_of_lt k1]
    · rw [Nat.mod_eq_of_lt (by omega)] at h0
      have h1 := cntP_mono l (show f + i + 1 ≤ t by omega)
      have h2 := cntP_mono l (show f ≤ f + i by omega)
      rw [live_cnt h0] at h1
      omega
theorem refMany_any (B : Option Addr) (l : List Int) (d : Nat) (w : World) (hL : Now w B l) (hl : l.length ≤ 1000000) :
    Calls Try.prog 62 #[.slice B l.length d] w fun e w' => e = .returned (.int .i64 (manyP l : Int)) ∧ w = w' := by
  have HL := Lib.hid hL
  have HM := Lib.hid (show cntP l l.length = manyP l from rfl)
  clear hL
  go_enter Try.func62, Try.ntmps62
  go_wp2
  go_loopw [3, 4] (fun m i wr => ∃ k : Nat, k ≤ l.length ∧ i = .int .i64 k ∧ m = .int .i64 (cntP l k : Int) ∧ wr = w) (fun _ i _ => l.length - (intOf i).toNat)
  case atStart => exact ⟨0, Nat.zero_le _, rfl, rfl, rfl⟩
  case round =>
    obtain ⟨k, hk, rfl, rfl, hwr⟩ := hrel
    subst hwr
    by_cases hlt : k < l.length
    · have hltz : (k : Int) < (l.length : Int) := by omega
      obtain ⟨b, off, rfl, hbB, hcell⟩ := Rd.at_ HL.out (by omega)
      have y0 := hcell k hlt
      have e1 := cntP_succ l k
      have hc1 := cntP_le l k
      obtain ⟨x, hx⟩ : ∃ x, x = l.getD k 0 := ⟨_, rfl⟩
      rw [← hx] at y0 e1
      obtain ⟨m, hm⟩ : ∃ m, m = cntP l k := ⟨_, rfl⟩
      rw [← hm] at e1 hc1 ⊢
      have hmk : m ≤ 1000000 := by omega
      clear hcell hx hm hc1
      by_cases h0 : x < 1
      · rw [livI_no (by omega)] at e1
        have HE := Lib.hid e1
        have h0' : ¬ 0 < x := by omega
        clear e1
        go_wp2
        go_roundw
        case measure => simp [intOf]; omega
        case rel => exact ⟨k + 1, by omega, by go_num, by rw [HE.out, Nat.add_zero], by first | trivial | rfl⟩
      · rw [livI_yes (by omega)] at e1
        have HE := Lib.hid e1
        have h0' : 0 < x := by omega
        clear e1
        go_wp2
        go_roundw
        case measure => simp [intOf]; omega
        case rel => exact ⟨k + 1, by omega, by go_num, by rw [HE.out]; go_num, by first | trivial | rfl⟩
    · obtain rfl : k = l.length := by omega
      have hltz : ¬ (l.length : Int) < (l.length : Int) := by omega
      rw [HM.out]
      go_wp2
      go_ret
      exact ⟨rfl, by first | trivial | rfl⟩
set_option maxHeartbeats 8000000 in
theorem refNext11_any (A B : Option Addr) (picks l : List Int) (c d : Nat) (step last : Int) (w : World) (hP : InL w A picks c) (hL : InL w B l d) (hl : l.length ≤ 1000000) (hs : I64 step) (hla : I64 last) :
    Calls Try.prog 42 #[.slice A picks.length c, .int .i64 step, .slice B l.length d, .int .i64 last] w fun e w' => e = .returned (.int .i64 (nextP picks step l last)) ∧ w = w' := by
  have hmany := fun W (h : Now W B l) => refMany_any B l d W h hl
  have hm1 := many_le l
  have hnp : nextP picks step l last = if manyP l = 0 then -1 else (nextN picks step l last : Int) := rfl
  generalize hr : nextP picks step l last = r
  rw [hr] at hnp
  have HP := Lib.hid hP
  have HL := Lib.hid hL
  obtain ⟨la1, la2⟩ := hla
  obtain ⟨s1, s2⟩ := hs
  clear hP hL hr
  go_enter Try.func42, Try.ntmps42
  go_wp2_with fail
  refine (hmany _ HL.out.now).mono ?_
  rintro e w' ⟨rfl, rfl⟩
  by_cases hm0 : manyP l = 0
  · rw [if_pos hm0] at hnp
    subst hnp
    rw [hm0]
    clear hmany
    go_wp2
    go_ret
    exact ⟨rfl, rfl⟩
  rw [if_neg hm0] at hnp
  have hmz : ¬ ((manyP l : Nat) : Int) = 0 := by omega
  have hmz2 : (((manyP l : Nat) : Int) == 0) = false := beq_eq_false_iff_ne.2 hmz
  have hrk := rankP_lt picks step (many := manyP l) (uptoP l last) (by omega)
  have hT : nextN picks step l last = kthP l (rankP picks step (manyP l) (uptoP l last)) := rfl
  obtain ⟨T, hTT⟩ : ∃ T, T = nextN picks step l last := ⟨_, rfl⟩
  rw [← hTT] at hT hnp
  subst hnp
  clear hTT hmany
  by_cases h : step < 0 ∨ (picks.length : Int) ≤ step
  · rw [rankP_no h, upto_from l last (by omega)] at hT
    have hfl := fromP_le l.length last
    have hfdef : fromP l.length last = if 0 ≤ last ∧ last < (l.length : Int) then (last + 1).toNat else 0 := rfl
    obtain ⟨f, hf⟩ : ∃ f, f = fromP l.length last := ⟨_, rfl⟩
    rw [← hf] at hT hfl hfdef
    obtain ⟨q1, q2, q3, q4, q5⟩ := far_ok hfl (by omega) hT
    have hfz : (f : Int) = if 0 ≤ last ∧ last < (l.length : Int) then last + 1 else 0 := by rw [hfdef]; split <;> omega
    obtain ⟨D, hD⟩ : ∃ D, D = farP l.length f T := ⟨_, rfl⟩
    rw [← hD] at q3 q4 q5
    have HQ := Lib.hid (And.intro q2 (And.intro q4 q5))
    have hll : (0 : Int) < (l.length : Int) := by omega
    have hml : (manyP l : Int) ≤ 1000000 := by omega
    clear hrk hf hfdef hT hD q2 q4 q5
    generalize manyP l = m at *
    clear hm0 hm1
    by_cases hst : step < 0
    · clear h
      by_cases hin : 0 ≤ last ∧ last < (l.length : Int)
      · rw [if_pos hin] at hfz
        obtain ⟨hl0, hl1⟩ := hin
        have HF := Lib.hid hfz
        clear hfz
        go_wp2
        clear hmz hmz2
        go_loopw [14] (fun i wr => ∃ k : Nat, k ≤ D ∧ i = .int .i64 k ∧ wr = w) (fun i _ => D - (intOf i).toNat)
        case atStart => exact ⟨0, Nat.zero_le _, rfl, rfl⟩
        case round =>
          obtain ⟨k, hk, rfl, hwr⟩ := hrel
          subst hwr
          have hkz : (k : Int) < 2 * (l.length : Int) := by omega
          obtain ⟨q2, q4, q5⟩ := HQ.out
          obtain ⟨p, hp⟩ : ∃ p, p = (f + k) % l.length := ⟨_, rfl⟩
          have hpl : p < l.length := by rw [hp]; exact Nat.mod_lt _ (by omega)
          have hpz : (p : Int) < (l.length : Int) := by omega
          have hq : ((f : Int) + (k : Int)) % (l.length : Int) = (p : Int) := by rw [hp]; simp
          rw [HF.out] at hq
          skip
          obtain ⟨b, off, rfl, hbB, hcell⟩ := Rd.at_ HL.out.now (by omega)
          have y0 := hcell p hpl
          obtain ⟨x, hx⟩ : ∃ x, x = l.getD p 0 := ⟨_, rfl⟩
          rw [← hx] at y0
          by_cases hkD : k = D
          · have hpT : p = T := by rw [hp, hkD, q4]
            have hx0 : 0 < x := by rw [hx, hpT]; exact q2
            clear q2 q4 q5 hx hcell hp
            subst hpT hkD
            go_wp2
            go_ret
            exact ⟨by first | rfl | exact Qt.ret_int hq, by first | trivial | rfl⟩
          · have hx0 : ¬ 0 < x := by rw [hx, hp]; have h9 := q5 k (by omega); omega
            clear q2 q4 q5 hx hcell hp
            go_wp2
            go_roundw
            case measure => simp [intOf]; omega
            case rel => exact ⟨k + 1, by omega, by go_num, by first | trivial | rfl⟩
      · rw [if_neg hin] at hfz
        by_cases hl0 : last < 0
        · clear hin
          have HF := Lib.hid hfz
          clear hfz
          go_wp2
          clear hmz hmz2
          go_loopw [14] (fun i wr => ∃ k : Nat, k ≤ D ∧ i = .int .i64 k ∧ wr = w) (fun i _ => D - (intOf i).toNat)
          case atStart => exact ⟨0, Nat.zero_le _, rfl, rfl⟩
          case round =>
            obtain ⟨k, hk, rfl, hwr⟩ := hrel
            subst hwr
            have hkz : (k : Int) < 2 * (l.length : Int) := by omega
            obtain ⟨q2, q4, q5⟩ := HQ.out
            obtain ⟨p, hp⟩ : ∃ p, p = (f + k) % l.length := ⟨_, rfl⟩
            have hpl : p < l.length := by rw [hp]; exact Nat.mod_lt _ (by omega)
            have hpz : (p : Int) < (l.length : Int) := by omega
            have hq : ((f : Int) + (k : Int)) % (l.length : Int) = (p : Int) := by rw [hp]; simp
            rw [HF.out] at hq
            rw [Int.zero_add] at hq
            obtain ⟨b, off, rfl, hbB, hcell⟩ := Rd.at_ HL.out.now (by omega)
            have y0 := hcell p hpl
            obtain ⟨x, hx⟩ : ∃ x, x = l.getD p 0 := ⟨_, rfl⟩
            rw [← hx] at y0
            by_cases hkD : k = D
            · have hpT : p = T := by rw [hp, hkD, q4]
              have hx0 : 0 < x := by rw [hx, hpT]; exact q2
              clear q2 q4 q5 hx hcell hp
              subst hpT hkD
              go_wp2
              go_ret
              exact ⟨by first | rfl | exact Qt.ret_int hq, by first | trivial | rfl⟩
            · have hx0 : ¬ 0 < x := by rw [hx, hp]; have h9 := q5 k (by omega); omega
              clear q2 q4 q5 hx hcell hp
              go_wp2
              go_roundw
              case measure => simp [intOf]; omega
              case rel => exact ⟨k + 1, by omega, by go_num, by first | trivial | rfl⟩
        · have hl1 : (l.length : Int) ≤ last := by omega
          clear hin
          have HF := Lib.hid hfz
          clear hfz
          go_wp2
          clear hmz hmz2
          go_loopw [14] (fun i wr => ∃ k : Nat, k ≤ D ∧ i = .int .i64 k ∧ wr = w) (fun i _ => D - (intOf i).toNat)
          case atStart => exact ⟨0, Nat.zero_le _, rfl, rfl⟩
          case round =>
            obtain ⟨k, hk, rfl, hwr⟩ := hrel
            subst hwr
            have hkz : (k : Int) < 2 * (l.length : Int) := by omega
            obtain ⟨q2, q4, q5⟩ := HQ.out
            obtain ⟨p, hp⟩ : ∃ p, p = (f + k) % l.length := ⟨_, rfl⟩
            have hpl : p < l.length := by rw [hp]; exact Nat.mod_lt _ (by omega)
            have hpz : (p : Int) < (l.length : Int) := by omega
            have hq : ((f : Int) + (k : Int)) % (l.length : Int) = (p : Int) := by rw [hp]; simp
            rw [HF.out] at hq
            rw [Int.zero_add] at hq
            obtain ⟨b, off, rfl, hbB, hcell⟩ := Rd.at_ HL.out.now (by omega)
            have y0 := hcell p hpl
            obtain ⟨x, hx⟩ : ∃ x, x = l.getD p 0 := ⟨_, rfl⟩
            rw [← hx] at y0
            by_cases hkD : k = D
            · have hpT : p = T := by rw [hp, hkD, q4]
              have hx0 : 0 < x := by rw [hx, hpT]; exact q2
              clear q2 q4 q5 hx hcell hp
              subst hpT hkD
              go_wp2
              go_ret
              exact ⟨by first | rfl | exact Qt.ret_int hq, by first | trivial | rfl⟩
            · have hx0 : ¬ 0 < x := by rw [hx, hp]; have h9 := q5 k (by omega); omega
              clear q2 q4 q5 hx hcell hp
              go_wp2
              go_roundw
              case measure => simp [intOf]; omega
              case rel => exact ⟨k + 1, by omega, by go_num, by first | trivial | rfl⟩
    · have hst2 : (picks.length : Int) ≤ step := by omega
      clear h
      by_cases hin : 0 ≤ last ∧ last < (l.length : Int)
      · rw [if_pos hin] at hfz
        obtain ⟨hl0, hl1⟩ := hin
        have HF := Lib.hid hfz
        clear hfz
        go_wp2
        clear hmz hmz2
        go_loopw [14] (fun i wr => ∃ k : Nat, k ≤ D ∧ i = .int .i64 k ∧ wr = w) (fun i _ => D - (intOf i).toNat)
        case atStart => exact ⟨0, Nat.zero_le _, rfl, rfl⟩
        case round =>
          obtain ⟨k, hk, rfl, hwr⟩ := hrel
          subst hwr
          have hkz : (k : Int) < 2 * (l.length : Int) := by omega
          obtain ⟨q2, q4, q5⟩ := HQ.out
          obtain ⟨p, hp⟩ : ∃ p, p = (f + k) % l.length := ⟨_, rfl⟩
          have hpl : p < l.length := by rw [hp]; exact Nat.mod_lt _ (by omega)
          have hpz : (p : Int) < (l.length : Int) := by omega
          have hq : ((f : Int) + (k : Int)) % (l.length : Int) = (p : Int) := by rw [hp]; simp
          rw [HF.out] at hq
          skip
          obtain ⟨b, off, rfl, hbB, hcell⟩ := Rd.at_ HL.out.now (by omega)
          have y0 := hcell p hpl
          obtain ⟨x, hx⟩ : ∃ x, x = l.getD p 0 := ⟨_, rfl⟩
          rw [← hx] at y0
          by_cases hkD : k = D
          · have hpT : p = T := by rw [hp, hkD, q4]
            have hx0 : 0 < x := by rw [hx, hpT]; exact q2
            clear q2 q4 q5 hx hcell hp
            subst hpT hkD
            go_wp2
            go_ret
            exact ⟨by first | rfl | exact Qt.ret_int hq, by first | trivial | rfl⟩
          · have hx0 : ¬ 0 < x := by rw [hx, hp]; have h9 := q5 k (by omega); omega
            clear q2 q4 q5 hx hcell hp
            go_wp2
            go_roundw
            case measure => simp [intOf]; omega
            case rel => exact ⟨k + 1, by omega, by go_num, by first | trivial | rfl⟩
      · rw [if_neg hin] at hfz
        by_cases hl0 : last < 0
        · clear hin
          have HF := Lib.hid hfz
          clear hfz
          go_wp2
          clear hmz hmz2
          go_loopw [14] (fun i wr => ∃ k : Nat, k ≤ D ∧ i = .int .i64 k ∧ wr = w) (fun i _ => D - (intOf i).toNat)
          case atStart => exact ⟨0, Nat.zero_le _, rfl, rfl⟩
          case round =>
            obtain ⟨k, hk, rfl, hwr⟩ := hrel
            subst hwr
            have hkz : (k : Int) < 2 * (l.length : Int) := by omega
            obtain ⟨q2, q4, q5⟩ := HQ.out
            obtain ⟨p, hp⟩ : ∃ p, p = (f + k) % l.length := ⟨_, rfl⟩
            have hpl : p < l.length := by rw [hp]; exact Nat.mod_lt _ (by omega)
            have hpz : (p : Int) < (l.length : Int) := by omega
            have hq : ((f : Int) + (k : Int)) % (l.length : Int) = (p : Int) := by rw [hp]; simp
            rw [HF.out] at hq
            rw [Int.zero_add] at hq
            obtain ⟨b, off, rfl, hbB, hcell⟩ := Rd.at_ HL.out.now (by omega)
            have y0 := hcell p hpl
            obtain ⟨x, hx⟩ : ∃ x, x = l.getD p 0 := ⟨_, rfl⟩
            rw [← hx] at y0
            by_cases hkD : k = D
            · have hpT : p = T := by rw [hp, hkD, q4]
              have hx0 : 0 < x := by rw [hx, hpT]; exact q2
              clear q2 q4 q5 hx hcell hp
              subst hpT hkD
              go_wp2
              go_ret
              exact ⟨by first | rfl | exact Qt.ret_int hq, by first | trivial | rfl⟩
            · have hx0 : ¬ 0 < x := by rw [hx, hp]; have h9 := q5 k (by omega); omega
              clear q2 q4 q5 hx hcell hp
              go_wp2
              go_roundw
              case measure => simp [intOf]; omega
              case rel => exact ⟨k + 1, by omega, by go_num, by first | trivial | rfl⟩
        · have hl1 : (l.length : Int) ≤ last := by omega
          clear hin
          have HF := Lib.hid hfz
          clear hfz
          go_wp2
          clear hmz hmz2
          go_loopw [14] (fun i wr => ∃ k : Nat, k ≤ D ∧ i = .int .i64 k ∧ wr = w) (fun i _ => D - (intOf i).toNat)
          case atStart => exact ⟨0, Nat.zero_le _, rfl, rfl⟩
          case round =>
            obtain ⟨k, hk, rfl, hwr⟩ := hrel
            subst hwr
            have hkz : (k : Int) < 2 * (l.length : Int) := by omega
            obtain ⟨q2, q4, q5⟩ := HQ.out
            obtain ⟨p, hp⟩ : ∃ p, p = (f + k) % l.length := ⟨_, rfl⟩
            have hpl : p < l.length := by rw [hp]; exact Nat.mod_lt _ (by omega)
            have hpz : (p : Int) < (l.length : Int) := by omega
            have hq : ((f : Int) + (k : Int)) % (l.length : Int) = (p : Int) := by rw [hp]; simp
            rw [HF.out] at hq
            rw [Int.zero_add] at hq
            obtain ⟨b, off, rfl, hbB, hcell⟩ := Rd.at_ HL.out.now (by omega)
            have y0 := hcell p hpl
            obtain ⟨x, hx⟩ : ∃ x, x = l.getD p 0 := ⟨_, rfl⟩
            rw [← hx] at y0
            by_cases hkD : k = D
            · have hpT : p = T := by rw [hp, hkD, q4]
              have hx0 : 0 < x := by rw [hx, hpT]; exact q2
              clear q2 q4 q5 hx hcell hp
              subst hpT hkD
              go_wp2
              go_ret
              exact ⟨by first | rfl | exact Qt.ret_int hq, by first | trivial | rfl⟩
            · have hx0 : ¬ 0 < x := by rw [hx, hp]; have h9 := q5 k (by omega); omega
              clear q2 q4 q5 hx hcell hp
              go_wp2
              go_roundw
              case measure => simp [intOf]; omega
              case rel => exact ⟨k + 1, by omega, by go_num, by first | trivial | rfl⟩
  · obtain ⟨s, rfl⟩ : ∃ s : Nat, step = s := ⟨step.toNat, by omega⟩
    have hs : s < picks.length := by omega
    have hsz : (s : Int) < (picks.length : Int) := by omega
    rw [rankP_yes hs] at hT hrk
    obtain ⟨b, off, rfl, hbB, hcell⟩ := Rd.at_ HP.out.now (by omega)
    have y0 := hcell s hs
    have i0 := HP.out.fit s hs
    obtain ⟨x, hx⟩ : ∃ x, x = picks.getD s 0 := ⟨_, rfl⟩
    rw [← hx] at y0 i0 hT hrk
    have hpb := pickI_bd x (manyP l) (by omega)
    obtain ⟨i1, i2⟩ := i0
    obtain ⟨p, hp⟩ : ∃ p : Nat, pickI x (manyP l) = p := ⟨(pickI x (manyP l)).toNat, by omega⟩
    have hT2 : T = kthP l p := by rw [hT, hp, Int.toNat_natCast]
    have hpr : p < manyP l := by omega
    obtain ⟨k1, k2, k3⟩ := kth_ok hpr
    rw [← hT2] at k1 k2 k3
    have hp2 := hp
    unfold pickI at hp2
    have HK := Lib.hid (And.intro k2 k3)
    have hpl : p ≤ 1000000 := by omega
    clear hcell hx hrk hT hT2 k2 k3 hp hpb
    generalize manyP l = m at *
    have hms : m ≤ 1000000 := by omega
    clear h hm0 hm1
    by_cases hneg : x < 0
    · rw [if_pos hneg, ← Int.tmod_eq_emod_of_nonneg (by omega), Int.neg_tmod] at hp2
      have HP2 := Lib.hid hp2
      go_wp2
      clear hmz hmz2 hp2
      go_loopw [11, 12] (fun q i wr => ∃ (k s2 : Nat), k ≤ T ∧ i = .int .i64 k ∧ q = .int .i64 (s2 : Int) ∧ Hid (s2 + cntP l k = p) ∧ wr = w) (fun _ i _ => l.length - (intOf i).toNat)
      case atStart => exact ⟨0, p, Nat.zero_le _, rfl, by first | rfl | rw [HP2.out], (show Hid _ from Nat.add_zero _), rfl⟩
      case round =>
        obtain ⟨k, s2, hkT, rfl, rfl, HC, hwr2⟩ := hrel
        subst hwr2
        have hlt : k < l.length := by omega
        have hltz : (k : Int) < (l.length : Int) := by omega
        obtain ⟨b2, off2, rfl, hbB2, hcell⟩ := Rd.at_ HL.out.now (by omega)
        have y2 := hcell k hlt
        have e1 := cntP_succ l k
        have hki := @live_inj l k T
        obtain ⟨n2, n3⟩ := HK.out
        have hC := HC.out
        obtain ⟨z, hz⟩ : ∃ z, z = l.getD k 0 := ⟨_, rfl⟩
        rw [← hz] at y2 e1 hki
        have HZ := Lib.hid hz
        clear hcell hz y0
        by_cases h0 : z ≤ 0
        · rw [livI_no (by omega)] at e1
          have hne : k ≠ T := fun e => by have hz := HZ.out; rw [e] at hz; omega
          have HE := Lib.hid (show s2 + cntP l (k + 1) = p by omega)
          clear e1 hki n2 n3 hC
          go_wp2
          go_roundw
          case measure => simp [intOf]; omega
          case rel => exact ⟨k + 1, s2, by omega, by go_num, by first | trivial | rfl, (show Hid _ from HE.out), by first | trivial | rfl⟩
        · rw [livI_yes (by omega)] at e1
          by_cases h1 : s2 = 0
          · have hkT2 : k = T := hki (by omega) n2 (by omega)
            subst h1 hkT2
            clear e1 hki n2 n3 hC
            go_wp2
            go_ret
            exact ⟨by first | rfl | simp, by first | trivial | rfl⟩
          · have hne : k ≠ T := fun e => by rw [e] at hC; omega
            have HE := Lib.hid (show (s2 - 1) + cntP l (k + 1) = p by omega)
            have hsz : ¬ (s2 : Int) = 0 := by omega
            have hsz2 : ((s2 : Int) == 0) = false := beq_eq_false_iff_ne.2 hsz
            have hx2 : (0 : Int) < z := by omega
            have hsl : s2 ≤ 1000000 := by omega
            clear e1 hki n2 n3 hC
            go_wp2
            go_roundw
            case measure => simp [intOf]; omega
            case rel => exact ⟨k + 1, s2 - 1, by omega, by go_num, by rw [show ((s2 - 1 : Nat) : Int) = (s2 : Int) - 1 by omega], (show Hid _ from HE.out), by first | trivial | rfl⟩
    · rw [if_neg hneg] at hp2
      have HP2 := Lib.hid hp2
      go_wp2
      clear hmz hmz2 hp2
      go_loopw [11, 12] (fun q i wr => ∃ (k s2 : Nat), k ≤ T ∧ i = .int .i64 k ∧ q = .int .i64 (s2 : Int) ∧ Hid (s2 + cntP l k = p) ∧ wr = w) (fun _ i _ => l.length - (intOf i).toNat)
      case atStart => exact ⟨0, p, Nat.zero_le _, rfl, by first | rfl | rw [HP2.out], (show Hid _ from Nat.add_zero _), rfl⟩
      case round =>
        obtain ⟨k, s2, hkT, rfl, rfl, HC, hwr2⟩ := hrel
        subst hwr2
        have hlt : k < l.length := by omega
        have hltz : (k : Int) < (l.length : Int) := by omega
        obtain ⟨b2, off2, rfl, hbB2, hcell⟩ := Rd.at_ HL.out.now (by omega)
        have y2 := hcell k hlt
        have e1 := cntP_succ l k
        have hki := @live_inj l k T
        obtain ⟨n2, n3⟩ := HK.out
        have hC := HC.out
        obtain ⟨z, hz⟩ : ∃ z, z = l.getD k 0 := ⟨_, rfl⟩
        rw [← hz] at y2 e1 hki
        have HZ := Lib.hid hz
        clear hcell hz y0
        by_cases h0 : z ≤ 0
        · rw [livI_no (by omega)] at e1
          have hne : k ≠ T := fun e => by have hz := HZ.out; rw [e] at hz; omega
          have HE := Lib.hid (show s2 + cntP l (k + 1) = p by omega)
          clear e1 hki n2 n3 hC
          go_wp2
          go_roundw
          case measure => simp [intOf]; omega
          case rel => exact ⟨k + 1, s2, by omega, by go_num, by first | trivial | rfl, (show Hid _ from HE.out), by first | trivial | rfl⟩
        · rw [livI_yes (by omega)] at e1
          by_cases h1 : s2 = 0
          · have hkT2 : k = T := hki (by omega) n2 (by omega)
            subst h1 hkT2
            clear e1 hki n2 n3 hC
            go_wp2
            go_ret
            exact ⟨by first | rfl | simp, by first | trivial | rfl⟩
          · have hne : k ≠ T := fun e => by rw [e] at hC; omega
            have HE := Lib.hid (show (s2 - 1) + cntP l (k + 1) = p by omega)
            have hsz : ¬ (s2 : Int) = 0 := by omega
            have hsz2 : ((s2 : Int) == 0) = false := beq_eq_false_iff_ne.2 hsz
            have hx2 : (0 : Int) < z := by omega
            have hsl : s2 ≤ 1000000 := by omega
            clear e1 hki n2 n3 hC
            go_wp2
            go_roundw
            case measure => simp [intOf]; omega
            case rel => exact ⟨k + 1, s2 - 1, by omega, by go_num, by rw [show ((s2 - 1 : Nat) : Int) = (s2 : Int) - 1 by omega], (show Hid _ from HE.out), by first | trivial | rfl⟩
end Go.Proofs.Ytocepdhjkhhpfaa
