/-
  LifeAll: what Next tells is what Lives tells of each cell about a set: the law returns true whatever numbers come in.
  Conditions: none.
-/
import Derived.Test.YtafoleafhkadiaaMa
import Derived.Test.YtafoleafhkadiaaDo
namespace Go.Proofs.Ytafoleafhkadiaa
open Go.RowKit Go.Sort

theorem refHas_ok {A : Option Addr} {l : List (Int × Int)} {n c : Nat} {x y : Int} {r : Bool} {w : World} (hR : Now w A l) (hn : n = l.length) (hc : n ≤ c) (hl : n ≤ 1000000) (hr : hasB l (x, y) = r) :
    Calls Try.prog 25 #[.slice A n c, .agg #[.int .i64 x, .int .i64 y]] w fun e w' => e = .returned (.bool r) ∧ Below w.heap.size w w' := by
  subst hn hr
  exact refHas_any A l c (x, y) w hR hl hc

set_option maxHeartbeats 8000000 in
set_option maxRecDepth 100000 in
theorem lifeAll_walk (A : Option Addr) (raw : List (Int × Int)) (c : Nat) (w : World) (hR : Rd w w.heap.size A raw) (hl : raw.length ≤ 9223372036854775807) (hc : raw.length ≤ c) (hw : ∀ p ∈ raw, I64 p.1 ∧ I64 p.2) :
    Calls Try.prog 11 #[.slice A raw.length c] w fun e w' => e = .returned (.bool true) ∧ Below w.heap.size w w' := by
  have HW := Lib.hid hw
  clear hw
  go_enter Try.func11, Try.ntmps11
  go_wp2_with fail
  refine (awake2_any w).mono ?_
  rintro e w1 ⟨rfl, hb1⟩
  go_wp2_with fail
  refine (set_any A raw c w1 ((hR.below hb1 (Nat.le_refl _)).more hb1.size) hl hc HW.out).mono ?_
  rintro e w2 ⟨v, rfl, ⟨A2, c2, rfl, hc2, hr2⟩, hb2⟩
  have HB2 := Lib.hid (Qt.more hb1 hb1.size hb2)
  have HNE := Lib.hid (rawSet_near raw)
  obtain ⟨s, hs⟩ : ∃ s, s = rawSet raw := ⟨_, rfl⟩
  rw [← hs] at hr2 hc2 HNE ⊢
  have HS2 : Hid (Now w2 A2 s) := hr2
  have h60 := HNE.out.1
  clear hs hb1 hb2 hr2 hR HW
  go_wp2_with fail
  refine (next_ok HNE.out.next HS2.out rfl hc2 (by omega)).mono ?_
  rintro e w3 ⟨A3, c3, rfl, hc3, HA3, hb3⟩
  have HB3 := Lib.hid (Qt.more HB2.out HB2.out.size hb3)
  have HS3 := Lib.hid (HS2.out.below hb3)
  have hthird := next_third s
  have HIN := Lib.hid (next_box HNE.out.box)
  obtain ⟨m, hm⟩ : ∃ m, m = nextL s := ⟨_, rfl⟩
  rw [← hm] at HA3 hc3 hthird ⊢
  have HM := Lib.hid hm
  clear hm hb3 HS2 HB2
  go_wp2
  go_loopw [7, 8] (fun v i wr => ∃ j : Nat, j ≤ 20 ∧ i = .int .i64 (-10 + (j : Int)) ∧ v = .int .i64 (manyTo s j 0) ∧ Below w3.heap.size w3 wr) (fun _ i _ => (10 - intOf i).toNat)
  case atStart => exact ⟨0, by omega, rfl, rfl, Below.refl _ _⟩
  case round =>
    obtain ⟨j, hj, rfl, rfl, hb⟩ := hrel
    have hm1 := manyTo_le s j 0
    by_cases hj2 : j < 20
    · have hjz : -10 + (j : Int) < 10 := by omega
      go_wp2
      obtain ⟨wo, rfl⟩ : ∃ wo : World, wo = wr := ⟨_, rfl⟩
      go_loopw [7, 9] (fun v i wr => ∃ t : Nat, t ≤ 20 ∧ i = .int .i64 (-10 + (t : Int)) ∧ v = .int .i64 (manyTo s j t) ∧ Below w3.heap.size w3 wr) (fun _ i _ => (10 - intOf i).toNat)
      case atStart => exact ⟨0, by omega, rfl, rfl, hb⟩
      case round =>
        obtain ⟨t, ht, rfl, rfl, hb1⟩ := hrel
        have hm2 := manyTo_le s j t
        by_cases ht2 : t < 20
        · obtain ⟨x, hx⟩ : ∃ x : Int, x = -10 + (t : Int) := ⟨_, rfl⟩
          obtain ⟨y, hy⟩ : ∃ y : Int, y = -10 + (j : Int) := ⟨_, rfl⟩
          rw [← hx, ← hy]
          have hx1 : -10 ≤ x := by omega
          have hx2 : x < 10 := by omega
          have hy1 : -10 ≤ y := by omega
          have hy2 : y < 10 := by omega
          have HX := Lib.hid hx
          have HY := Lib.hid hy
          clear hx hy
          go_wp2
          obtain ⟨wp, rfl⟩ : ∃ wp : World, wp = wr := ⟨_, rfl⟩
          go_loopw [10, 11] (fun v i wr => ∃ k : Nat, k ≤ 9 ∧ i = .int .i64 k ∧ v = .int .i64 (nTo s x y k) ∧ Below w3.heap.size w3 wr) (fun _ i _ => (9 - intOf i).toNat)
          case atStart => exact ⟨0, by omega, rfl, rfl, hb1⟩
          case round =>
            obtain ⟨k, hk, rfl, rfl, hb2⟩ := hrel
            have hn1 := nTo_le s x y k
            by_cases hk2 : k < 9
            · have hkz2 : (k : Int) < 9 := by omega
              have HN2 := Lib.hid (HS3.out.below hb2)
              by_cases hk4 : k = 4
              · subst hk4
                go_wp2
                go_roundw
                case measure => simp [intOf]
                case rel => exact ⟨5, by omega, by go_num, by rw [nTo_mid], hb2⟩
              · have hkz : ((k : Int) != 4) = true := by simp; omega
                have hm0 : 0 ≤ (k : Int) % 3 := by omega
                have hm1 : (k : Int) % 3 ≤ 2 := by omega
                have hm2 : 0 ≤ (k : Int) / 3 := by omega
                have hm3 : (k : Int) / 3 ≤ 2 := by omega
                cases hh : hasB s (offC x y k)
                · have HNO : Hid (nTo s x y (k + 1) = nTo s x y k) := nTo_no (fun h => by rw [(hasB_iff _ _).2 h] at hh; cases hh)
                  have HH := Lib.hid hh
                  clear hh hk4
                  go_wp2_with (go_at_call 25; refine (refHas_ok HN2.out rfl hc2 (by omega) HH.out).mono ?_; rintro e w5 ⟨rfl, hb5⟩)
                  go_roundw
                  case measure => simp [intOf]; omega
                  case rel => exact ⟨k + 1, by omega, by go_num, by rw [HNO.out], Qt.more hb2 hb2.size hb5⟩
                · have HYES : Hid (nTo s x y (k + 1) = nTo s x y k + 1) := nTo_yes hk4 ((hasB_iff _ _).1 hh)
                  have HH := Lib.hid hh
                  clear hh hk4
                  go_wp2_with (go_at_call 25; refine (refHas_ok HN2.out rfl hc2 (by omega) HH.out).mono ?_; rintro e w5 ⟨rfl, hb5⟩)
                  go_roundw
                  case measure => simp [intOf]; omega
                  case rel => exact ⟨k + 1, by omega, by go_num, by rw [HYES.out]; go_num, Qt.more hb2 hb2.size hb5⟩
            · obtain rfl : k = 9 := by omega
              have HN2 := Lib.hid (HS3.out.below hb2)
              have HA2 := Lib.hid (HA3.out.below hb2)
              have HNB := Lib.hid (nTo_nbr HNE.out.2.1 x y)
              have hal : hasB m (x, y) = livesB (hasB s (x, y)) (nTo s x y 9) := by
                rw [HNB.out, HM.out, Bool.eq_iff_iff, hasB_iff, mem_nextL]
                have e : hasB s (x, y) = decide ((x, y) ∈ s) := by rw [Bool.eq_iff_iff, hasB_iff, decide_eq_true_eq]
                rw [e]
                rfl
              have hmany := manyTo_step s j t
              rw [← HX.out, ← HY.out] at hmany
              have hal2 : aliveB s (x, y) = hasB m (x, y) := by rw [HM.out, Bool.eq_iff_iff, hasB_iff, mem_nextL]
              rw [hal2] at hmany
              obtain ⟨h1, hh1⟩ : ∃ b, b = hasB s (x, y) := ⟨_, rfl⟩
              obtain ⟨h2, hh2⟩ : ∃ b, b = hasB m (x, y) := ⟨_, rfl⟩
              rw [← hh1, ← hh2] at hal
              rw [← hh2] at hmany
              have HH1 := Lib.hid hh1.symm
              have HH2 := Lib.hid hh2.symm
              have HAL := Lib.hid hal.symm
              have HMANY := Lib.hid hmany
              clear hh1 hh2 hal hmany hal2
              cases h2
              all_goals
                go_wp2_with (first
                  | (go_at_call_of 25 (Value.slice A2 s.length c2); refine (refHas_ok (HN2.out.below ((Below.refl _ _).alloc (Nat.le_refl _) _)) rfl hc2 (by omega) HH1.out).mono ?_; rintro e w5 ⟨rfl, hb5⟩; have HB5 : Hid (Below wr.heap.size wr w5) := Qt.more ((Below.refl _ wr).alloc (Nat.le_refl _) _) (by simp) hb5; have d0 : w5.cell? ⟨wr.heap.size, 0, none⟩ = some (.int .i64 x) := Qt.keep hb5 (by simp); have d1 : w5.cell? ⟨wr.heap.size, 1, none⟩ = some (.int .i64 y) := Qt.keep hb5 (by simp); clear hb5)
                  | (go_at_call_of 25 (Value.slice A3 m.length c3); refine (refHas_ok (HA2.out.below HB5.out) rfl hc3 (by omega) HH2.out).mono ?_; rintro e w7 ⟨rfl, hb7⟩; have HB7 : Hid (Below wr.heap.size wr w7) := Qt.more HB5.out HB5.out.size hb7; clear hb7)
                  | (go_at_call 34; refine (lives_ok HAL.out _).mono ?_; rintro e w6 ⟨rfl, rfl⟩))
                go_roundw
                case measure => simp [intOf]; omega
                case rel =>
                  refine ⟨t + 1, by omega, ?_, ?_, Qt.more hb2 hb2.size HB7.out⟩
                  · rw [HX.out]; go_num
                  · rw [HMANY.out]; first | rfl | go_num | (simp; done)
        · obtain rfl : t = 20 := by omega
          have hz : ¬ (-10 + ((20 : Nat) : Int) < 10) := by omega
          have HROW := Lib.hid (manyTo_row s j)
          go_wp2
          go_roundw
          case measure => simp [intOf]; omega
          case rel => exact ⟨j + 1, by omega, by go_num, by rw [← HROW.out], hb1⟩
    · obtain rfl : j = 20 := by omega
      have hz : ¬ (-10 + ((20 : Nat) : Int) < 10) := by omega
      have hall := manyTo_all (l := s) (by have := HIN.out; intro p hp; have := this p hp; omega)
      rw [← HM.out] at hall
      have hallz : ((manyTo s 20 0 : Nat) : Int) = (m.length : Int) := by rw [hall]
      clear hall hm1
      rw [hallz]
      clear hallz
      go_wp2
      go_ret
      exact ⟨by simp, Qt.more HB3.out HB3.out.size hb⟩

end Go.Proofs.Ytafoleafhkadiaa
