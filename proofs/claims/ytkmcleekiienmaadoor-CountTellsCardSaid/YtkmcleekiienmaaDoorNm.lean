/-
  CountTwice: a number's bits, each one more, are those of twice as much; with a 0 they are those of one more than that: the law returns true whatever number comes in.
  Conditions: none.
-/
import Derived.Test.YtkmcleekiienmaaDoorNl
namespace Go.Proofs.YtkmcleekiienmaaDoor
open Go.RowKit Go.Sort

def upL (l : List Int) : List Int := l.map (· + 1)
theorem length_upL (l : List Int) : (upL l).length = l.length := by simp [upL]
theorem upL_take {l : List Int} {k : Nat} (h : k < l.length) : upL (l.take (k + 1)) = upL (l.take k) ++ [l.getD k 0 + 1] := by
  unfold upL
  rw [List.take_succ_eq_append_getElem h, List.map_append, List.getD_eq_getElem?_getD, List.getElem?_eq_getElem h]
  rfl
theorem twice_bits {x : Nat} (h : x < 1152921504606846976) : bitsL (((2 * x : Nat)) : Int) = upL (bitsL (x : Int)) := by
  rw [bitsL_nat (by omega), bitsL_nat (by omega)]
  exact bits_twice h
theorem twice_len {x : Nat} (h : x < 1152921504606846976) : (bitsL (((2 * x + 1 : Nat)) : Int)).length = (bitsL (x : Int)).length + 1 := by
  rw [bitsL_nat (by omega), bitsL_nat (by omega), bits_twice1 h]
  simp
theorem pow61 : (2 : Nat) ^ 61 = 2305843009213693952 := by decide
theorem twice_sum {x : Nat} (h : x < 1152921504606846976) : sumL (0 :: upL (bitsL (x : Int))) = (2 * (x : Int) + 1, 0) := by
  have e : total (0 :: upL (bitsL (x : Int))) = 2 * x + 1 := by
    have h1 := total_append [0] (upL (bitsL (x : Int)))
    have h2 := total_up (l := bitsL (x : Int)) (fun e he => (bitsL_bd _ e he).1)
    rw [total_bitsL (by omega)] at h2
    have h3 : total [0] = 1 := rfl
    unfold upL at *
    rw [List.singleton_append] at h1
    omega
  have h61 : ∀ e ∈ bitsL (x : Int), e ≤ 60 := by
    intro e he
    rw [bitsL_nat (by omega)] at he
    have hx := bitsTo_succ x 61
    have ht : x.testBit 61 = false := Nat.testBit_lt_two_pow (by rw [pow61]; omega)
    rw [if_neg (by rw [ht]; decide), List.append_nil] at hx
    rw [hx] at he
    have := bitsTo_bd _ _ e he
    omega
  have hin : ∀ e ∈ (0 :: upL (bitsL (x : Int))), 0 ≤ e ∧ e ≤ 61 := by
    intro e he
    rcases List.mem_cons.1 he with h0 | h0
    · omega
    · obtain ⟨d, hd, rfl⟩ := List.mem_map.1 h0
      have := bitsL_bd _ d hd
      have := h61 d hd
      omega
  have := sumL_ok hin (by rw [e]; omega)
  rw [e] at this
  rw [this]
  simp
theorem upL_i64 {l : List Int} (h : ∀ e ∈ l, 0 ≤ e ∧ e ≤ 61) : ∀ e ∈ (0 :: upL l), I64 e := by
  intro e he
  rcases List.mem_cons.1 he with h0 | h0
  · exact i64_small (by omega)
  · obtain ⟨d, hd, rfl⟩ := List.mem_map.1 h0
    have := h d hd
    exact i64_small (by omega)

/-- append to a new slice of one number -/
theorem app_new {w : World} {x : Int} {m : List Int} {A : Option Addr} (c : Nat) (hm : Now w A m) (hl : m.length ≤ 1000) :
    ∃ v' w', (Builtin.append_ #[22, 22] 22 #[.slice (some ⟨w.heap.size, 0, none⟩) 1 1, .slice A m.length c]).run Tryd.prog (w.alloc (.cells #[.int .i64 x] 3)) = .ok v' w' ∧ Own w' w.heap.size v' (x :: m) ∧ Below w.heap.size w w' := by
  have ho : Own (w.alloc (.cells #[.int .i64 x] 3)) w.heap.size (.slice (some ⟨w.heap.size, 0, none⟩) 1 1) [x] := by
    refine ⟨rfl, .inr ⟨w.heap.size, 1, #[.int .i64 x], rfl, Nat.le_refl _, ?_, Nat.le_refl _, by simp [maxLen], rfl, rfl⟩⟩
    show (w.heap.push _)[w.heap.size]? = _
    simp
  have hb : Below w.heap.size w (w.alloc (.cells #[.int .i64 x] 3)) := (Below.refl _ _).alloc (Nat.le_refl _) _
  obtain ⟨v', w', hr, h1, h2⟩ := app_any (m := m) c (by simp) ho (hm.below hb) (by simp; omega)
  exact ⟨v', w', hr, h1, Below.grown hb h2 (by simp) (fun k e => (World.ownsRow.lt ho k e).1)⟩

theorem bitsz {z : Int} {L : List Int} {nn : Nat} {w : World} (hi : I64 z) (hL : bitsL z = L) (hn : L.length = nn) :
    Calls Tryd.prog 14 #[.int .i64 z] w fun e w' => ∃ A c, e = .returned (.slice A nn c) ∧ Hid (Now w' A L) ∧ nn ≤ c ∧ Below w.heap.size w w' := by
  refine (bits_any z w hi).mono ?_
  rintro e w' ⟨v, rfl, hR, hb⟩
  rw [hL] at hR
  obtain ⟨A, c, rfl, hc, hN⟩ := hR
  rw [hn] at hc ⊢
  exact ⟨A, c, rfl, hN, hc, hb⟩

set_option maxHeartbeats 4000000 in
set_option maxRecDepth 100000 in
theorem countTwice_walk (n : Int) (w : World) (hn : I64 n) (hT : Tab w) :
    Calls Tryd.prog 8 #[.int .i64 n] w fun e w' => e = .returned (.bool true) ∧ Below w.heap.size w w' := by
  have hp1 := fun W => pick_nat n 1152921504606846976 W hn (by omega) (by omega)
  have b1 := pickI_bd n 1152921504606846976 (by omega)
  generalize pickI n 1152921504606846976 = z1 at hp1 b1
  obtain ⟨x, hx⟩ : ∃ x, x = z1.toNat := ⟨_, rfl⟩
  rw [← hx] at hp1
  have hx9 : x < 1152921504606846976 := by omega
  clear b1 hx hn
  go_enter Tryd.func8, Tryd.ntmps8
  go_wp2_with fail
  refine (awake_any w hT).mono ?_
  rintro e w1 ⟨rfl, hb1⟩
  have B1 := Lib.hid hb1
  clear hb1
  go_wp2_with fail
  refine (hp1 _).mono ?_
  rintro e w' ⟨rfl, rfl⟩
  clear hp1
  go_wp2_with fail
  refine (bitsn (u := x) (by omega)).mono ?_
  rintro e w2 ⟨A, m, c, rfl, HM, hm, hmc, hb⟩
  have B2 := Lib.hid (Qt.more B1.out B1.out.size hb)
  clear hb B1
  go_wp2
  go_loopw [6, 7] (fun v i wr => ∃ k : Nat, k ≤ m ∧ i = .int .i64 k ∧ Hid (Own wr w2.heap.size v (upL ((bitsL (x : Int)).take k))) ∧ Hid (Below w2.heap.size w2 wr)) (fun _ i _ => m - (intOf i).toNat)
  case atStart => exact ⟨0, Nat.zero_le _, rfl, World.ownsRow_nil _ _ _ _, Below.refl _ _⟩
  case round =>
    obtain ⟨k, hk, rfl, HO, HB⟩ := hrel
    by_cases hlt : k < m
    · have hltz : (k : Int) < (m : Int) := by omega
      have hlen : k < (bitsL (x : Int)).length := by have := HM.out.1; omega
      have hbd := bitsL_bd _ _ (getD_mem hlen)
      obtain ⟨b, off, rfl, _, hcell⟩ := (HM.out.2).at_ (by omega)
      have c0 := Qt.keep HB.out (hcell k hlen)
      have hup := upL_take hlen
      obtain ⟨y, hy⟩ : ∃ y, y = (bitsL (x : Int)).getD k 0 := ⟨_, rfl⟩
      rw [← hy] at c0 hbd hup
      obtain ⟨hy0, hy1⟩ := hbd
      obtain ⟨v', w', hrun, hown, hb2⟩ := push_any (y + 1) HB.out.size HO.out (by rw [length_upL, List.length_take]; omega)
      have HUP := Lib.hid hup
      have HO2 := Lib.hid hown
      have HRUN := Lib.hid hrun
      have HB2 := Lib.hid (HB.out.trans hb2)
      clear hup hown hrun hb2 hcell hlen hy
      go_wp2_with (at_builtin; refine Lib.wpList_append_run _ rfl (.tmp 21) (.tmp 27) 22 22 rfl _ _ rfl rfl _ _ HRUN.out ?_)
      go_roundw
      case measure => simp [intOf]; omega
      case rel => exact ⟨k + 1, by omega, by go_num, (by rw [HUP.out]; exact HO2.out), HB2⟩
    · have hltz : ¬ (k : Int) < (m : Int) := by omega
      have hfull : (bitsL (x : Int)).take k = bitsL (x : Int) := List.take_of_length_le (by have := HM.out.1; omega)
      have hown := HO.out
      rw [hfull] at hown
      obtain ⟨A', c', rfl, hc', hN⟩ := Own.reads hown
      have hul : (upL (bitsL (x : Int))).length = m := by rw [length_upL]; exact HM.out.1.symm
      obtain ⟨v3, w3, hrun, hown3, hb3⟩ := app_new (x := 0) c' hN (by omega)
      obtain ⟨A3, c3, rfl, hc3, hN3⟩ := Own.reads hown3
      have hl3 : (0 :: upL (bitsL (x : Int))).length = m + 1 := by rw [List.length_cons, hul]
      rw [hl3] at hc3
      rw [hl3] at hrun
      rw [hul] at hrun
      rw [hul] at hc'
      simp only [hul]
      have HN := Lib.hid hN
      have HN3 := Lib.hid hN3
      have HRUN := Lib.hid hrun
      have HB3 := Lib.hid (Qt.more HB.out HB.out.size hb3)
      have HUN := Lib.hid (hN.below hb3)
      have HUL := Lib.hid hul
      have HL3 := Lib.hid hl3
      clear hN hN3 hrun hb3 hul hl3 hfull hown hown3 HO
      go_wp2_with (at_builtin; refine Lib.wpList_append_run _ rfl (.tmp 30) (.tmp 31) 22 22 rfl _ _ rfl rfl _ _ HRUN.out ?_)
      have HS1 := Lib.hid (twice_sum hx9)
      have HI1 := Lib.hid (upL_i64 (bitsL_bd (x : Int)))
      have hm62 : m + 1 ≤ 9223372036854775807 := by omega
      refine (aw_sum HS1.out HN3.out HL3.out.symm hm62 hc3 HI1.out).mono ?_
      rintro e w4 ⟨rfl, hb⟩
      have B4 := Lib.hid (Qt.more HB3.out HB3.out.size hb)
      have HU4 := Lib.hid (HUN.out.below hb)
      clear hb HB3 HUN HN3 HN HRUN
      go_wp2_with fail
      have e2 : bitsL (2 * (x : Int)) = upL (bitsL (x : Int)) := by
        have := twice_bits hx9
        rwa [show ((2 * x : Nat) : Int) = 2 * (x : Int) by omega] at this
      have E2 := Lib.hid e2
      clear e2
      refine (bitsz (by unfold I64; omega) E2.out HUL.out).mono ?_
      rintro e w5 ⟨A5, c5, rfl, HN5, hc5, hb⟩
      have B5 := Lib.hid (Qt.more B4.out B4.out.size hb)
      have HU5 := Lib.hid (HU4.out.below hb)
      clear hb B4 HU4
      go_wp2_with fail
      refine (ints_yes HN5.out HU5.out HUL.out.symm HUL.out.symm (by omega) rfl).mono ?_
      rintro e w6 ⟨rfl, hb⟩
      have B6 := Lib.hid (Qt.more B5.out B5.out.size hb)
      clear hb B5 HU5 HN5
      go_wp2_with fail
      have e3 : (bitsL (2 * (x : Int) + 1)).length = m + 1 := by
        have := twice_len hx9
        rw [show ((2 * x + 1 : Nat) : Int) = 2 * (x : Int) + 1 by omega] at this
        rw [this, HM.out.1]
      have E3 := Lib.hid e3
      clear e3
      refine (bitsz (by unfold I64; omega) rfl E3.out).mono ?_
      rintro e w7 ⟨A7, c7, rfl, HN7, hc7, hb⟩
      have B7 := Lib.hid (Qt.more B6.out B6.out.size hb)
      clear hb B6
      go_wp2
      go_ret
      exact ⟨by first | rfl | (simp; done), Qt.more B2.out B2.out.size B7.out⟩

end Go.Proofs.YtkmcleekiienmaaDoor
