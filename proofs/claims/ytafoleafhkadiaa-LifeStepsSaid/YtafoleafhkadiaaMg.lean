/-
  LifeTells: generations are as the document says: the law returns true whatever comes in.
  Conditions: none.
-/
import Derived.Test.YtafoleafhkadiaaGh
import Derived.Test.YtafoleafhkadiaaMc
namespace Go.Proofs.Ytafoleafhkadiaa
open Go.RowKit Go.Sort

theorem twoCell : TwoInts Try.prog 25 := two_struct Try.underlying25 rfl rfl Try.underlying3 (by kernel_rfl) (by kernel_rfl)

theorem refNext_ok {A : Option Addr} {l m : List (Int × Int)} {n c : Nat} {k : Int} {w : World} (hr : nextR l = (k, m)) (hR : Now w A l) (hn : n = l.length) (hc : n ≤ c) (hl : n ≤ 1000000) :
    Calls Try.prog 31 #[.slice A n c] w (Gives w k m) := by
  subst hn
  refine (refNext_any A l c w hR hl hc).mono fun e w' h => ?_
  rw [hr] at h
  exact h.gives
theorem refRun_ok {A : Option Addr} {l m : List (Int × Int)} {n c : Nat} {k t : Int} {w : World} (hr : runA l t = (k, m)) (hR : Now w A l) (hn : n = l.length) (hc : n ≤ c) (hl : n ≤ 1000000) (ht : I64 t) :
    Calls Try.prog 33 #[.slice A n c, .int .i64 t] w (Gives w k m) := by
  subst hn
  refine (refRun_any A l c t w hR hl hc ht).mono fun e w' h => ?_
  rw [hr] at h
  exact h.gives
theorem runR_len (n : Nat) (l : List (Int × Int)) (h : l.length ≤ 2000) : (runR n l).2.length ≤ 2000 := by
  induction n generalizing l with
  | zero => exact h
  | succ n ih =>
    by_cases h0 : (nextR l).1 = 0
    · rw [runR_ok h0]; exact ih _ ((rightB_iff _).1 (nextR_right h0)).1
    · rw [runR_err h0]; exact Nat.zero_le _
theorem runA_len (l : List (Int × Int)) (n : Int) : (runA l n).2.length ≤ 2000 := by
  unfold runA
  split
  · rename_i h; exact runR_len _ _ ((rightB_iff _).1 h.1).1
  · exact Nat.zero_le _
theorem nextR_len (l : List (Int × Int)) : (nextR l).2.length ≤ 2000 := by
  unfold nextR
  split
  · exact ofR_len _
  · exact Nat.zero_le _
theorem shiftR_len (l : List (Int × Int)) (dx dy : Int) (h : l.length ≤ 2000) : (shiftR l dx dy).2.length ≤ 2000 := by
  unfold shiftR
  split
  · split
    · rw [length_shL]; exact h
    · exact Nat.zero_le _
  · exact Nat.zero_le _
theorem wrap_i64 (a : Int) : I64 (wrap64 a) := by unfold I64 wrap64; omega

/-- one of the lists that the law goes through -/
def Item (B k : Nat) (w : World) : Prop := ∃ (A : Option Addr) (l : List (Int × Int)) (n c : Nat), w.cell? ⟨B, k, none⟩ = some (.slice A n c) ∧ n = l.length ∧ n ≤ c ∧ n ≤ 2000 ∧ Now w A l
theorem Item.below {B k : Nat} {w w' : World} (h : Item B k w) (hb : Below w.heap.size w w') : Item B k w' := by
  obtain ⟨A, l, n, c, h1, h2, h3, h4, h5⟩ := h
  exact ⟨A, l, n, c, Qt.keep hb h1, h2, h3, h4, h5.below hb⟩
theorem item_three {w : World} {T : Nat} {A0 A1 A2 : Option Addr} {n0 n1 n2 c0 c1 c2 : Nat} {l0 l1 l2 : List (Int × Int)} (h0 : n0 = l0.length ∧ n0 ≤ c0 ∧ n0 ≤ 2000 ∧ Now w A0 l0) (h1 : n1 = l1.length ∧ n1 ≤ c1 ∧ n1 ≤ 2000 ∧ Now w A1 l1) (h2 : n2 = l2.length ∧ n2 ≤ c2 ∧ n2 ≤ 2000 ∧ Now w A2 l2) :
    ∀ k, k < 3 → Item w.heap.size k (w.alloc (.cells #[.slice A0 n0 c0, .slice A1 n1 c1, .slice A2 n2 c2] T)) := fun k hk => by
  have hb : Below w.heap.size w (w.alloc (.cells #[.slice A0 n0 c0, .slice A1 n1 c1, .slice A2 n2 c2] T)) := (Below.refl _ w).alloc (Nat.le_refl _) _
  have hw := Whole.new w T #[.slice A0 n0 c0, .slice A1 n1 c1, .slice A2 n2 c2]
  have : k = 0 ∨ k = 1 ∨ k = 2 := by omega
  rcases this with rfl | rfl | rfl
  · exact ⟨A0, l0, n0, c0, hw.cell 0, h0.1, h0.2.1, h0.2.2.1, h0.2.2.2.below hb⟩
  · exact ⟨A1, l1, n1, c1, hw.cell 1, h1.1, h1.2.1, h1.2.2.1, h1.2.2.2.below hb⟩
  · exact ⟨A2, l2, n2, c2, hw.cell 2, h2.1, h2.2.1, h2.2.2.1, h2.2.2.2.below hb⟩

set_option maxHeartbeats 8000000 in
set_option maxRecDepth 100000 in
theorem lifeTells_walk (A : Option Addr) (raw : List (Int × Int)) (c : Nat) (A' : Option Addr) (any : List (Int × Int)) (c' : Nat) (n side : Int) (w : World) (hR : Rd w w.heap.size A raw) (hl : raw.length ≤ 9223372036854775807) (hc : raw.length ≤ c) (hw : ∀ p ∈ raw, I64 p.1 ∧ I64 p.2)
    (hR' : Rd w w.heap.size A' any) (hl' : any.length ≤ 9223372036854775807) (hc' : any.length ≤ c') (hw' : ∀ p ∈ any, I64 p.1 ∧ I64 p.2) (hn : I64 n) (hside : I64 side) :
    Calls Try.prog 5 #[.slice A raw.length c, .slice A' any.length c', .int .i64 n, .int .i64 side] w fun e w' => e = .returned (.bool true) ∧ Below w.heap.size w w' := by
  have HW := Lib.hid hw
  have HN := Lib.hid hn
  have HSD := Lib.hid hside
  have HRA : Hid (Now w A raw) := hR
  have HRB : Hid (Now w A' any) := hR'
  clear hw hn hw' hR hR' hside
  have hpn := pickI_bd n 21 (by omega)
  have hp1 := pickI_bd side 3 (by omega)
  have hp2 := pickI_bd (wrap64 (side.tdiv 3)) 3 (by omega)
  have HSD3 := Lib.hid (wrap_i64 (side.tdiv 3))
  go_enter Try.func5, Try.ntmps5
  obtain ⟨x, hxc, HXN, hx40, HXL⟩ : ∃ (x : List (Int × Int)), x.length ≤ c' ∧ Hid (Now w A' x) ∧ x.length ≤ 40 ∧ Hid ((40 < any.length → 40 = x.length) ∧ (¬ 40 < any.length → any.length = x.length)) :=
    ⟨any.take 40, by rw [List.length_take]; omega, HRB.out.take 40, by rw [List.length_take]; omega, by rw [List.length_take]; omega, by rw [List.length_take]; omega⟩
  by_cases h40 : 40 < any.length
  all_goals
    first
      | have HXQ := Lib.hid (HXL.out.1 h40)
      | have HXQ := Lib.hid (HXL.out.2 h40)
    have hx41 := HXQ.out
    have hxq1 : 40 < any.length → 40 ≤ c' := by omega
    go_wp2_with fail
    refine (awake2_any w).mono ?_
    rintro e w1 ⟨rfl, hb1⟩
    have HRA1 := Lib.hid (HRA.out.below hb1)
    have HX1 := Lib.hid (HXN.out.below hb1)
    have HB1 := Lib.hid hb1
    clear hb1 hx41
    go_wp2_with fail
    refine (set_any A raw c w1 HRA1.out hl hc HW.out).mono ?_
    rintro e w2 ⟨v, rfl, ⟨A2, c2, rfl, hc2, hr2⟩, hb2⟩
    have HB2 := Lib.hid (Qt.more HB1.out HB1.out.size hb2)
    have HS2 : Hid (Now w2 A2 (rawSet raw)) := hr2
    have HX2 := Lib.hid (HX1.out.below hb2)
    have HNE := Lib.hid (rawSet_near raw)
    obtain ⟨s, hs⟩ : ∃ s, s = rawSet raw := ⟨_, rfl⟩
    rw [← hs] at hc2 HS2 HNE ⊢
    have h60 := HNE.out.1
    clear hs hb2 hr2 HRA1 HW HB1 HX1
    go_wp2_with fail
    refine (pick2_any side 3 _ HSD.out.1 HSD.out.2 (by omega) (by omega)).mono ?_
    rintro e w3 ⟨rfl, rfl⟩
    go_wp2_with fail
    refine (pick2_any (wrap64 (side.tdiv 3)) 3 _ HSD3.out.1 HSD3.out.2 (by omega) (by omega)).mono ?_
    rintro e w3 ⟨rfl, rfl⟩
    go_wp2_with fail
    obtain ⟨p, hp⟩ : ∃ p, p = (pickI side 3 - 1) * 1099511627768 := ⟨_, rfl⟩
    obtain ⟨q, hq⟩ : ∃ q, q = (pickI (wrap64 (side.tdiv 3)) 3 - 1) * 1099511627768 := ⟨_, rfl⟩
    have HP : Hid (I64 p) := ⟨by omega, by omega⟩
    have HQ : Hid (I64 q) := ⟨by omega, by omega⟩
    rw [← hp, ← hq]
    clear hp hq hp1 hp2 HSD HSD3
    have hml := shiftR_len s p q (by omega)
    obtain ⟨⟨e1, m⟩, hm⟩ : ∃ r, r = shiftR s p q := ⟨_, rfl⟩
    rw [← hm] at hml
    have HM := Lib.hid hm.symm
    clear hm
    refine (refShift_ok HM.out HS2.out rfl hc2 (by omega) HP.out HQ.out).mono ?_
    rintro e w3 ⟨A3, c3, rfl, hc3, HF3, hb3⟩
    have HB3 := Lib.hid (Qt.more HB2.out HB2.out.size hb3)
    have HS3 := Lib.hid (HS2.out.below hb3)
    have HX3 := Lib.hid (HX2.out.below hb3)
    simp only at hml
    have HIT : Hid (∀ k, k < 3 → Item w3.heap.size k (w3.alloc (.cells #[.slice A2 s.length c2, .slice A3 m.length c3, .slice A' _ c'] 23))) := item_three ⟨rfl, hc2, by omega, HS3.out⟩ ⟨rfl, hc3, hml, HF3.out⟩ ⟨HXQ.out, by have := HXQ.out; omega, by have := HXQ.out; omega, HX3.out⟩
    have HBB : Hid (∀ o : Obj, Below w.heap.size w (w3.alloc o)) := fun o => HB3.out.alloc HB3.out.size o
    clear hb3 HS2 HX2 HB2 HF3 HS3 HX3 HB3 HM HNE
    obtain ⟨pn, hpn2⟩ : ∃ pn, pn = pickI n 21 := ⟨_, rfl⟩
    have HPN : Hid (I64 pn) := ⟨by omega, by omega⟩
    have hpick := fun w => pick2_any n 21 w HN.out.1 HN.out.2 (by omega) (by omega)
    rw [← hpn2] at hpick
    have HPICK := Lib.hid hpick
    clear hpick hpn2 hpn
    go_wp2
    go_loopw [57] (fun i wr => ∃ k : Nat, k ≤ 3 ∧ i = .int .i64 k ∧ Aside (∀ j, j < 3 → Item w3.heap.size j wr) ∧ Below w.heap.size w wr) (fun i _ => 3 - (intOf i).toNat)
    case atStart => exact ⟨0, Nat.zero_le _, rfl, HIT.out, HBB.out _⟩
    case round =>
      obtain ⟨k, hk, rfl, HK, hb⟩ := hrel
      by_cases hlt : k < 3
      · have hltz : (k : Int) < 3 := by omega
        obtain ⟨A4, l, n4, c4, hcell, hn4, hc4, hl4, hN4⟩ := HK.out k hlt
        have HN4 := Lib.hid hN4
        have HL4 := Lib.hid hn4
        obtain ⟨⟨e1, m1⟩, hm1⟩ : ∃ r, r = nextR l := ⟨_, rfl⟩
        obtain ⟨⟨e2, m2⟩, hm2⟩ : ∃ r, r = runA l pn := ⟨_, rfl⟩
        have hl1 := nextR_len l
        have hl2 := runA_len l pn
        rw [← hm1] at hl1
        rw [← hm2] at hl2
        simp only at hl1 hl2
        have HM1 := Lib.hid hm1.symm
        have HM2 := Lib.hid hm2.symm
        clear hN4 hn4 hm1 hm2
        go_wp2_with fail
        refine (next_ok HM1.out HN4.out HL4.out hc4 (by omega)).mono ?_
        rintro e w5 ⟨A5, c5, rfl, hc5, HA5, hb5⟩
        have HB5 := Lib.hid (Qt.more hb hb.size hb5)
        have HN5 := Lib.hid (HN4.out.below hb5)
        have HK5 : Hid (∀ j, j < 3 → Item w3.heap.size j w5) := fun j hj => (HK.out j hj).below hb5
        clear hb5 HN4 HK hb hcell
        go_wp2_with fail
        refine (refNext_ok HM1.out HN5.out HL4.out hc4 (by omega)).mono ?_
        rintro e w6 ⟨A6, c6, rfl, hc6, HA6, hb6⟩
        have HB6 := Lib.hid (Qt.more HB5.out HB5.out.size hb6)
        have HN6 := Lib.hid (HN5.out.below hb6)
        have HAA6 := Lib.hid (HA5.out.below hb6)
        have HK6 : Hid (∀ j, j < 3 → Item w3.heap.size j w6) := fun j hj => (HK5.out j hj).below hb6
        clear hb6 HN5 HK5 HB5 HA5
        go_wp2_with fail
        refine (HPICK.out _).mono ?_
        rintro e w6' ⟨rfl, rfl⟩
        go_wp2_with fail
        refine (run_ok HM2.out HN6.out HL4.out hc4 (by omega) HPN.out).mono ?_
        rintro e w7 ⟨A7, c7, rfl, hc7, HR7, hb7⟩
        have HB7 := Lib.hid (Qt.more HB6.out HB6.out.size hb7)
        have HN7 := Lib.hid (HN6.out.below hb7)
        have HAA7 := Lib.hid (HAA6.out.below hb7)
        have HA7 := Lib.hid (HA6.out.below hb7)
        have HK7 : Hid (∀ j, j < 3 → Item w3.heap.size j w7) := fun j hj => (HK6.out j hj).below hb7
        clear hb7 HN6 HK6 HB6 HAA6 HA6
        go_wp2_with fail
        refine (HPICK.out _).mono ?_
        rintro e w7' ⟨rfl, rfl⟩
        go_wp2_with fail
        refine (refRun_ok HM2.out HN7.out HL4.out hc4 (by omega) HPN.out).mono ?_
        rintro e w8 ⟨A8, c8, rfl, hc8, HR8, hb8⟩
        have HB8 := Lib.hid (Qt.more HB7.out HB7.out.size hb8)
        have HAA8 := Lib.hid (HAA7.out.below hb8)
        have HA8 := Lib.hid (HA7.out.below hb8)
        have HRR8 := Lib.hid (HR7.out.below hb8)
        have HK8 : Hid (∀ j, j < 3 → Item w3.heap.size j w8) := fun j hj => (HK7.out j hj).below hb8
        clear hb8 HN7 HK7 HB7 HAA7 HA7 HR7
        go_wp2_with (first
          | (go_at_call_of 16 (Value.slice A5 m1.length c5); refine (same_yes HAA8.out HA8.out rfl (by omega) rfl).mono ?_; rintro e w9 ⟨rfl, hb9⟩; have HB9 := Lib.hid (Qt.more HB8.out HB8.out.size hb9); have HRR9 := Lib.hid (HRR8.out.below hb9); have HR9 := Lib.hid (HR8.out.below hb9); have HK9 : Hid (∀ j, j < 3 → Item w3.heap.size j w9) := (fun j hj => (HK8.out j hj).below hb9); clear hb9)
          | (go_at_call_of 16 (Value.slice A7 m2.length c7); refine (same_yes HRR9.out HR9.out rfl (by omega) rfl).mono ?_; rintro e w10 ⟨rfl, hb10⟩; have HB10 := Lib.hid (Qt.more HB9.out HB9.out.size hb10); have HK10 : Hid (∀ j, j < 3 → Item w3.heap.size j w10) := (fun j hj => (HK9.out j hj).below hb10); clear hb10))
        go_roundw
        case measure => simp [intOf]; omega
        case rel => exact ⟨k + 1, by omega, by go_num, HK10.out, HB10.out⟩
      · have hltz : ¬ (k : Int) < 3 := by omega
        obtain rfl : k = 3 := by omega
        have HB := Lib.hid hb
        obtain ⟨⟨e2, m2⟩, hm2⟩ : ∃ r, r = runA [] n := ⟨_, rfl⟩
        have HM2 := Lib.hid hm2.symm
        clear hm2 hb HK HIT HBB
        go_wp2_with fail
        refine (run_ok HM2.out (now_nil _ _) rfl (by decide) (by decide) HN.out).mono ?_
        rintro e w7 ⟨A7, c7, rfl, hc7, HR7, hb7⟩
        have HB7 := Lib.hid (Qt.more HB.out HB.out.size hb7)
        clear hb7 HB
        go_wp2_with fail
        refine (refRun_ok HM2.out (now_nil _ _) rfl (by decide) (by decide) HN.out).mono ?_
        rintro e w8 ⟨A8, c8, rfl, hc8, HR8, hb8⟩
        have HB8 := Lib.hid (Qt.more HB7.out HB7.out.size hb8)
        clear hb8 HB7 HR7 HR8
        go_wp2
        go_loopw [28] (fun i wr => ∃ k : Nat, k ≤ 10 ∧ i = .int .i64 k ∧ wr = w8) (fun i _ => 10 - (intOf i).toNat)
        case atStart => exact ⟨0, Nat.zero_le _, rfl, rfl⟩
        case round =>
          obtain ⟨j, hj, rfl, rfl⟩ := hrel
          by_cases hjt : j < 10
          · have hjz : (j : Int) < 10 := by omega
            have L1 := Lib.hid (lives_any true j)
            have L2 := Lib.hid (lives_any false j)
            have L3 := Lib.hid (refLives_any true j)
            have L4 := Lib.hid (refLives_any false j)
            obtain ⟨b1, hb1⟩ : ∃ b, b = livesB true j := ⟨_, rfl⟩
            obtain ⟨b2, hb2⟩ : ∃ b, b = livesB false j := ⟨_, rfl⟩
            rw [← hb1] at L1 L3
            rw [← hb2] at L2 L4
            clear hb1 hb2
            go_wp2_with (first
              | (go_at_call_of 34 (Value.bool true); refine (L1.out _).mono ?_; rintro e w9 ⟨rfl, rfl⟩)
              | (go_at_call_of 34 (Value.bool false); refine (L2.out _).mono ?_; rintro e w9 ⟨rfl, rfl⟩)
              | (go_at_call_of 35 (Value.bool true); refine (L3.out _).mono ?_; rintro e w9 ⟨rfl, rfl⟩)
              | (go_at_call_of 35 (Value.bool false); refine (L4.out _).mono ?_; rintro e w9 ⟨rfl, rfl⟩))
            go_roundw
            case measure => simp [intOf]; omega
            case rel => exact ⟨j + 1, by omega, by go_num, by trivial⟩
          · have hjz : ¬ (j : Int) < 10 := by omega
            obtain rfl : j = 10 := by omega
            go_wp2_with (first
              | (go_at_call 34; refine (lives_any _ _ _).mono ?_; rintro e w9 ⟨rfl, rfl⟩)
              | (go_at_call 35; refine (refLives_any _ _ _).mono ?_; rintro e w9 ⟨rfl, rfl⟩))
            all_goals go_ret
            all_goals exact ⟨by simp, HB8.out⟩

end Go.Proofs.Ytafoleafhkadiaa
