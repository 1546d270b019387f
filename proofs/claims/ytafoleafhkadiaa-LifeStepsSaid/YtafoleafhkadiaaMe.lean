/-
  LifeApart: two sets that are far apart run as one as they run alone: the law returns true whatever numbers come in.
  Conditions: none.
-/
import Derived.Test.YtafoleafhkadiaaMd
import Derived.Test.YtafoleafhkadiaaDr
namespace Go.Proofs.Ytafoleafhkadiaa
open Go.RowKit Go.Sort

theorem iter_shift (dx dy : Int) {l : List (Int × Int)} (h : Rises l) (n : Nat) : iterL n (shL dx dy l) = shL dx dy (iterL n l) := by
  rw [shL_setL dx dy h, shL_setL dx dy (rises_iterL h n)]
  exact iter_map (iso_shift dx dy) h n
theorem unL_box {a b c d : Int} {l m : List (Int × Int)} (hs : Rises l) (hl : InBox a b c d l) (hm : InBox a b c d m) : InBox a b c d (unL l m) := fun p hp => by
  rcases (mem_unL hs m p).1 hp with h | h
  · exact hm p h
  · exact hl p h
theorem runA_iter {l : List (Int × Int)} {n : Nat} (h : rightB l = true) (hn : n ≤ 1000) (hk : ∀ k, 0 < k → k ≤ n → (∀ p ∈ iterL k l, inB p = true) ∧ (iterL k l).length ≤ 2000) : runA l n = (0, iterL n l) := by
  unfold runA
  rw [if_pos ⟨h, by omega, by omega⟩, Int.toNat_natCast]
  exact runR_iter n l h hk
theorem box_in {a b c d : Int} {l : List (Int × Int)} (h : InBox a b c d l) (h1 : -1099511627776 ≤ a) (h2 : b ≤ 1099511627776) (h3 : -1099511627776 ≤ c) (h4 : d ≤ 1099511627776) : ∀ p ∈ l, inB p = true := fun p hp => by
  have := h p hp
  rw [inB_iff]
  omega

theorem apart_facts {s t : List (Int × Int)} (hs : Near s) (ht : Near t) {k : Nat} (hk : k ≤ 12) :
    shiftR t (17 + 2 * (k : Int)) 0 = (0, shL (17 + 2 * (k : Int)) 0 t) ∧ runA s k = (0, iterL k s) ∧ runA (shL (17 + 2 * (k : Int)) 0 t) k = (0, iterL k (shL (17 + 2 * (k : Int)) 0 t)) ∧
    runA (unL s (shL (17 + 2 * (k : Int)) 0 t)) k = (0, iterL k (unL s (shL (17 + 2 * (k : Int)) 0 t))) ∧ iterL k (unL s (shL (17 + 2 * (k : Int)) 0 t)) = unL (iterL k s) (iterL k (shL (17 + 2 * (k : Int)) 0 t)) ∧
    (iterL k s).length ≤ 916 ∧ (iterL k (shL (17 + 2 * (k : Int)) 0 t)).length ≤ 916 ∧ (iterL k (unL s (shL (17 + 2 * (k : Int)) 0 t))).length ≤ 2000 := by
  have hm : InBox (9 + 2 * (k : Int)) (24 + 2 * (k : Int)) (-8) 7 (shL (17 + 2 * (k : Int)) 0 t) := (shL_box ht.box _ 0).mono (by omega) (by omega) (by omega) (by omega)
  have hmr : Rises (shL (17 + 2 * (k : Int)) 0 t) := rises_shL _ _ ht.2.1
  have hml : (shL (17 + 2 * (k : Int)) 0 t).length ≤ 60 := by rw [length_shL]; exact ht.1
  have hI : ∀ j, j ≤ k → (iterL j s).length ≤ 916 := fun j hj => oct_iter hs.2.1 hs.box (by omega)
  have hJ : ∀ j, j ≤ k → (iterL j (shL (17 + 2 * (k : Int)) 0 t)).length ≤ 916 := fun j hj => by
    rw [iter_shift _ _ ht.2.1, length_shL]
    exact oct_iter ht.2.1 ht.box (by omega)
  have hU : ∀ j, j ≤ k → iterL j (unL s (shL (17 + 2 * (k : Int)) 0 t)) = unL (iterL j s) (iterL j (shL (17 + 2 * (k : Int)) 0 t)) := fun j hj => iter_unL hs.2.1 hmr hs.box hm j (by omega)
  have hUl : ∀ j, j ≤ k → (iterL j (unL s (shL (17 + 2 * (k : Int)) 0 t))).length ≤ 2000 := fun j hj => by
    rw [hU j hj]
    have := length_unL (iterL j s) (iterL j (shL (17 + 2 * (k : Int)) 0 t))
    have := hI j hj
    have := hJ j hj
    omega
  have hub : InBox (-8) 100 (-8) 7 (unL s (shL (17 + 2 * (k : Int)) 0 t)) := unL_box hs.2.1 (hs.box.mono (by omega) (by omega) (by omega) (by omega)) (hm.mono (by omega) (by omega) (by omega) (by omega))
  have hin : ∀ (l : List (Int × Int)), InBox (-8) 100 (-8) 7 l → ∀ j, j ≤ k → ∀ p ∈ iterL j l, inB p = true := fun l hl j hj => box_in (iter_box hl j) (by omega) (by omega) (by omega) (by omega)
  have hub0 := hUl 0 (by omega)
  refine ⟨shiftR_box ht.box ht.2.1 (by have := ht.1; omega) (by omega) (by omega) (by omega) (by omega) (by omega) (by omega) (by omega) (by omega), ?_, ?_, ?_, hU k (Nat.le_refl _), hI k (Nat.le_refl _), hJ k (Nat.le_refl _), hUl k (Nat.le_refl _)⟩
  · refine runA_iter hs.right (by omega) fun j _ hj => ⟨hin s (hs.box.mono (by omega) (by omega) (by omega) (by omega)) j hj, Nat.le_trans (hI j hj) (by decide)⟩
  · refine runA_iter (right_box hm hmr (by omega) (by omega) (by omega) (by omega) (by omega)) (by omega) fun j _ hj => ⟨hin _ (hm.mono (by omega) (by omega) (by omega) (by omega)) j hj, Nat.le_trans (hJ j hj) (by decide)⟩
  · exact runA_iter (right_box hub (rises_unL hs.2.1 _) hub0 (by omega) (by omega) (by omega) (by omega)) (by omega) fun j _ hj => ⟨hin _ hub j hj, hUl j hj⟩

set_option maxHeartbeats 8000000 in
set_option maxRecDepth 100000 in
theorem lifeApart_walk (A : Option Addr) (raw : List (Int × Int)) (c : Nat) (A' : Option Addr) (raw' : List (Int × Int)) (c' : Nat) (n : Int) (w : World) (hR : Rd w w.heap.size A raw) (hl : raw.length ≤ 9223372036854775807) (hc : raw.length ≤ c) (hw : ∀ p ∈ raw, I64 p.1 ∧ I64 p.2)
    (hR' : Rd w w.heap.size A' raw') (hl' : raw'.length ≤ 9223372036854775807) (hc' : raw'.length ≤ c') (hw' : ∀ p ∈ raw', I64 p.1 ∧ I64 p.2) (hn : I64 n) :
    Calls Try.prog 7 #[.slice A raw.length c, .slice A' raw'.length c', .int .i64 n] w fun e w' => e = .returned (.bool true) ∧ Below w.heap.size w w' := by
  have HW := Lib.hid hw
  have HW' := Lib.hid hw'
  have HN := Lib.hid hn
  have HRA : Hid (Now w A raw) := hR
  have HRB : Hid (Now w A' raw') := hR'
  clear hw hn hw' hR hR'
  have hpn := pickI_bd n 13 (by omega)
  go_enter Try.func7, Try.ntmps7
  go_wp2_with fail
  refine (awake2_any w).mono ?_
  rintro e w1 ⟨rfl, hb1⟩
  have HRA1 := Lib.hid (HRA.out.below hb1)
  have HRB1 := Lib.hid (HRB.out.below hb1)
  have HB1 := Lib.hid hb1
  clear hb1 HRA HRB
  go_wp2_with fail
  refine (pick2_any n 13 _ HN.out.1 HN.out.2 (by omega) (by omega)).mono ?_
  rintro e w1' ⟨rfl, rfl⟩
  obtain ⟨k, hk⟩ : ∃ k : Nat, (k : Int) = pickI n 13 := ⟨(pickI n 13).toNat, by omega⟩
  rw [← hk] at hpn ⊢
  clear hk
  go_wp2_with fail
  refine (set_any A raw c w1 HRA1.out hl hc HW.out).mono ?_
  rintro e w2 ⟨v, rfl, ⟨A2, c2, rfl, hc2, hr2⟩, hb2⟩
  have HRB2 := Lib.hid (HRB1.out.below hb2)
  have HB2 := Lib.hid (Qt.more HB1.out HB1.out.size hb2)
  have HS2 : Hid (Now w2 A2 (rawSet raw)) := hr2
  clear hb2 hr2 HRB1 HB1 HRA1 HW
  go_wp2_with fail
  refine (set_any A' raw' c' w2 HRB2.out hl' hc' HW'.out).mono ?_
  rintro e w3 ⟨v, rfl, ⟨A3, c3, rfl, hc3, hr3⟩, hb3⟩
  have HB3 := Lib.hid (Qt.more HB2.out HB2.out.size hb3)
  have HS3 := Lib.hid (HS2.out.below hb3)
  have HT3 : Hid (Now w3 A3 (rawSet raw')) := hr3
  clear hb3 hr3 HRB2 HB2 HS2 HW'
  have HNS := Lib.hid (rawSet_near raw)
  have HNT := Lib.hid (rawSet_near raw')
  obtain ⟨s, hs⟩ : ∃ s, s = rawSet raw := ⟨_, rfl⟩
  obtain ⟨t, ht⟩ : ∃ t, t = rawSet raw' := ⟨_, rfl⟩
  rw [← hs] at hc2 HS3 HNS ⊢
  rw [← ht] at hc3 HT3 HNT ⊢
  clear hs ht
  have hs60 := HNS.out.1
  have ht60 := HNT.out.1
  obtain ⟨F1, F2, F3, F4, F5, F6, F7, F8⟩ := apart_facts HNS.out HNT.out (k := k) (by omega)
  obtain ⟨g, hg⟩ : ∃ g : Int, g = 17 + 2 * (k : Int) := ⟨_, rfl⟩
  rw [← hg] at F1 F3 F4 F5 F7 F8
  obtain ⟨m, hm⟩ : ∃ m, m = shL g 0 t := ⟨_, rfl⟩
  have hml : m.length ≤ 60 := by rw [hm, length_shL]; exact ht60
  rw [← hm] at F1 F3 F4 F5 F7 F8
  obtain ⟨a, ha⟩ : ∃ a, a = iterL k s := ⟨_, rfl⟩
  obtain ⟨b, hb⟩ : ∃ b, b = iterL k m := ⟨_, rfl⟩
  rw [← ha] at F2 F5 F6
  rw [← hb] at F3 F5 F7
  obtain ⟨z, hz⟩ : ∃ z, z = unL s m := ⟨_, rfl⟩
  have hzl : z.length ≤ 120 := by rw [hz]; have := length_unL s m; omega
  rw [← hz] at F4 F5 F8
  obtain ⟨x, hx⟩ : ∃ x, x = iterL k z := ⟨_, rfl⟩
  rw [← hx] at F4 F5 F8
  have hab : (unL a b).length ≤ 2000 := by have := length_unL a b; omega
  have G1 := Lib.hid F1
  have G2 := Lib.hid F2
  have G3 := Lib.hid F3
  have G4 := Lib.hid F4
  have G5 := Lib.hid F5
  have GZ := Lib.hid hz
  have GK : Hid (I64 (k : Int)) := ⟨by omega, by omega⟩
  have GG : Hid (I64 g) := ⟨by omega, by omega⟩
  have hgz : 17 + 2 * (k : Int) = g := hg.symm
  clear F1 F2 F3 F4 F5 hz ha hb hx hm hg
  go_wp2_with (go_at_call 27; refine (refShift_ok G1.out HT3.out rfl hc3 (by omega) GG.out ⟨by omega, by omega⟩).mono ?_; rintro e w4 ⟨A4, c4, rfl, hc4, HM4, hb4⟩; have HB4 := Lib.hid (Qt.more HB3.out HB3.out.size hb4); have HS4 := Lib.hid (HS3.out.below hb4); clear hb4)
  clear HT3 HS3 HB3 G1 hc3
  go_loopw [12, 13] (fun v i wr => ∃ j : Nat, j ≤ m.length ∧ i = .int .i64 j ∧ Aside (Reads wr v (unL s (m.take j))) ∧ Below w4.heap.size w4 wr) (fun _ i _ => m.length - (intOf i).toNat)
  case atStart => exact ⟨0, Nat.zero_le _, rfl, ⟨A2, c2, rfl, hc2, HS4.out⟩, Below.refl _ _⟩
  case round =>
    obtain ⟨j, hj, rfl, HK, hb⟩ := hrel
    obtain ⟨A5, c5, rfl, hc5, hR5⟩ := HK.out
    have hlen : (unL s (m.take j)).length ≤ 120 := by have := length_unL s (m.take j); rw [List.length_take] at this; omega
    by_cases hlt : j < m.length
    · have hltz : (j : Int) < (m.length : Int) := by omega
      obtain ⟨b1, off, rfl, hcell⟩ := Rd.at_ HM4.out (by omega)
      obtain ⟨⟨px, py⟩, hxy⟩ : ∃ p, p = m.getD j (0, 0) := ⟨_, rfl⟩
      have a0 := (hcell.2 j hlt).1
      have a1 := (hcell.2 j hlt).2
      rw [← hxy] at a0 a1
      simp only at a0 a1
      have d0 := Qt.keep hb a0
      have d1 := Qt.keep hb a1
      have HT := Lib.hid (unL_to (l := s) hlt)
      rw [← hxy] at HT
      obtain ⟨y, hy⟩ : ∃ y, y = unL s (m.take j) := ⟨_, rfl⟩
      rw [← hy] at hR5 hc5 hlen HT ⊢
      clear hy hxy a0 a1 hcell HK
      go_wp2_with (go_at_call 37; refine (put_any A5 y c5 (px, py) _ hR5 (by omega) hc5).mono ?_; rintro e w5 ⟨v5, rfl, hown, hb5⟩; have HO := Lib.hid hown; have HB5 := Lib.hid hb5; clear hown hb5)
      go_roundw
      case measure => simp [intOf]; omega
      case rel =>
        obtain ⟨A6, c6, e6, h1, h2⟩ := HO.out.rd
        exact ⟨j + 1, by omega, by go_num, by rw [HT.out]; exact ⟨A6, c6, e6, h1, h2⟩, Qt.more hb hb.size HB5.out⟩
    · have hltz : ¬ (j : Int) < (m.length : Int) := by omega
      obtain rfl : j = m.length := by omega
      rw [List.take_length, ← GZ.out] at hR5 hc5 hlen ⊢
      have HZ : Hid (Now wr A5 z) := hR5
      have HS5 := Lib.hid (HS4.out.below hb)
      have HM5 := Lib.hid (HM4.out.below hb)
      have HB5 := Lib.hid (Qt.more HB4.out HB4.out.size hb)
      clear hR5 HK hb HS4 HM4 HB4
      obtain ⟨w5, hw5⟩ : ∃ w5 : World, w5 = wr := ⟨_, rfl⟩
      rw [← hw5] at HZ HS5 HM5 HB5 ⊢
      clear hw5
      go_wp2_with fail
      refine (run_ok G2.out HS5.out rfl hc2 (by omega) GK.out).mono ?_
      rintro e w6 ⟨A6, c6, rfl, hc6, HA6, hb6⟩
      have HB6 := Lib.hid (Qt.more HB5.out HB5.out.size hb6)
      have HZ6 := Lib.hid (HZ.out.below hb6)
      have HM6 := Lib.hid (HM5.out.below hb6)
      clear hb6 HS5 HB5 HZ HM5
      go_wp2_with fail
      refine (run_ok G3.out HM6.out rfl hc4 (by omega) GK.out).mono ?_
      rintro e w7 ⟨A7, c7, rfl, hc7, HB7', hb7⟩
      have HB7 := Lib.hid (Qt.more HB6.out HB6.out.size hb7)
      have HZ7 := Lib.hid (HZ6.out.below hb7)
      have HA7 := Lib.hid (HA6.out.below hb7)
      clear hb7 HB6 HZ6 HM6 HA6
      go_wp2_with fail
      refine (run_ok G4.out HZ7.out rfl hc5 (by omega) GK.out).mono ?_
      rintro e w8 ⟨A8, c8, rfl, hc8, HX8, hb8⟩
      have HB8 := Lib.hid (Qt.more HB7.out HB7.out.size hb8)
      have HA8 := Lib.hid (HA7.out.below hb8)
      have HBB8 := Lib.hid (HB7'.out.below hb8)
      clear hb8 HB7 HZ7 HA7 HB7'
      go_wp2
      go_loopw [20, 21] (fun v i wr => ∃ j : Nat, j ≤ b.length ∧ i = .int .i64 j ∧ Aside (Reads wr v (unL a (b.take j))) ∧ Below w8.heap.size w8 wr) (fun _ i _ => b.length - (intOf i).toNat)
      case atStart => exact ⟨0, Nat.zero_le _, rfl, ⟨A6, c6, rfl, hc6, HA8.out⟩, Below.refl _ _⟩
      case round =>
        obtain ⟨j, hj, rfl, HK, hb⟩ := hrel
        obtain ⟨A9, c9, rfl, hc9, hR9⟩ := HK.out
        have hlen : (unL a (b.take j)).length ≤ 2000 := by have := length_unL a (b.take j); rw [List.length_take] at this; omega
        by_cases hlt : j < b.length
        · have hltz : (j : Int) < (b.length : Int) := by omega
          obtain ⟨b1, off, rfl, hcell⟩ := Rd.at_ HBB8.out (by omega)
          obtain ⟨⟨px, py⟩, hxy⟩ : ∃ p, p = b.getD j (0, 0) := ⟨_, rfl⟩
          have a0 := (hcell.2 j hlt).1
          have a1 := (hcell.2 j hlt).2
          rw [← hxy] at a0 a1
          simp only at a0 a1
          have d0 := Qt.keep hb a0
          have d1 := Qt.keep hb a1
          have HT := Lib.hid (unL_to (l := a) hlt)
          rw [← hxy] at HT
          obtain ⟨y, hy⟩ : ∃ y, y = unL a (b.take j) := ⟨_, rfl⟩
          rw [← hy] at hR9 hc9 hlen HT ⊢
          clear hy hxy a0 a1 hcell HK
          go_wp2_with (go_at_call 37; refine (put_any A9 y c9 (px, py) _ hR9 (by omega) hc9).mono ?_; rintro e w9 ⟨v9, rfl, hown, hb9⟩; have HO := Lib.hid hown; have HB9 := Lib.hid hb9; clear hown hb9)
          go_roundw
          case measure => simp [intOf]; omega
          case rel =>
            obtain ⟨A6, c6, e6, h1, h2⟩ := HO.out.rd
            exact ⟨j + 1, by omega, by go_num, by rw [HT.out]; exact ⟨A6, c6, e6, h1, h2⟩, Qt.more hb hb.size HB9.out⟩
        · have hltz : ¬ (j : Int) < (b.length : Int) := by omega
          obtain rfl : j = b.length := by omega
          rw [List.take_length] at hR9 hc9 hlen ⊢
          have HW9 : Hid (Now wr A9 (unL a b)) := hR9
          have HX9 := Lib.hid (HX8.out.below hb)
          have HB9 := Lib.hid (Qt.more HB8.out HB8.out.size hb)
          obtain ⟨y, hy⟩ : ∃ y, y = unL a b := ⟨_, rfl⟩
          rw [← hy] at HW9 hc9 hlen G5 ⊢
          clear hy hR9 hb HX8 HB8 HK hab
          go_wp2_with (go_at_call 16; refine (same_eq HX9.out HW9.out (by omega) G5.out).mono ?_; rintro e w9 ⟨rfl, hb9⟩)
          go_ret
          exact ⟨rfl, Qt.more HB9.out HB9.out.size hb9⟩

end Go.Proofs.Ytafoleafhkadiaa
