/-
  LifeStill: a block stays, whatever is far from it; a blinker is as it was behind two generations: the law returns true whatever numbers come in.
  Conditions: none.
-/
import Derived.Test.YtafoleafhkadiaaMe
namespace Go.Proofs.Ytafoleafhkadiaa
open Go.RowKit Go.Sort

def blockL (p q : Int) : List (Int × Int) := [(p, q), (p + 1, q), (p, q + 1), (p + 1, q + 1)]
def lineL (p q : Int) : List (Int × Int) := [(p, q), (p + 1, q), (p + 2, q)]
theorem block_sh (p q : Int) : blockL p q = shL p q (blockL 0 0) := by simp [blockL, shL]; omega
theorem line_sh (p q : Int) : lineL p q = shL p q (lineL 0 0) := by simp [lineL, shL]; omega
theorem iter_one (l : List (Int × Int)) : iterL 1 l = nextL l := rfl
theorem block0 : Rises (blockL 0 0) := ((rightB_iff _).1 (by decide +kernel)).2.2
theorem line0 : Rises (lineL 0 0) := ((rightB_iff _).1 (by decide +kernel)).2.2
theorem block_rises (p q : Int) : Rises (blockL p q) := by rw [block_sh]; exact rises_shL _ _ block0
theorem line_rises (p q : Int) : Rises (lineL p q) := by rw [line_sh]; exact rises_shL _ _ line0
theorem block_next (p q : Int) : nextL (blockL p q) = blockL p q := by
  rw [block_sh, ← iter_one, iter_shift _ _ block0]
  have : iterL 1 (blockL 0 0) = blockL 0 0 := by decide +kernel
  rw [this]
theorem line_next (p q : Int) : iterL 2 (lineL p q) = lineL p q := by
  rw [line_sh, iter_shift _ _ line0]
  have : iterL 2 (lineL 0 0) = lineL 0 0 := by decide +kernel
  rw [this]
theorem block_iter (p q : Int) (k : Nat) : iterL k (blockL p q) = blockL p q := by
  induction k with
  | zero => rfl
  | succ k ih => rw [iterL_succ, ih, block_next]
theorem line_iter (p q : Int) (k : Nat) : iterL (2 * k) (lineL p q) = lineL p q := by
  induction k with
  | zero => rfl
  | succ k ih => rw [show 2 * (k + 1) = 2 * k + 2 by omega, iterL_add, ih, line_next]
theorem block_box (p q : Int) : InBox p (p + 1) q (q + 1) (blockL p q) := by
  intro c hc
  simp only [blockL, List.mem_cons, List.not_mem_nil, or_false] at hc
  rcases hc with rfl | rfl | rfl | rfl <;> (simp only; omega)
theorem line_box (p q : Int) : InBox p (p + 2) q q (lineL p q) := by
  intro c hc
  simp only [lineL, List.mem_cons, List.not_mem_nil, or_false] at hc
  rcases hc with rfl | rfl | rfl <;> (simp only; omega)

theorem still_facts {t : List (Int × Int)} (ht : Near t) {p q : Int} {k : Nat} (hp : 0 ≤ p ∧ p < 1000) (hq : 0 ≤ q ∧ q < 1000) (hk : k ≤ 10) :
    runA (blockL p q) k = (0, blockL p q) ∧ runA (lineL p q) (2 * (k : Int)) = (0, lineL p q) ∧ shiftR t (p - 60) q = (0, shL (p - 60) q t) ∧
    runA (unL (blockL p q) (shL (p - 60) q t)) k = (0, iterL k (unL (blockL p q) (shL (p - 60) q t))) ∧ (∀ c ∈ blockL p q, c ∈ iterL k (unL (blockL p q) (shL (p - 60) q t))) ∧ (iterL k (unL (blockL p q) (shL (p - 60) q t))).length ≤ 2000 := by
  have hm : InBox (p - 68) (p - 53) (q - 8) (q + 7) (shL (p - 60) q t) := (shL_box ht.box _ q).mono (by omega) (by omega) (by omega) (by omega)
  have hmr : Rises (shL (p - 60) q t) := rises_shL _ _ ht.2.1
  have hb := block_box p q
  have hbr := block_rises p q
  have hln := line_box p q
  have hU : ∀ j, j ≤ k → iterL j (unL (blockL p q) (shL (p - 60) q t)) = unL (iterL j (shL (p - 60) q t)) (blockL p q) := fun j hj => by
    rw [unL_comm hbr hmr, iter_unL hmr hbr hm hb j (by omega), block_iter]
  have hUl : ∀ j, j ≤ k → (iterL j (unL (blockL p q) (shL (p - 60) q t))).length ≤ 2000 := fun j hj => by
    rw [hU j hj]
    have h1 := length_unL (iterL j (shL (p - 60) q t)) (blockL p q)
    have h2 := box_len (iter_box hm j) (rises_iterL hmr j) 36 36 (by omega) (by omega)
    have h3 : (blockL p q).length = 4 := rfl
    omega
  have hub : InBox (p - 68) (p + 1) (q - 8) (q + 7) (unL (blockL p q) (shL (p - 60) q t)) := unL_box hbr (hb.mono (by omega) (by omega) (by omega) (by omega)) (hm.mono (by omega) (by omega) (by omega) (by omega))
  have hub0 := hUl 0 (by omega)
  refine ⟨?_, ?_, shiftR_box ht.box ht.2.1 (by have := ht.1; omega) (by omega) (by omega) (by omega) (by omega) (by omega) (by omega) (by omega) (by omega), ?_, fun c hc => ?_, hUl k (Nat.le_refl _)⟩
  · have e := runA_iter (l := blockL p q) (n := k) (right_box hb hbr (show 4 ≤ 2000 by decide) (by omega) (by omega) (by omega) (by omega)) (by omega) fun j _ hj => ⟨by rw [block_iter]; exact box_in hb (by omega) (by omega) (by omega) (by omega), by rw [block_iter]; exact (by decide : 4 ≤ 2000)⟩
    rwa [block_iter] at e
  · have e := runA_iter (l := lineL p q) (n := 2 * k) (right_box hln (line_rises p q) (show 3 ≤ 2000 by decide) (by omega) (by omega) (by omega) (by omega)) (by omega) fun j _ hj =>
      ⟨box_in (iter_box hln j) (by omega) (by omega) (by omega) (by omega), Nat.le_trans (box_len (iter_box hln j) (rises_iterL (line_rises p q) j) 43 43 (by omega) (by omega)) (by decide)⟩
    rw [line_iter] at e
    push_cast at e
    exact e
  · exact runA_iter (right_box hub (rises_unL hbr _) hub0 (by omega) (by omega) (by omega) (by omega)) (by omega) fun j _ hj => ⟨box_in (iter_box hub j) (by omega) (by omega) (by omega) (by omega), hUl j hj⟩
  · rw [hU k (Nat.le_refl _), mem_unL (rises_iterL hmr k)]
    exact .inl hc

theorem run_len {A : Option Addr} {l m : List (Int × Int)} {n c j : Nat} {k t : Int} {w : World} (hr : runA l t = (k, m)) (hR : Now w A l) (hn : n = l.length) (hc : n ≤ c) (hl : n ≤ 1000000) (ht : I64 t) (hj : m.length = j) :
    Calls Try.prog 32 #[.slice A n c, .int .i64 t] w fun e w' => ∃ A' c', e = .returned (.tuple #[.slice A' j c', .int .i64 k]) ∧ j ≤ c' ∧ Hid (Now w' A' m) ∧ Below w.heap.size w w' := by
  subst hj
  exact run_ok hr hR hn hc hl ht

set_option maxHeartbeats 8000000 in
set_option maxRecDepth 100000 in
theorem lifeStill_walk (x y : Int) (A : Option Addr) (raw : List (Int × Int)) (c : Nat) (n : Int) (w : World) (hx : I64 x) (hy : I64 y) (hR : Rd w w.heap.size A raw) (hl : raw.length ≤ 9223372036854775807) (hc : raw.length ≤ c) (hw : ∀ p ∈ raw, I64 p.1 ∧ I64 p.2) (hn : I64 n) :
    Calls Try.prog 10 #[.int .i64 x, .int .i64 y, .slice A raw.length c, .int .i64 n] w fun e w' => e = .returned (.bool true) ∧ Below w.heap.size w w' := by
  have HW := Lib.hid hw
  have HN := Lib.hid hn
  have HX := Lib.hid hx
  have HY := Lib.hid hy
  have HRA : Hid (Now w A raw) := hR
  clear hw hn hx hy hR
  have hpn := pickI_bd n 11 (by omega)
  have hpx := pickI_bd x 1000 (by omega)
  have hpy := pickI_bd y 1000 (by omega)
  go_enter Try.func10, Try.ntmps10
  go_wp2_with fail
  refine (awake2_any w).mono ?_
  rintro e w1 ⟨rfl, hb1⟩
  have HRA1 := Lib.hid (HRA.out.below hb1)
  have HB1 := Lib.hid hb1
  clear hb1 HRA
  go_wp2_with fail
  refine (pick2_any x 1000 _ HX.out.1 HX.out.2 (by omega) (by omega)).mono ?_
  rintro e w1' ⟨rfl, rfl⟩
  obtain ⟨p, hp⟩ : ∃ p, p = pickI x 1000 := ⟨_, rfl⟩
  rw [← hp] at hpx ⊢
  clear hp
  go_wp2_with fail
  refine (pick2_any y 1000 _ HY.out.1 HY.out.2 (by omega) (by omega)).mono ?_
  rintro e w1' ⟨rfl, rfl⟩
  obtain ⟨q, hq⟩ : ∃ q, q = pickI y 1000 := ⟨_, rfl⟩
  rw [← hq] at hpy ⊢
  clear hq
  obtain ⟨k, hk⟩ : ∃ k : Nat, (k : Int) = pickI n 11 := ⟨(pickI n 11).toNat, by omega⟩
  have hpick := fun w => pick2_any n 11 w HN.out.1 HN.out.2 (by omega) (by omega)
  rw [← hk] at hpn hpick
  have HPICK := Lib.hid hpick
  clear hk hpick HN HX HY
  go_wp2_with (go_at_call 29; refine (HPICK.out _).mono ?_; rintro e w1' ⟨rfl, rfl⟩)
  have HBK : Hid (∀ o : Obj, Now ((w1.alloc (.cells #[.int .i64 p, .int .i64 q, .int .i64 (p + 1), .int .i64 q, .int .i64 p, .int .i64 (q + 1), .int .i64 (p + 1), .int .i64 (q + 1)] 25)).alloc o) (some ⟨w1.heap.size, 0, none⟩) (blockL p q)) := fun o => (now_lit (blockL p q) rfl rfl).below ((Below.refl _ _).alloc (Nat.le_refl _) _)
  have HLN : Hid (∀ o : Obj, Now ((w1.alloc o).alloc (.cells #[.int .i64 p, .int .i64 q, .int .i64 (p + 1), .int .i64 q, .int .i64 (p + 2), .int .i64 q] 25)) (some ⟨w1.heap.size + 1, 0, none⟩) (lineL p q)) := fun o => now_lit (lineL p q) rfl (by simp)
  have HBB : Hid (∀ o o' : Obj, Below w1.heap.size w1 ((w1.alloc o).alloc o')) := fun o o' => ((Below.refl _ _).alloc (Nat.le_refl _) _).alloc (by simp) _
  have HNT := Lib.hid (rawSet_near raw)
  obtain ⟨F1, F2, F3, F4, F5, F6⟩ := still_facts HNT.out (k := k) hpx hpy (by omega)
  obtain ⟨t, ht⟩ : ∃ t, t = rawSet raw := ⟨_, rfl⟩
  rw [← ht] at F3 F4 F5 F6 HNT
  have HTT := Lib.hid ht
  have ht60 := HNT.out.1
  obtain ⟨m, hm⟩ : ∃ m, m = shL (p - 60) q t := ⟨_, rfl⟩
  have hml : m.length ≤ 60 := by rw [hm, length_shL]; exact ht60
  rw [← hm] at F3 F4 F5 F6
  obtain ⟨z, hz⟩ : ∃ z, z = unL (blockL p q) m := ⟨_, rfl⟩
  have hzl : z.length ≤ 64 := by rw [hz]; have h1 := length_unL (blockL p q) m; have h2 : (blockL p q).length = 4 := rfl; omega
  rw [← hz] at F4 F5 F6
  obtain ⟨b, hb⟩ : ∃ b, b = iterL k z := ⟨_, rfl⟩
  rw [← hb] at F4 F5 F6
  have G1 := Lib.hid F1
  have G2 := Lib.hid F2
  have G3 := Lib.hid F3
  have G4 := Lib.hid F4
  have G5 := Lib.hid F5
  have GZ := Lib.hid hz
  have GK : Hid (I64 (k : Int)) := ⟨by omega, by omega⟩
  have GK2 : Hid (I64 (2 * (k : Int))) := ⟨by omega, by omega⟩
  have GP : Hid (I64 (p - 60)) := ⟨by omega, by omega⟩
  have GQ : Hid (I64 q) := ⟨by omega, by omega⟩
  clear F1 F2 F3 F4 F5 ht hm hz hb HNT
  refine (run_len (n := 4) (j := 4) G1.out (HBK.out _) rfl (show 4 ≤ 4 by decide) (show 4 ≤ 1000000 by decide) GK.out rfl).mono ?_
  rintro e w2 ⟨A2, c2, rfl, hc2, HA2, hb2⟩
  have hb2' := Qt.more (HBB.out _ _) (by simp; omega) hb2
  have HB2 := Lib.hid (Qt.more HB1.out HB1.out.size hb2')
  have HRA2 := Lib.hid (HRA1.out.below hb2')
  have HBK2 := Lib.hid ((HBK.out _).below hb2)
  have HLN2 := Lib.hid ((HLN.out _).below hb2)
  clear hb2 hb2' HBK HLN HBB HRA1 HB1
  go_wp2_with fail
  refine (run_len (n := 3) (j := 3) G2.out HLN2.out rfl (show 3 ≤ 3 by decide) (show 3 ≤ 1000000 by decide) GK2.out rfl).mono ?_
  rintro e w3 ⟨A3, c3, rfl, hc3, HA3, hb3⟩
  have HB3 := Lib.hid (Qt.more HB2.out HB2.out.size hb3)
  have HRA3 := Lib.hid (HRA2.out.below hb3)
  have HBK3 := Lib.hid (HBK2.out.below hb3)
  have HLN3 := Lib.hid (HLN2.out.below hb3)
  have HAA3 := Lib.hid (HA2.out.below hb3)
  clear hb3 HB2 HRA2 HBK2 HLN2 HA2
  go_wp2_with fail
  refine (set_any A raw c w3 HRA3.out hl hc HW.out).mono ?_
  rintro e w4 ⟨v, rfl, ⟨A4, c4, rfl, hc4, hr4⟩, hb4⟩
  rw [← HTT.out] at hr4 hc4 ⊢
  have HT4 : Hid (Now w4 A4 t) := hr4
  have HB4 := Lib.hid (Qt.more HB3.out HB3.out.size hb4)
  have HBK4 := Lib.hid (HBK3.out.below hb4)
  have HLN4 := Lib.hid (HLN3.out.below hb4)
  have HAA4 := Lib.hid (HAA3.out.below hb4)
  have HAL4 := Lib.hid (HA3.out.below hb4)
  clear hb4 hr4 HB3 HBK3 HLN3 HAA3 HA3 HRA3 HW
  go_wp2_with (go_at_call 27; refine (refShift_ok G3.out HT4.out rfl hc4 (by omega) GP.out GQ.out).mono ?_; rintro e w5 ⟨A5, c5, rfl, hc5, HM5, hb5⟩; have HB5 := Lib.hid (Qt.more HB4.out HB4.out.size hb5); have HBK5 := Lib.hid (HBK4.out.below hb5); have HLN5 := Lib.hid (HLN4.out.below hb5); have HAA5 := Lib.hid (HAA4.out.below hb5); have HAL5 := Lib.hid (HAL4.out.below hb5); clear hb5)
  clear HB4 HBK4 HLN4 HAA4 HAL4 HT4 G3 hc4
  go_loopw [21, 22] (fun v i wr => ∃ j : Nat, j ≤ m.length ∧ i = .int .i64 j ∧ Aside (Reads wr v (unL (blockL p q) (m.take j))) ∧ Below w5.heap.size w5 wr) (fun _ i _ => m.length - (intOf i).toNat)
  case atStart => exact ⟨0, Nat.zero_le _, rfl, ⟨_, 4, rfl, by exact (by decide : 4 ≤ 4), HBK5.out⟩, Below.refl _ _⟩
  case round =>
    obtain ⟨j, hj, rfl, HK, hb⟩ := hrel
    obtain ⟨A6, c6, rfl, hc6, hR6⟩ := HK.out
    have hlen : (unL (blockL p q) (m.take j)).length ≤ 64 := by have h1 := length_unL (blockL p q) (m.take j); have h2 : (blockL p q).length = 4 := rfl; rw [List.length_take] at h1; omega
    by_cases hlt : j < m.length
    · have hltz : (j : Int) < (m.length : Int) := by omega
      obtain ⟨b1, off, rfl, hcell⟩ := Rd.at_ HM5.out (by omega)
      obtain ⟨⟨px, py⟩, hxy⟩ : ∃ p, p = m.getD j (0, 0) := ⟨_, rfl⟩
      have a0 := (hcell.2 j hlt).1
      have a1 := (hcell.2 j hlt).2
      rw [← hxy] at a0 a1
      simp only at a0 a1
      have d0 := Qt.keep hb a0
      have d1 := Qt.keep hb a1
      have HT := Lib.hid (unL_to (l := blockL p q) hlt)
      rw [← hxy] at HT
      obtain ⟨y, hy⟩ : ∃ y, y = unL (blockL p q) (m.take j) := ⟨_, rfl⟩
      rw [← hy] at hR6 hc6 hlen HT ⊢
      clear hy hxy a0 a1 hcell HK
      go_wp2_with (go_at_call 37; refine (put_any A6 y c6 (px, py) _ hR6 (by omega) hc6).mono ?_; rintro e w7 ⟨v7, rfl, hown, hb7⟩; have HO := Lib.hid hown; have HB7 := Lib.hid hb7; clear hown hb7)
      go_roundw
      case measure => simp [intOf]; omega
      case rel =>
        obtain ⟨A8, c8, e8, h1, h2⟩ := HO.out.rd
        exact ⟨j + 1, by omega, by go_num, by rw [HT.out]; exact ⟨A8, c8, e8, h1, h2⟩, Qt.more hb hb.size HB7.out⟩
    · have hltz : ¬ (j : Int) < (m.length : Int) := by omega
      obtain rfl : j = m.length := by omega
      rw [List.take_length, ← GZ.out] at hR6 hc6 hlen ⊢
      have HZ6 : Hid (Now wr A6 z) := hR6
      have HB6 := Lib.hid (Qt.more HB5.out HB5.out.size hb)
      have HBK6 := Lib.hid (HBK5.out.below hb)
      have HLN6 := Lib.hid (HLN5.out.below hb)
      have HAA6 := Lib.hid (HAA5.out.below hb)
      have HAL6 := Lib.hid (HAL5.out.below hb)
      clear hR6 HK hb HB5 HBK5 HLN5 HAA5 HAL5 HM5
      obtain ⟨w6, hw6⟩ : ∃ w6 : World, w6 = wr := ⟨_, rfl⟩
      rw [← hw6] at HZ6 HB6 HBK6 HLN6 HAA6 HAL6 ⊢
      clear hw6
      go_wp2_with fail
      refine (run_ok G4.out HZ6.out rfl hc6 (by omega) GK.out).mono ?_
      rintro e w7 ⟨A7, c7, rfl, hc7, HX7, hb7⟩
      have HB7 := Lib.hid (Qt.more HB6.out HB6.out.size hb7)
      have HBK7 := Lib.hid (HBK6.out.below hb7)
      have HLN7 := Lib.hid (HLN6.out.below hb7)
      have HAA7 := Lib.hid (HAA6.out.below hb7)
      have HAL7 := Lib.hid (HAL6.out.below hb7)
      clear hb7 HB6 HBK6 HLN6 HAA6 HAL6 HZ6 G4
      go_wp2
      go_loopw [25] (fun i wr => ∃ j : Nat, j ≤ 4 ∧ i = .int .i64 j ∧ Below w7.heap.size w7 wr) (fun i _ => 4 - (intOf i).toNat)
      case atStart => exact ⟨0, Nat.zero_le _, rfl, Below.refl _ _⟩
      case round =>
        obtain ⟨j, hj, rfl, hb⟩ := hrel
        by_cases hlt : j < 4
        · have hltz : (j : Int) < 4 := by omega
          obtain ⟨b1, off, he, hcell⟩ := Rd.at_ HBK7.out (by exact (by decide : 0 < 4))
          simp only [Option.some.injEq, Addr.mk.injEq, and_true] at he
          obtain ⟨rfl, rfl⟩ := he
          obtain ⟨⟨px, py⟩, hxy⟩ : ∃ r, r = (blockL p q).getD j (0, 0) := ⟨_, rfl⟩
          have a0 := (hcell.2 j hlt).1
          have a1 := (hcell.2 j hlt).2
          rw [← hxy] at a0 a1
          simp only [Nat.zero_add] at a0 a1
          have d0 := Qt.keep hb a0
          have d1 := Qt.keep hb a1
          have HH : Hid (hasB b (px, py) = true) := (hasB_iff _ _).2 (G5.out _ (by rw [hxy]; exact getD_mem hlt))
          have HX := Lib.hid (HX7.out.below hb)
          clear hxy a0 a1 hcell
          go_wp2_with (go_at_call 25; refine (refHas_ok HX.out rfl hc7 (by omega) HH.out).mono ?_; rintro e w8 ⟨rfl, hb8⟩)
          go_roundw
          case measure => simp [intOf]; omega
          case rel => exact ⟨j + 1, by omega, by go_num, Qt.more hb hb.size hb8⟩
        · have hltz : ¬ (j : Int) < 4 := by omega
          obtain rfl : j = 4 := by omega
          have HBK8 := Lib.hid (HBK7.out.below hb)
          have HLN8 := Lib.hid (HLN7.out.below hb)
          have HAA8 := Lib.hid (HAA7.out.below hb)
          have HAL8 := Lib.hid (HAL7.out.below hb)
          have HB8 := Lib.hid (Qt.more HB7.out HB7.out.size hb)
          clear HB7 HBK7 HLN7 HAA7 HAL7 HX7 hb
          go_wp2_with (first
            | (go_at_call_of 16 (Value.slice A2 4 c2); refine (same_yes (n := 4) HAA8.out HBK8.out rfl (show 4 ≤ 1000000 by decide) rfl).mono ?_; rintro e w9 ⟨rfl, hb9⟩; have HB9 := Lib.hid (Qt.more HB8.out HB8.out.size hb9); have HLN9 := Lib.hid (HLN8.out.below hb9); have HAL9 := Lib.hid (HAL8.out.below hb9); clear hb9)
            | (go_at_call_of 16 (Value.slice A3 3 c3); refine (same_yes (n := 3) HAL9.out HLN9.out rfl (show 3 ≤ 1000000 by decide) rfl).mono ?_; rintro e w10 ⟨rfl, hb10⟩; have HB10 := Lib.hid (Qt.more HB9.out HB9.out.size hb10); clear hb10))
          go_ret
          exact ⟨rfl, HB10.out⟩

end Go.Proofs.Ytafoleafhkadiaa
