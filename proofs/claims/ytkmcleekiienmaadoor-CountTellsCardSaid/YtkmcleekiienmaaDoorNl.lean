/-
  CountBack: Parse undoes Text, and Sum Bits: the law returns true whatever number comes in.
  Conditions: none.
-/
import Derived.Test.YtkmcleekiienmaaDoorNh
namespace Go.Proofs.YtkmcleekiienmaaDoor
open Go.RowKit Go.Sort

theorem now_three (w : World) (T : Nat) (x y z : Int) : Now (w.alloc (.cells #[.int .i64 x, .int .i64 y, .int .i64 z] T)) (some ⟨w.heap.size, 0, none⟩) [x, y, z] := fun j hj => by
  have hj2 : j < 3 := hj
  refine ⟨w.heap.size, 0, rfl, by simp, ?_⟩
  match j, hj2 with
  | 0, _ => simp
  | 1, _ => simp
  | 2, _ => simp
theorem txt_data {u : Nat} (h : u ≤ 4611686018427387903) : (txt (u : Int)).data.toList = Lib.decDigits u := by
  unfold txt
  rw [txtL_nat h]
theorem txt_small_size (n : Int) : (txt n).size ≤ maxLen := by
  have := txtL_len n
  have h : (txt n).size ≤ 19 := by
    show (txtL n).toArray.size ≤ 19
    simpa using this
  unfold maxLen
  omega
theorem parse_txt {u : Nat} (h : u ≤ 4611686018427387903) : parseL (txt (u : Int)).data.toList = ((u : Int), 0) := by rw [txt_data h, parse_dec h]
theorem textn {u : Nat} {w : World} (hu : u ≤ 4611686018427387903) (hT : Tab w) :
    Calls Tryd.prog 12 #[.int .i64 u] w fun e w' => ∃ t : ByteArray, e = .returned (.string t) ∧ Hid (t = txt (u : Int)) ∧ Below w.heap.size w w' :=
  (text_any (u : Int) w (by unfold I64; omega) hT).mono fun _ _ ⟨he, hb⟩ => ⟨_, he, rfl, hb⟩
theorem parsen {u : Nat} {t : ByteArray} {w : World} (hu : u ≤ 4611686018427387903) (ht : Hid (t = txt (u : Int))) :
    Calls Tryd.prog 16 #[.string t] w fun e w' => e = .returned (.tuple #[.int .i64 u, .int .i64 0]) ∧ Below w.heap.size w w' := by
  rw [ht.out]
  exact aw_parse (txt_small_size _) (parse_txt hu)
theorem bitsn {u : Nat} {w : World} (hu : u ≤ 4611686018427387903) :
    Calls Tryd.prog 14 #[.int .i64 u] w fun e w' => ∃ A n c, e = .returned (.slice A n c) ∧ Hid (n = (bitsL (u : Int)).length ∧ Now w' A (bitsL (u : Int))) ∧ n ≤ 62 ∧ n ≤ c ∧ Below w.heap.size w w' := by
  refine (bits_any (u : Int) w (by unfold I64; omega)).mono ?_
  rintro e w' ⟨v, rfl, hR, hb⟩
  obtain ⟨A, c, rfl, hc, hN⟩ := hR
  exact ⟨A, _, c, rfl, ⟨rfl, hN⟩, bitsL_len _, hc, hb⟩
theorem sumn {u n c : Nat} {A : Option Addr} {w : World} (hu : u ≤ 4611686018427387903) (h : Hid (n = (bitsL (u : Int)).length ∧ Now w A (bitsL (u : Int)))) (hn : n ≤ 62) (hc : n ≤ c) :
    Calls Tryd.prog 18 #[.slice A n c] w fun e w' => e = .returned (.tuple #[.int .i64 u, .int .i64 0]) ∧ Below w.heap.size w w' :=
  aw_sum (sumL_bits hu) h.out.2 h.out.1 (by omega) hc (fun x hx => by have := bitsL_bd _ x hx; exact i64_small (by omega))
theorem rises_at {l : List Int} (h : l.Pairwise (· < ·)) {j : Nat} (hj : j + 1 < l.length) : l.getD j 0 < l.getD (j + 1) 0 := by
  rw [List.getD_eq_getElem?_getD, List.getD_eq_getElem?_getD, List.getElem?_eq_getElem hj, List.getElem?_eq_getElem (show j < l.length by omega)]
  exact List.pairwise_iff_getElem.1 h j (j + 1) (by omega) hj (by omega)
theorem getD_mem {l : List Int} {j : Nat} (hj : j < l.length) : l.getD j 0 ∈ l := by
  rw [List.getD_eq_getElem?_getD, List.getElem?_eq_getElem hj]
  exact List.getElem_mem _

set_option maxHeartbeats 4000000 in
set_option maxRecDepth 100000 in
theorem countBack_walk (n : Int) (w : World) (hn : I64 n) (hT : Tab w) :
    Calls Tryd.prog 4 #[.int .i64 n] w fun e w' => e = .returned (.bool true) ∧ Below w.heap.size w w' := by
  have hp1 := fun W => pick_nat n 4611686018427387903 W hn (by omega) (by omega)
  have hp2 := fun W => pick_nat n 100 W hn (by omega) (by omega)
  have b1 := pickI_bd n 4611686018427387903 (by omega)
  have b2 := pickI_bd n 100 (by omega)
  generalize pickI n 4611686018427387903 = z1 at hp1 b1
  generalize pickI n 100 = z2 at hp2 b2
  obtain ⟨x, hx⟩ : ∃ x, x = z1.toNat := ⟨_, rfl⟩
  obtain ⟨y, hy⟩ : ∃ y, y = z2.toNat := ⟨_, rfl⟩
  rw [← hx] at hp1
  rw [← hy] at hp2
  have hx9 : x < 4611686018427387903 := by omega
  have hy9 : y < 100 := by omega
  clear b1 b2 hx hy hn
  go_enter Tryd.func4, Tryd.ntmps4
  go_wp2_with fail
  refine (awake_any w hT).mono ?_
  rintro e w1 ⟨rfl, hb1⟩
  have B1 := Lib.hid hb1
  clear hb1
  go_wp2_with fail
  refine (hp1 _).mono ?_
  rintro e w' ⟨rfl, rfl⟩
  go_wp2_with fail
  refine (hp1 _).mono ?_
  rintro e w' ⟨rfl, rfl⟩
  go_wp2_with fail
  refine (hp2 _).mono ?_
  rintro e w' ⟨rfl, rfl⟩
  have HN0 := Lib.hid (now_three w1 3 ((x : Int) + 1) (x : Int) (y : Int))
  have HXS : Hid (∀ k, k < 3 → ∃ u : Nat, ([(x : Int) + 1, (x : Int), (y : Int)] : List Int).getD k 0 = (u : Int) ∧ u ≤ 4611686018427387903) := by
    intro k hk
    match k, hk with
    | 0, _ => exact ⟨x + 1, by simp, by omega⟩
    | 1, _ => exact ⟨x, by simp, by omega⟩
    | 2, _ => exact ⟨y, by simp, by omega⟩
  have hb2 : Below w1.heap.size w1 (w1.alloc (.cells #[.int .i64 ((x : Int) + 1), .int .i64 (x : Int), .int .i64 (y : Int)] 3)) := (Below.refl _ _).alloc (Nat.le_refl _) _
  have HB2 := Lib.hid (Qt.more B1.out B1.out.size hb2)
  clear hb2 hp1 hp2
  go_wp2
  go_loopw [22] (fun i wr => ∃ k : Nat, k ≤ 3 ∧ i = .int .i64 k ∧ Hid (Now wr (some ⟨w1.heap.size, 0, none⟩) [(x : Int) + 1, (x : Int), (y : Int)]) ∧ Hid (Below w.heap.size w wr)) (fun i _ => 3 - (intOf i).toNat)
  case atStart => exact ⟨0, by omega, rfl, HN0, HB2⟩
  case round =>
    obtain ⟨k, hk, rfl, HN, HB⟩ := hrel
    by_cases hlt : k < 3
    · have hltz : (k : Int) < 3 := by omega
      obtain ⟨u, hu, hu9⟩ := HXS.out k hlt
      obtain ⟨b, off, he, _, hc⟩ := HN.out k hlt
      simp only [Option.some.injEq, Addr.mk.injEq, and_true] at he
      obtain ⟨rfl, rfl⟩ := he
      rw [hu, Nat.zero_add] at hc
      have HT1 := Lib.hid (hT.below HB.out)
      clear hu
      go_wp2_with fail
      refine (textn hu9 HT1.out).mono ?_
      rintro e w2 ⟨t, rfl, HTX, hb⟩
      have HB2 := Lib.hid (Qt.more HB.out HB.out.size hb)
      have HN2 := Lib.hid (HN.out.below hb)
      clear hb hc HB HN HT1
      go_wp2_with fail
      refine (parsen hu9 HTX).mono ?_
      rintro e w3 ⟨rfl, hb⟩
      have HB3 := Lib.hid (Qt.more HB2.out HB2.out.size hb)
      have HN3 := Lib.hid (HN2.out.below hb)
      clear hb HB2 HN2
      go_wp2_with fail
      refine (bitsn hu9).mono ?_
      rintro e w4 ⟨A, m, c, rfl, HM, hm, hmc, hb⟩
      have HB4 := Lib.hid (Qt.more HB3.out HB3.out.size hb)
      have HN4 := Lib.hid (HN3.out.below hb)
      clear hb HB3 HN3
      go_wp2_with fail
      refine (sumn hu9 HM hm hmc).mono ?_
      rintro e w5 ⟨rfl, hb⟩
      have HB5 := Lib.hid (Qt.more HB4.out HB4.out.size hb)
      have HN5 := Lib.hid (HN4.out.below hb)
      have HM5 : Hid (m = (bitsL (u : Int)).length ∧ Now w5 A (bitsL (u : Int))) := ⟨HM.out.1, HM.out.2.below hb⟩
      clear hb HB4 HN4 HM
      go_wp2
      go_loopw [11] (fun i wr => ∃ j : Nat, j ≤ m ∧ i = .int .i64 j ∧ Hid (Below w5.heap.size w5 wr)) (fun i _ => m - (intOf i).toNat)
      case atStart => exact ⟨0, Nat.zero_le _, rfl, Below.refl _ _⟩
      case round =>
        obtain ⟨j, hj, rfl, HJ⟩ := hrel
        by_cases hjt : j < m
        · have hjz : (j : Int) < (m : Int) := by omega
          have hlen : j < (bitsL (u : Int)).length := by have := HM5.out.1; omega
          have hbd := bitsL_bd _ _ (getD_mem hlen)
          obtain ⟨b, off, rfl, _, hcell⟩ := (HM5.out.2).at_ (by omega)
          have c0 := Qt.cell_in (Qt.keep HJ.out (hcell j hlen))
          have hrs : ∀ i, j = i + 1 → (bitsL (u : Int)).getD i 0 < (bitsL (u : Int)).getD j 0 := fun i hi => by
            subst hi; exact rises_at (bitsL_rises _) hlen
          have HRS := Lib.hid hrs
          clear hrs hlen
          rcases Nat.eq_zero_or_pos j with hj0 | hj0
          · have hjd : decide (0 < j) = false := by simp; omega
            obtain ⟨e, he⟩ : ∃ e, e = (bitsL (u : Int)).getD j 0 := ⟨_, rfl⟩
            rw [← he] at c0 hbd
            obtain ⟨hb0, hb61⟩ := hbd
            have hd0 : decide (e < 0) = false := decide_eq_false (by omega)
            have hd61 : decide (61 < e) = false := decide_eq_false (by omega)
            clear he hcell hj0
            go_wp2
            refine Qt.below_all (by kernel_rfl) (by kernel_rfl) ?_
            repeat (go_big_quiet_step (fail))
            refine wpQuiet_nil ?_
            intro w6 hb6
            have HJ6 := Lib.hid (Qt.more HJ.out HJ.out.size hb6)
            clear hb6 c0 HJ
            go_wp2
            go_roundw
            case measure => simp [intOf]; omega
            case rel => exact ⟨j + 1, by omega, by go_num, HJ6⟩
          · obtain ⟨i, rfl⟩ : ∃ i, j = i + 1 := ⟨j - 1, by omega⟩
            have hlt2 := HRS.out i rfl
            have c1 := Qt.cell_in (Qt.keep HJ.out (hcell i (by have := HM5.out.1; omega)))
            obtain ⟨e, he⟩ : ∃ e, e = (bitsL (u : Int)).getD (i + 1) 0 := ⟨_, rfl⟩
            obtain ⟨d, hd⟩ : ∃ d, d = (bitsL (u : Int)).getD i 0 := ⟨_, rfl⟩
            rw [← he] at c0 hbd hlt2
            rw [← hd] at c1 hlt2
            obtain ⟨hb0, hb61⟩ := hbd
            have hd0 : decide (e < 0) = false := decide_eq_false (by omega)
            have hd61 : decide (61 < e) = false := decide_eq_false (by omega)
            have hdd : decide (e ≤ d) = false := decide_eq_false (by omega)
            clear he hd hcell hj0
            go_wp2
            refine Qt.below_all (by kernel_rfl) (by kernel_rfl) ?_
            repeat (go_big_quiet_step (fail))
            refine wpQuiet_nil ?_
            intro w6 hb6
            have HJ6 := Lib.hid (Qt.more HJ.out HJ.out.size hb6)
            clear hb6 c0 c1 HJ
            go_wp2
            go_roundw
            case measure => simp [intOf]; omega
            case rel => exact ⟨i + 1 + 1, by omega, by go_num, HJ6⟩
        · have hjz : ¬ (j : Int) < (m : Int) := by omega
          go_wp2
          go_roundw
          case measure => simp [intOf]; omega
          case rel => exact ⟨k + 1, by omega, by go_num, Lib.hid (HN5.out.below HJ.out), Lib.hid (Qt.more HB5.out HB5.out.size HJ.out)⟩
    · have hltz : ¬ (k : Int) < 3 := by omega
      go_wp2
      go_ret
      exact ⟨rfl, HB.out⟩

end Go.Proofs.YtkmcleekiienmaaDoor
