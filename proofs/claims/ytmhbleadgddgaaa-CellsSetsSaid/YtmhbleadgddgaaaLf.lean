/-
  CellsOr: cells put one by one make the set of all of them; taken out one by one nothing is left: the law returns true whatever numbers come in.
  Conditions: none.
-/
import Derived.Test.YtmhbleadgddgaaaLc
import Derived.Test.YtmhbleadgddgaaaCq
import Derived.Test.YtmhbleadgddgaaaCu
import Derived.Test.YtmhbleadgddgaaaQm
namespace Go.Proofs.Ytmhbleadgddgaaa
open Go.RowKit Go.Sort

theorem rightB_out {l : List (Int × Int)} (h : rightB l = true) (q : Int × Int) : rightB (outL q l) = true := by
  obtain ⟨h0, h1, h2⟩ := (rightB_iff l).1 h
  exact (rightB_iff _).2 ⟨Nat.le_trans (List.length_filter_le _ _) h0, fun c hc => h1 c (List.mem_filter.1 hc).1, List.Pairwise.filter _ h2⟩
theorem length_out {l : List (Int × Int)} (hs : Rises l) {i : Nat} (hi : i < l.length) : (outL (l.getD i (0, 0)) l).length + 1 = l.length := by
  rw [← stands_found hs hi rfl, List.length_append, List.length_take, List.length_drop]
  omega
theorem rightB_raw (raw : List (Int × Int)) {k : Nat} (hk : k ≤ 60) : rightB (setL (rawTo raw k)) = true := by
  refine (rightB_iff _).2 ⟨Nat.le_trans (length_setL _) (Nat.le_trans (length_rawTo _ _) (by omega)), fun p hp => ?_, rises_setL _⟩
  have h := rawTo_bd ((mem_setL _ _).1 hp)
  rw [inB_iff]
  omega

theorem Fresh.now {w w' : World} {l : List (Int × Int)} {e : Ending} (h : Fresh w l e w') : ∃ g, e = .returned (.tuple #[.slice (some ⟨g, 0, none⟩) l.length l.length, .int .i64 0]) ∧ Hid (Now w' (some ⟨g, 0, none⟩) l) ∧ Below w.heap.size w w' := by
  obtain ⟨g, he, hr, hb⟩ := h
  exact ⟨g, he, hr.rd, hb⟩

theorem right_ok' {A : Option Addr} {l : List (Int × Int)} {n c : Nat} {w : World} (hR : Now w A l) (hn : n = l.length) (hc : n ≤ c) (hr : rightB l = true) :
    Calls Try.prog 14 #[.slice A n c] w fun e w' => e = .returned (.bool true) ∧ Below w.heap.size w w' := by
  subst hn
  exact right_yes hR (Nat.le_trans ((rightB_iff l).1 hr).1 (by decide)) hc hr

set_option maxHeartbeats 1000000 in
set_option maxRecDepth 100000 in
theorem cellsOr_walk (A : Option Addr) (raw : List (Int × Int)) (c : Nat) (at_ : Int) (w : World) (hR : Rd w w.heap.size A raw) (hl : raw.length ≤ 9223372036854775807) (hc : raw.length ≤ c) (hw : ∀ p ∈ raw, I64 p.1 ∧ I64 p.2) (hat : I64 at_) :
    Calls Try.prog 7 #[.slice A raw.length c, .int .i64 at_] w fun e w' => e = .returned (.bool true) ∧ Below w.heap.size w w' := by
  have HW := Lib.hid hw
  have HAT := Lib.hid hat
  have HRAW : Hid (Now w A raw) := hR
  clear hat
  go_enter Try.func7, Try.ntmps7
  go_wp2_with fail
  refine (awake_any w).mono ?_
  rintro e w1 ⟨rfl, hb1⟩
  have HRAW1 := Lib.hid (HRAW.out.below hb1)
  go_wp2_with fail
  refine (set_any A raw c w1 HRAW1.out hl hc hw).mono ?_
  rintro e w2 ⟨v, rfl, hv, hb2⟩
  have B2 := Qt.more hb1 hb1.size hb2
  have HRAW2 := Lib.hid (HRAW1.out.below hb2)
  obtain ⟨A', c', rfl, hc', hr'⟩ := hv
  have HS2 : Hid (Now w2 A' (rawSet raw)) := hr'
  have hlen := rawSet_len raw
  obtain ⟨s, hs⟩ : ∃ s, s = rawSet raw := ⟨_, rfl⟩
  rw [← hs] at HS2 hlen hc' ⊢
  have HS := Lib.hid hs
  clear hR hw hb1 hb2 hr' HRAW HRAW1 hs
  go_wp2
  go_loopw [7, 8] (fun v i wr => ∃ k : Nat, k ≤ raw.length ∧ k ≤ 60 ∧ i = .int .i64 k ∧ Aside (Reads wr v (setL (rawTo raw k))) ∧ Below w2.heap.size w2 wr) (fun _ i _ => 60 - (intOf i).toNat)
  case atStart => exact ⟨0, Nat.zero_le _, by omega, rfl, ⟨none, 0, rfl, Nat.le_refl _, Rd.nil _ _ _⟩, Below.refl _ _⟩
  case round =>
    obtain ⟨k, hk, hk60, rfl, HO, hb⟩ := hrel
    by_cases hlt : k < raw.length ∧ k < 60
    · obtain ⟨hlt, h60⟩ := hlt
      have hltz : (k : Int) < (raw.length : Int) := by omega
      have h60z : (k : Int) < 60 := by omega
      obtain ⟨b, off, rfl, hbB, hcell⟩ := HRAW2.out.at_ (by omega)
      obtain ⟨⟨x, y⟩, hxy⟩ : ∃ p, p = raw.getD k (0, 0) := ⟨_, rfl⟩
      obtain ⟨c0, c1⟩ := hcell k hlt
      rw [← hxy] at c0 c1
      simp only at c0 c1
      have c0 := Qt.keep hb c0
      have c1 := Qt.keep hb c1
      have hwf := HW.out _ (getD_mem hlt)
      rw [← hxy] at hwf
      have HWF := Lib.hid hwf
      have hbd := rawCell_bd (x, y)
      unfold rawCell at hbd
      simp only at hbd
      obtain ⟨n1, n2, n3, n4⟩ := hbd
      have HXY := Lib.hid hxy
      obtain ⟨A2, c2, hv, hc2, hr2⟩ := HO.out
      have hsl := length_setL (rawTo raw k)
      have hrl := length_rawTo raw k
      have k0 := Qt.cell_in c0
      have k1 := Qt.cell_in c1
      have HR2 : Hid (Now wr A2 (setL (rawTo raw k))) := hr2
      have HRT := Lib.hid (rightB_raw raw hk60)
      subst hv
      clear hxy hcell hwf hr2
      go_wp2
      refine Qt.region_call 16 (by kernel_rfl) (by kernel_rfl) rfl rfl Try.func19 (by kernel_rfl) (by kernel_rfl) rfl ?_
      simp only [List.take_succ_cons, List.take_zero, List.drop_succ_cons, List.drop_zero]
      repeat (go_big_quiet_step (first | (go_at_call_of 18 x; exact Qt.at_same fun _ _ => pick_any x 16 _ HWF.out.1.1 HWF.out.1.2 (by omega) (by omega)) | (go_at_call_of 18 y; exact Qt.at_same fun _ _ => pick_any y 16 _ HWF.out.2.1 HWF.out.2.2 (by omega) (by omega))))
      refine wpQuiet_nil ?_
      intro w3 hb3
      have hp := with_on A2 (setL (rawTo raw k)) c2 (pickI x 16 - 8, pickI y 16 - 8) w3 (HR2.out.below hb3) (by omega) hc2 HRT.out (rises_setL _) (by rw [inB_iff]; simp only; omega)
      have hset : putL (pickI x 16 - 8, pickI y 16 - 8) (setL (rawTo raw k)) = setL (rawTo raw (k + 1)) := by
        rw [rawTo_succ hlt, setL_snoc, ← HXY.out]
        rfl
      rw [hset] at hp
      clear hset
      simp only [List.map_toArray, List.map_cons, List.map_nil]
      show Calls Try.prog _ #[.slice A2 (setL (rawTo raw k)).length c2, .agg #[.int .i64 (pickI x 16 - 8), .int .i64 (pickI y 16 - 8)], .bool true] w3 _
      refine hp.mono ?_
      rintro e w4 hf
      obtain ⟨g, rfl, hn4, hb4⟩ := hf.now
      refine ⟨_, rfl, ?_⟩
      clear hp hf k0 k1 c0 c1
      simp only [Act.put, List.setIfInBounds_toArray, List.set_cons_succ, List.set_cons_zero]
      repeat (go_big_quiet_step (fail))
      refine wpQuiet_nil ?_
      intro w5 hb5
      have hn5 := Lib.hid (hn4.out.below hb5)
      have HB5 := Qt.more (Qt.more (Qt.more hb hb.size hb3) (Nat.le_trans hb.size hb3.size) hb4) (Nat.le_trans hb.size (Nat.le_trans hb3.size hb4.size)) hb5
      clear hn4
      go_wp2
      go_roundw
      case measure => simp [intOf]; omega
      case rel =>
        exact ⟨k + 1, by omega, by omega, by go_num, ⟨_, _, rfl, Nat.le_refl _, hn5.out⟩, HB5⟩
    · have hset : rawTo raw k = rawTo raw 60 := by
        unfold rawTo
        by_cases h : k < raw.length
        · rw [show k = 60 by omega]
        · rw [List.take_of_length_le (by omega), List.take_of_length_le (by omega)]
      have ho := HO.out
      rw [hset] at ho
      obtain ⟨A2, c2, hv, hc2, hr2⟩ := ho
      have HR2 : Hid (Now wr A2 s) := by rw [HS.out]; exact hr2
      have hl2 : (setL (rawTo raw 60)).length = s.length := by rw [HS.out]; rfl
      rw [hl2] at hc2 hv
      subst hv
      have HS3 := Lib.hid (HS2.out.below hb)
      have B3 := Qt.more B2 B2.size hb
      have HRT : Hid (rightB s = true) := by rw [HS.out]; exact rawSet_right raw
      clear hset HO hr2 hl2
      have hdec : (¬ (k : Int) < (raw.length : Int)) ∨ ((k : Int) < (raw.length : Int) ∧ ¬ (k : Int) < 60) := by omega
      rcases hdec with h1 | ⟨h1, h2⟩
      all_goals
        clear hlt
        go_wp2_with fail
        refine (same_yes HR2.out HS3.out rfl (by omega) rfl).mono ?_
        rintro e w4 ⟨rfl, hb4⟩
        have B4 := Qt.more B3 B3.size hb4
        have HM4 : Hid (Now w4 A2 s) := HR2.out.below hb4
        clear HS3 HR2 hb4
        go_wp2
        go_loopw [7, 11] (fun v i wq => ∃ (m : List (Int × Int)) (j : Nat), i = .int .i64 j ∧ m.length + j = s.length ∧ Aside (Reads wq v m) ∧ Hid (rightB m = true) ∧ Below w4.heap.size w4 wq) (fun _ i _ => 60 - (intOf i).toNat)
        case atStart => exact ⟨s, 0, rfl, by omega, ⟨_, _, rfl, hc2, HM4.out⟩, HRT.out, Below.refl _ _⟩
        case round =>
          obtain ⟨m, j, rfl, hmj, HO, HRM, hbq⟩ := hrel
          obtain ⟨A3, c3, hv, hc3, hr3⟩ := HO.out
          have HM : Hid (Now wr A3 m) := hr3
          clear HO hr3
          rcases Nat.eq_zero_or_pos m.length with hm0 | hm0
          · rw [hm0] at hv
            subst hv
            clear hm0
            go_wp2
            go_ret
            exact ⟨rfl, Qt.more B4 B4.size hbq⟩
          · subst hv
            have hmz : (0 : Int) < (m.length : Int) := by omega
            have hj60 : (j : Int) < 60 := by omega
            have hbd := pickI_bd at_ (m.length : Int) (by omega)
            have P0 := fun w => pick_any at_ (m.length : Int) w HAT.out.1 HAT.out.2 (by omega) (by omega)
            obtain ⟨t, ht⟩ : ∃ t : Nat, pickI at_ (m.length : Int) = (t : Int) := ⟨(pickI at_ (m.length : Int)).toNat, by omega⟩
            rw [ht] at hbd P0
            have P1 := Lib.hid P0
            have htm : t < m.length := by omega
            have htz : (t : Int) < (m.length : Int) := by omega
            obtain ⟨b, off, rfl, hbB, hcell⟩ := HM.out.at_ hm0
            obtain ⟨⟨x, y⟩, hxy⟩ : ∃ p, p = m.getD t (0, 0) := ⟨_, rfl⟩
            obtain ⟨c0, c1⟩ := hcell t htm
            rw [← hxy] at c0 c1
            simp only at c0 c1
            obtain ⟨g0, g1, g2⟩ := (rightB_iff m).1 HRM.out
            have hqi : inB (x, y) = true := by rw [hxy]; exact g1 _ (getD_mem htm)
            have hol := length_out g2 htm
            rw [← hxy] at hol
            have ho := with_off (some ⟨b, off, none⟩) m c3 (x, y) wr HM.out g0 hc3 HRM.out g2 hqi
            have hro := rightB_out HRM.out (x, y)
            generalize outL (x, y) m = O at hol ho hro
            have HOC := Lib.hid ho
            have HRO := Lib.hid hro
            have hne : ((O.length : Int) != (m.length : Int) - 1) = false := by simp; omega
            clear hbd P0 ht hcell hxy g0 g1 g2 hqi ho hro
            go_wp2_with fail
            refine (P1.out _).mono ?_
            rintro e w5 ⟨rfl, rfl⟩
            go_wp2_with fail
            refine HOC.out.mono ?_
            rintro e w5 ⟨g, rfl, hrow, hb5⟩
            have HN5 : Hid (Now w5 (some ⟨g, 0, none⟩) O) := hrow.rd
            clear hrow HOC c0 c1
            go_wp2_with fail
            refine (right_ok' HN5.out rfl (Nat.le_refl _) HRO.out).mono ?_
            rintro e w6 ⟨rfl, hb6⟩
            have HN6 := Lib.hid (HN5.out.below hb6)
            have HB6 := Qt.more (Qt.more hbq hbq.size hb5) (Nat.le_trans hbq.size hb5.size) hb6
            clear HN5 hb5 hb6
            go_wp2
            go_roundw
            case measure => simp [intOf]; omega
            case rel => exact ⟨O, j + 1, by go_num, by omega, ⟨_, _, rfl, Nat.le_refl _, HN6.out⟩, HRO.out, HB6⟩

end Go.Proofs.Ytmhbleadgddgaaa
