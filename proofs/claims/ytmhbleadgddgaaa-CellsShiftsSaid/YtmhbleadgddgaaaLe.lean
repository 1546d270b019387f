/-
  CellsShifts: what is shifted back is as it was; in two steps it is as in one; the box goes along: the law returns true whatever numbers come in.
  Conditions: none.
-/
import Derived.Test.YtmhbleadgddgaaaLc
import Derived.Test.YtmhbleadgddgaaaCq
namespace Go.Proofs.Ytmhbleadgddgaaa
open Go.RowKit Go.Sort

theorem box_ok {A : Option Addr} {l : List (Int × Int)} {n c : Nat} {w : World} (hR : Now w A l) (hn : n = l.length) (hc : n ≤ c) (h0 : 0 < n) (hr : rightB l = true) {v : Value} (hv : boxV l = v) :
    Calls Try.prog 16 #[.slice A n c] w fun e w' => e = .returned (.tuple #[v, .bool true]) ∧ Below w.heap.size w w' := by
  subst hn hv
  exact box_any A l c w hR (Nat.le_trans ((rightB_iff l).1 hr).1 (by decide)) hc h0 hr (all_of_right hr)
theorem right_ok {A : Option Addr} {l : List (Int × Int)} {n c : Nat} {w : World} (hR : Now w A l) (hn : n = l.length) (hc : n ≤ c) (hr : rightB l = true) :
    Calls Try.prog 14 #[.slice A n c] w fun e w' => e = .returned (.bool true) ∧ Below w.heap.size w w' := by
  subst hn
  exact right_yes hR (Nat.le_trans ((rightB_iff l).1 hr).1 (by decide)) hc hr

set_option maxHeartbeats 4000000 in
set_option maxRecDepth 100000 in
theorem cellsShifts_walk (A : Option Addr) (raw : List (Int × Int)) (c : Nat) (dx dy ex ey : Int) (w : World) (hR : Rd w w.heap.size A raw) (hl : raw.length ≤ 9223372036854775807) (hc : raw.length ≤ c) (hw : ∀ p ∈ raw, I64 p.1 ∧ I64 p.2) (hdx : I64 dx) (hdy : I64 dy) (hex : I64 ex) (hey : I64 ey) :
    Calls Try.prog 5 #[.slice A raw.length c, .int .i64 dx, .int .i64 dy, .int .i64 ex, .int .i64 ey] w fun e w' => e = .returned (.bool true) ∧ Below w.heap.size w w' := by
  have HDX := Lib.hid hdx
  have HDY := Lib.hid hdy
  have HEX := Lib.hid hex
  have HEY := Lib.hid hey
  clear hdx hdy hex hey
  go_enter Try.func5, Try.ntmps5
  go_wp2_with fail
  refine (awake_any w).mono ?_
  rintro e w1 ⟨rfl, hb1⟩
  go_wp2_with fail
  refine (set_any A raw c w1 ((hR.below hb1 (Nat.le_refl _)).more hb1.size) hl hc hw).mono ?_
  rintro e w2 ⟨v, rfl, hv, hb2⟩
  have B2 := Qt.more hb1 hb1.size hb2
  obtain ⟨A', c', rfl, hc', hr'⟩ := hv
  have HN := Lib.hid (rawSet_near raw)
  generalize rawSet raw = s at hr' HN hc' ⊢
  have hlen : s.length ≤ 60 := HN.out.1
  have hp := pickI_bd dx 549755813888 (by omega)
  have hq := pickI_bd dy 549755813888 (by omega)
  have hu := pickI_bd ex 1000 (by omega)
  have hv := pickI_bd ey 1000 (by omega)
  have PX0 := fun w => pick_any dx 549755813888 w HDX.out.1 HDX.out.2 (by omega) (by omega)
  have PY0 := fun w => pick_any dy 549755813888 w HDY.out.1 HDY.out.2 (by omega) (by omega)
  have PU0 := fun w => pick_any ex 1000 w HEX.out.1 HEX.out.2 (by omega) (by omega)
  have PV0 := fun w => pick_any ey 1000 w HEY.out.1 HEY.out.2 (by omega) (by omega)
  generalize pickI dx 549755813888 = px at hp PX0
  generalize pickI dy 549755813888 = py at hq PY0
  generalize pickI ex 1000 = pu at hu PU0
  generalize pickI ey 1000 = pv at hv PV0
  have PX := Lib.hid PX0
  have PY := Lib.hid PY0
  have PU := Lib.hid PU0
  have PV := Lib.hid PV0
  obtain ⟨p1, p2⟩ := hp
  obtain ⟨p3, p4⟩ := hq
  obtain ⟨p5, p6⟩ := hu
  obtain ⟨p7, p8⟩ := hv
  have HS2 : Hid (Now w2 A' s) := hr'
  clear hR hl hc hw hb1 hb2 PX0 PY0 PU0 PV0 hr'
  go_wp2_with fail
  refine (PX.out _).mono ?_
  rintro e w3 ⟨rfl, rfl⟩
  go_wp2_with fail
  refine (PY.out _).mono ?_
  rintro e w3 ⟨rfl, rfl⟩
  go_wp2_with fail
  refine (shift_ok HS2.out rfl hc' HN.out.right (HN.out.far (x := px) (y := -py) ⟨by omega, by omega⟩ ⟨by omega, by omega⟩) ⟨by omega, by omega⟩ ⟨by omega, by omega⟩).mono ?_
  rintro e w3 ⟨ga, rfl, HA3, hb3⟩
  have B3 := Qt.more B2 B2.size hb3
  have HS3 := Lib.hid (HS2.out.below hb3)
  clear hb3 HS2
  go_wp2_with fail
  refine (shift_ok (dx := -px) (dy := py) HA3.out (length_shL _ _ _).symm (Nat.le_refl _) (HN.out.far (x := px) (y := -py) ⟨by omega, by omega⟩ ⟨by omega, by omega⟩) (by have := shL_back px (-py) s; rw [Int.neg_neg] at this; rw [this]; exact HN.out.right) ⟨by omega, by omega⟩ ⟨by omega, by omega⟩).mono ?_
  rintro e w4 ⟨gb, rfl, HB4, hb4⟩
  have B4 := Qt.more B3 B3.size hb4
  have HS4 := Lib.hid (HS3.out.below hb4)
  have HA4 := Lib.hid (HA3.out.below hb4)
  clear hb4 HS3 HA3
  go_wp2_with fail
  refine (PU.out _).mono ?_
  rintro e w5 ⟨rfl, rfl⟩
  go_wp2_with fail
  refine (PV.out _).mono ?_
  rintro e w5 ⟨rfl, rfl⟩
  go_wp2_with fail
  refine (shift_ok (dx := pu) (dy := pv) HA4.out (length_shL _ _ _).symm (Nat.le_refl _) (HN.out.far (x := px) (y := -py) ⟨by omega, by omega⟩ ⟨by omega, by omega⟩) (by rw [shL_shL]; exact HN.out.far (x := px + pu) (y := -py + pv) ⟨by omega, by omega⟩ ⟨by omega, by omega⟩) ⟨by omega, by omega⟩ ⟨by omega, by omega⟩).mono ?_
  rintro e w5 ⟨gc, rfl, HC5, hb5⟩
  have B5 := Qt.more B4 B4.size hb5
  have HS5 := Lib.hid (HS4.out.below hb5)
  have HA5 := Lib.hid (HA4.out.below hb5)
  have HB5 := Lib.hid (HB4.out.below hb5)
  clear hb5 HS4 HA4 HB4
  go_wp2_with fail
  refine (PU.out _).mono ?_
  rintro e w6 ⟨rfl, rfl⟩
  go_wp2_with fail
  refine (PV.out _).mono ?_
  rintro e w6 ⟨rfl, rfl⟩
  go_wp2_with fail
  refine (shift_ok (dx := px + pu) (dy := -py + pv) HS5.out rfl hc' HN.out.right (HN.out.far (x := px + pu) (y := -py + pv) ⟨by omega, by omega⟩ ⟨by omega, by omega⟩) ⟨by omega, by omega⟩ ⟨by omega, by omega⟩).mono ?_
  rintro e w6 ⟨gd, rfl, HD6, hb6⟩
  have B6 := Qt.more B5 B5.size hb6
  have HS6 := Lib.hid (HS5.out.below hb6)
  have HA6 := Lib.hid (HA5.out.below hb6)
  have HB6 := Lib.hid (HB5.out.below hb6)
  have HC6 := Lib.hid (HC5.out.below hb6)
  clear hb6 HS5 HA5 HB5 HC5
  have HBACK : Hid (shL (-px) py (shL px (-py) s) = s) := by have := shL_back px (-py) s; rw [Int.neg_neg] at this; exact this
  have HTWO := Lib.hid (shL_shL px (-py) pu pv s)
  have HSH := Lib.hid (length_shL px (-py) s)
  rcases Nat.eq_zero_or_pos s.length with h0 | h0
  · have HL0 := Lib.hid h0
    rw [h0]
    clear h0 hlen
    go_wp2_with fail
    refine (box_nil A' c' w6).mono ?_
    rintro e w7 ⟨rfl, hb7⟩
    have B7 := Qt.more B6 B6.size hb7
    have HS7 := Lib.hid (HS6.out.below hb7)
    have HA7 := Lib.hid (HA6.out.below hb7)
    have HB7 := Lib.hid (HB6.out.below hb7)
    have HC7 := Lib.hid (HC6.out.below hb7)
    have HD7 := Lib.hid (HD6.out.below hb7)
    have HU7 := Lib.hid (Whole.new w7 35 #[.int .i64 0, .int .i64 0, .int .i64 0, .int .i64 0])
    have b7 : Below w7.heap.size w7 (w7.alloc (.cells #[.int .i64 0, .int .i64 0, .int .i64 0, .int .i64 0] 35)) := (Below.refl _ _).alloc (Nat.le_refl _) _
    clear hb7 B6 HS6 HA6 HB6 HC6 HD6
    unfold noBox
    go_wp2_with fail
    refine (box_nil (some ⟨ga, 0, none⟩) 0 _).mono ?_
    rintro e w8 ⟨rfl, hb8⟩
    have b8 := hb8.alloc hb8.size (.cells #[.int .i64 0, .int .i64 0, .int .i64 0, .int .i64 0] 35)
    have HU8 := Lib.hid (HU7.out.below b8)
    have hs8 : w7.heap.size + 1 ≤ w8.heap.size := by have := hb8.size; simpa using this
    obtain ⟨q0, q1, q2, q3, f0, f1, f2, f3⟩ := HU8.out.four
    unfold noBox
    have b9 := ((Qt.more b7 b7.size b8).setCell (p := ⟨w7.heap.size, 0, none⟩) (Nat.le_refl _) (.int .i64 px)).setCell (p := ⟨w7.heap.size, 1, none⟩) (Nat.le_refl _) (.int .i64 (-py))
    have B9 := Qt.more B7 B7.size b9
    have HS9 := Lib.hid (HS7.out.below b9)
    have HA9 := Lib.hid (HA7.out.below b9)
    have HB9 := Lib.hid (HB7.out.below b9)
    have HC9 := Lib.hid (HC7.out.below b9)
    have HD9 := Lib.hid (HD7.out.below b9)
    clear hb8 b8 b9 B7 HS7 HA7 HB7 HC7 HD7 HU7 b7
    go_wp2_with fail
    refine (same_yes (n := 0) HB9.out HS9.out (by simp only [length_shL]; exact HL0.out.symm) (by omega) HBACK.out).mono ?_
    rintro e w10 ⟨rfl, hb10⟩
    clear q0 q1 q2 q3 f0 f1 f2 f3 HU8
    have B10 := Qt.more B9 B9.size hb10
    have HA10 := Lib.hid (HA9.out.below hb10)
    have HC10 := Lib.hid (HC9.out.below hb10)
    have HD10 := Lib.hid (HD9.out.below hb10)
    clear hb10 HA9 HC9 HD9 HS9 HB9 B9
    go_wp2_with fail
    refine (same_yes (n := 0) HC10.out HD10.out (by simp only [length_shL]; exact HL0.out.symm) (by omega) HTWO.out).mono ?_
    rintro e w11 ⟨rfl, hb11⟩
    have B11 := Qt.more B10 B10.size hb11
    have HA11 := Lib.hid (HA10.out.below hb11)
    clear hb11 HA10 HC10 HD10 B10
    go_wp2_with fail
    refine (right_ok (n := 0) HA11.out (by simp only [length_shL]; exact HL0.out.symm) (Nat.le_refl _) (HN.out.far (x := px) (y := -py) ⟨by omega, by omega⟩ ⟨by omega, by omega⟩)).mono ?_
    rintro e w12 ⟨rfl, hb12⟩
    have B12 := Qt.more B11 B11.size hb12
    clear hb12 HA11 B11
    go_wp2
    go_ret
    exact ⟨rfl, B12⟩
  · obtain ⟨lo, hlo⟩ : ∃ x, x = loX s s.length := ⟨_, rfl⟩
    obtain ⟨hi, hhi⟩ : ∃ x, x = hiX s s.length := ⟨_, rfl⟩
    obtain ⟨fy, hfy⟩ : ∃ x, x = (s.getD 0 (0, 0)).2 := ⟨_, rfl⟩
    obtain ⟨ey, hey⟩ : ∃ x, x = (s.getD (s.length - 1) (0, 0)).2 := ⟨_, rfl⟩
    have hlb := loX_bd (all_of_right HN.out.right) h0 s.length
    have hhb := hiX_bd (all_of_right HN.out.right) h0 s.length
    have hfb := (inB_iff _).1 (all_of_right HN.out.right _ (getD_mem h0))
    have heb := (inB_iff _).1 (all_of_right HN.out.right _ (getD_mem (l := s) (k := s.length - 1) (by omega)))
    have hbv : boxV s = .agg #[.int .i64 lo, .int .i64 fy, .int .i64 (hi - lo + 1), .int .i64 (ey - fy + 1)] := by
      unfold boxV; rw [← hlo, ← hhi, ← hfy, ← hey]
    have hbv2 := boxV_shL px (-py) h0
    rw [← hlo] at hlb hbv2
    rw [← hhi] at hhb hbv2
    rw [← hfy] at hfb hbv2
    rw [← hey] at heb hbv2
    obtain ⟨l1, l2⟩ := hlb
    obtain ⟨l3, l4⟩ := hhb
    obtain ⟨_, _, l5, l6⟩ := hfb
    obtain ⟨_, _, l7, l8⟩ := heb
    have HV1 := Lib.hid hbv
    have HV2 := Lib.hid hbv2
    obtain ⟨bw, hbw⟩ : ∃ x, x = hi - lo + 1 := ⟨_, rfl⟩
    obtain ⟨bh, hbh⟩ : ∃ x, x = ey - fy + 1 := ⟨_, rfl⟩
    rw [← hbw, ← hbh] at HV1 HV2
    clear hlo hhi hfy hey hbv hbv2 hbw hbh
    go_wp2_with fail
    refine (box_ok HS6.out rfl hc' h0 HN.out.right HV1.out).mono ?_
    rintro e w7 ⟨rfl, hb7⟩
    have B7 := Qt.more B6 B6.size hb7
    have HS7 := Lib.hid (HS6.out.below hb7)
    have HA7 := Lib.hid (HA6.out.below hb7)
    have HB7 := Lib.hid (HB6.out.below hb7)
    have HC7 := Lib.hid (HC6.out.below hb7)
    have HD7 := Lib.hid (HD6.out.below hb7)
    have HU7 := Lib.hid (Whole.new w7 35 #[.int .i64 lo, .int .i64 fy, .int .i64 bw, .int .i64 bh])
    have b7 : Below w7.heap.size w7 (w7.alloc (.cells #[.int .i64 lo, .int .i64 fy, .int .i64 bw, .int .i64 bh] 35)) := (Below.refl _ _).alloc (Nat.le_refl _) _
    clear hb7 B6 HS6 HA6 HB6 HC6 HD6
    go_wp2_with fail
    refine (box_ok (n := s.length) (HA7.out.below b7) HSH.out.symm (Nat.le_refl _) h0 (HN.out.far (x := px) (y := -py) ⟨by omega, by omega⟩ ⟨by omega, by omega⟩) HV2.out).mono ?_
    rintro e w8 ⟨rfl, hb8⟩
    have b8 := hb8.alloc hb8.size (.cells #[.int .i64 (lo + px), .int .i64 (fy + -py), .int .i64 bw, .int .i64 bh] 35)
    have HU8 := Lib.hid (HU7.out.below b8)
    have HX8 := Lib.hid (Whole.new w8 35 #[.int .i64 (lo + px), .int .i64 (fy + -py), .int .i64 bw, .int .i64 bh])
    have hs8 : w7.heap.size + 1 ≤ w8.heap.size := by have := hb8.size; simpa using this
    obtain ⟨q0, q1, q2, q3, f0, f1, f2, f3⟩ := HU8.out.four
    have b9 := ((Qt.more b7 b7.size b8).setCell (p := ⟨w7.heap.size, 0, none⟩) (Nat.le_refl _) (.int .i64 (lo + px))).setCell (p := ⟨w7.heap.size, 1, none⟩) (Nat.le_refl _) (.int .i64 (fy + -py))
    have HU9 := Lib.hid (show Whole _ w7.heap.size 35 #[.int .i64 (lo + px), .int .i64 (fy + -py), .int .i64 bw, .int .i64 bh] from (HU8.out.set_ 0 (.int .i64 (lo + px))).set_ 1 (.int .i64 (fy + -py)))
    have HX9 := Lib.hid ((HX8.out.far (p := ⟨w7.heap.size, 0, none⟩) (by simp; omega) (.int .i64 (lo + px))).far (p := ⟨w7.heap.size, 1, none⟩) (by simp; omega) (.int .i64 (fy + -py)))
    have B9 := Qt.more B7 B7.size b9
    have HS9 := Lib.hid (HS7.out.below b9)
    have HA9 := Lib.hid (HA7.out.below b9)
    have HB9 := Lib.hid (HB7.out.below b9)
    have HC9 := Lib.hid (HC7.out.below b9)
    have HD9 := Lib.hid (HD7.out.below b9)
    clear hb8 b8 b9 B7 HS7 HA7 HB7 HC7 HD7 HU7 b7
    go_wp2_with fail
    refine (same_yes (n := s.length) HB9.out HS9.out (by simp only [length_shL]) (by omega) HBACK.out).mono ?_
    rintro e w10 ⟨rfl, hb10⟩
    clear q0 q1 q2 q3 f0 f1 f2 f3 HU8 HX8
    have B10 := Qt.more B9 B9.size hb10
    have HA10 := Lib.hid (HA9.out.below hb10)
    have HC10 := Lib.hid (HC9.out.below hb10)
    have HD10 := Lib.hid (HD9.out.below hb10)
    have HU10 := Lib.hid (HU9.out.below hb10)
    have HX10 := Lib.hid (HX9.out.below hb10)
    clear hb10 HA9 HC9 HD9 HU9 HX9 HS9 HB9 B9
    go_wp2_with fail
    refine (same_yes (n := s.length) HC10.out HD10.out (by simp only [length_shL]) (by omega) HTWO.out).mono ?_
    rintro e w11 ⟨rfl, hb11⟩
    have B11 := Qt.more B10 B10.size hb11
    have HA11 := Lib.hid (HA10.out.below hb11)
    have HU11 := Lib.hid (HU10.out.below hb11)
    have HX11 := Lib.hid (HX10.out.below hb11)
    clear hb11 HA10 HU10 HX10 HC10 HD10 B10
    go_wp2_with fail
    refine (right_ok (n := s.length) HA11.out (by simp only [length_shL]) (Nat.le_refl _) (HN.out.far (x := px) (y := -py) ⟨by omega, by omega⟩ ⟨by omega, by omega⟩)).mono ?_
    rintro e w12 ⟨rfl, hb12⟩
    have B12 := Qt.more B11 B11.size hb12
    have HU12 := HU11.out.below hb12
    have HX12 := HX11.out.below hb12
    obtain ⟨q0, q1, q2, q3, _, _, _, _⟩ := HU12.four
    obtain ⟨r0, r1, r2, r3, _, _, _, _⟩ := HX12.four
    have hsp : decide (0 < s.length) = true := by simpa using h0
    have hspz : (0 : Int) < (s.length : Int) := by omega
    clear hb12 HA11 HU11 HX11 B11 HU12 HX12
    go_wp2
    go_ret
    exact ⟨rfl, B12⟩

end Go.Proofs.Ytmhbleadgddgaaa
