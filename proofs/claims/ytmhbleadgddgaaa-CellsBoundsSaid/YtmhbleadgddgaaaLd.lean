/-
  CellsBounds: a set is shifted just if its box stays within bounds: the law returns true whatever numbers come in.
  Conditions: none.
-/
import Derived.Test.YtmhbleadgddgaaaCo
import Derived.Test.YtmhbleadgddgaaaLa
import Derived.Test.YtmhbleadgddgaaaCq
namespace Go.Proofs.Ytmhbleadgddgaaa
open Go.RowKit Go.Sort

/-- A set is within bounds elsewhere just if its box is. -/
theorem shift_in {l : List (Int × Int)} (h0 : 0 < l.length) (hr : Rises l) (x y : Int) :
    (shL x y l).all inB = true ↔ -1099511627776 ≤ loX l l.length + x ∧ -1099511627776 ≤ (l.getD 0 (0, 0)).2 + y ∧ hiX l l.length + x ≤ 1099511627776 ∧ (l.getD (l.length - 1) (0, 0)).2 + y ≤ 1099511627776 := by
  rw [List.all_eq_true]
  constructor
  · intro h
    have hat : ∀ j, j < l.length → inB ((l.getD j (0, 0)).1 + x, (l.getD j (0, 0)).2 + y) = true := fun j hj => by
      rw [← getD_shL x y l hj]
      exact h _ (getD_mem (by rw [length_shL]; exact hj))
    obtain ⟨j0, hj0, e0⟩ := loX_hit h0 (Nat.le_refl l.length)
    obtain ⟨j2, hj2, e2⟩ := hiX_hit h0 (Nat.le_refl l.length)
    have a0 := (inB_iff _).1 (hat j0 hj0)
    have a1 := (inB_iff _).1 (hat 0 h0)
    have a2 := (inB_iff _).1 (hat j2 hj2)
    have a3 := (inB_iff _).1 (hat (l.length - 1) (by omega))
    simp only at a0 a1 a2 a3
    rw [e0] at a0
    rw [e2] at a2
    omega
  · rintro ⟨h1, h2, h3, h4⟩ p hp
    obtain ⟨c, hc, rfl⟩ := List.mem_map.1 hp
    obtain ⟨j, hj, e⟩ := List.getElem_of_mem hc
    have e' : l.getD j (0, 0) = c := by rw [List.getD_eq_getElem?_getD, List.getElem?_eq_getElem hj]; exact e
    have b1 := loX_le (l := l) hj (Nat.le_refl _)
    have b2 := hiX_ge (l := l) hj (Nat.le_refl _)
    have b3 := rises_y hr (i := 0) (j := j) (Nat.zero_le _) hj
    have b4 := rises_y hr (i := j) (j := l.length - 1) (by omega) (by omega)
    rw [e'] at b1 b2 b3 b4
    rw [inB_iff]
    simp only
    omega

theorem shift_nil (A : Option Addr) (c : Nat) (dx dy : Int) (w : World) (hdx : I64 dx) (hdy : I64 dy) :
    Calls Try.prog 23 #[.slice A 0 c, .int .i64 dx, .int .i64 dy] w fun e w' => ∃ g, e = .returned (.tuple #[.slice (some ⟨g, 0, none⟩) 0 0, .int .i64 0]) ∧ Below w.heap.size w w' := by
  refine (shift_any A [] c dx dy w (Rd.nil _ _ _) (Nat.zero_le _) (Nat.zero_le _) (by decide) (fun p hp => by cases hp) hdx hdy).mono ?_
  rintro e w' ⟨hb, h⟩
  rw [if_pos (by rfl)] at h
  obtain ⟨g, rfl, _⟩ := h
  exact ⟨g, rfl, hb⟩

set_option maxHeartbeats 4000000 in
set_option maxRecDepth 100000 in
theorem cellsBounds_walk (A : Option Addr) (raw : List (Int × Int)) (c : Nat) (dx dy : Int) (w : World) (hR : Rd w w.heap.size A raw) (hl : raw.length ≤ 9223372036854775807) (hc : raw.length ≤ c) (hw : ∀ p ∈ raw, I64 p.1 ∧ I64 p.2) (hdx : I64 dx) (hdy : I64 dy) :
    Calls Try.prog 8 #[.slice A raw.length c, .int .i64 dx, .int .i64 dy] w fun e w' => e = .returned (.bool true) ∧ Below w.heap.size w w' := by
  have HDX := Lib.hid hdx
  have HDY := Lib.hid hdy
  clear hdx hdy
  go_enter Try.func8, Try.ntmps8
  go_wp2_with fail
  refine (awake_any w).mono ?_
  rintro e w1 ⟨rfl, hb1⟩
  go_wp2_with fail
  refine (set_any A raw c w1 ((hR.below hb1 (Nat.le_refl _)).more hb1.size) hl hc hw).mono ?_
  rintro e w2 ⟨v, rfl, hv, hb2⟩
  have B2 := Qt.more hb1 hb1.size hb2
  obtain ⟨A', c', rfl, hc', hr'⟩ := hv
  have HLEN := Lib.hid (rawSet_len raw)
  have HRT := Lib.hid (rawSet_right raw)
  have HIN := Lib.hid (rawSet_in raw)
  have HRS := Lib.hid (rawSet_rises raw)
  generalize rawSet raw = s at hr' HLEN HRT HIN HRS hc' ⊢
  have hlen : s.length ≤ 60 := HLEN.out
  have hp := pickI_bd dx 2199023255552 (by omega)
  have hq := pickI_bd dy 2199023255552 (by omega)
  obtain ⟨px, hpx⟩ : ∃ x, x = pickI dx 2199023255552 := ⟨_, rfl⟩
  obtain ⟨py, hpy⟩ : ∃ x, x = pickI dy 2199023255552 := ⟨_, rfl⟩
  rw [← hpx] at hp
  rw [← hpy] at hq
  have PX := fun w => pick_any dx 2199023255552 w HDX.out.1 HDX.out.2 (by omega) (by omega)
  have PY := fun w => pick_any dy 2199023255552 w HDY.out.1 HDY.out.2 (by omega) (by omega)
  rw [← hpx] at PX
  rw [← hpy] at PY
  have PX := Lib.hid PX
  have PY := Lib.hid PY
  obtain ⟨p1, p2⟩ := hp
  obtain ⟨p3, p4⟩ := hq
  clear hR hl hc hw hb1 hb2 hpx hpy
  rcases Nat.eq_zero_or_pos s.length with h0 | h0
  · rw [h0]
    clear h0 hlen
    go_wp2_with fail
    refine (box_nil A' c' w2).mono ?_
    rintro e w3 ⟨rfl, hb3⟩
    have B3 := Qt.more B2 B2.size hb3
    unfold noBox
    go_wp2_with fail
    refine (PX.out _).mono ?_
    rintro e w4 ⟨rfl, rfl⟩
    go_wp2_with fail
    refine (PY.out _).mono ?_
    rintro e w5 ⟨rfl, rfl⟩
    go_wp2_with fail
    refine (shift_nil A' c' (px - 1099511627776) (py - 1099511627776) _ (by unfold I64; omega) (by unfold I64; omega)).mono ?_
    rintro e w6 ⟨g, rfl, hb6⟩
    have HX := Lib.hid (Whole.below (Whole.new w3 35 #[.int .i64 0, .int .i64 0, .int .i64 0, .int .i64 0]) hb6)
    have B6 := Qt.more (B3.alloc B3.size (.cells #[.int .i64 0, .int .i64 0, .int .i64 0, .int .i64 0] 35)) (by have := B3.size; simp; omega) hb6
    clear hb6
    obtain ⟨q0, q1, q2, q3, _, _, _, _⟩ := HX.out.four
    have g1 : -1099511627776 ≤ 0 + (px - 1099511627776) := by omega
    have g2 : -1099511627776 ≤ 0 + (py - 1099511627776) := by omega
    have g3 : 0 + 0 - 1 + (px - 1099511627776) ≤ 1099511627776 := by omega
    have g4 : 0 + 0 - 1 + (py - 1099511627776) ≤ 1099511627776 := by omega
    go_wp2
    go_ret
    exact ⟨rfl, B6⟩
  · go_wp2_with fail
    refine (box_any A' s c' w2 hr' (by omega) hc' h0 HRT.out HIN.out).mono ?_
    rintro e w3 ⟨rfl, hb3⟩
    have B3 := Qt.more B2 B2.size hb3
    obtain ⟨lo, hlo⟩ : ∃ x, x = loX s s.length := ⟨_, rfl⟩
    obtain ⟨hi, hhi⟩ : ∃ x, x = hiX s s.length := ⟨_, rfl⟩
    obtain ⟨fy, hfy⟩ : ∃ x, x = (s.getD 0 (0, 0)).2 := ⟨_, rfl⟩
    obtain ⟨ey, hey⟩ : ∃ x, x = (s.getD (s.length - 1) (0, 0)).2 := ⟨_, rfl⟩
    have hlb := loX_bd HIN.out h0 s.length
    have hhb := hiX_bd HIN.out h0 s.length
    have hfb := (inB_iff _).1 (HIN.out _ (getD_mem h0))
    have heb := (inB_iff _).1 (HIN.out _ (getD_mem (l := s) (k := s.length - 1) (by omega)))
    have hiff := shift_in h0 HRS.out (px - 1099511627776) (py - 1099511627776)
    rw [← hlo] at hlb hiff
    rw [← hhi] at hhb hiff
    rw [← hfy] at hfb hiff
    rw [← hey] at heb hiff
    have hbv : boxV s = .agg #[.int .i64 lo, .int .i64 fy, .int .i64 (hi - lo + 1), .int .i64 (ey - fy + 1)] := by
      unfold boxV; rw [← hlo, ← hhi, ← hfy, ← hey]
    rw [hbv]
    have HIFF := Lib.hid hiff
    obtain ⟨l1, l2⟩ := hlb
    obtain ⟨l3, l4⟩ := hhb
    obtain ⟨_, _, l5, l6⟩ := hfb
    obtain ⟨_, _, l7, l8⟩ := heb
    clear hlo hhi hfy hey hbv hiff
    go_wp2_with fail
    refine (PX.out _).mono ?_
    rintro e w4 ⟨rfl, rfl⟩
    go_wp2_with fail
    refine (PY.out _).mono ?_
    rintro e w5 ⟨rfl, rfl⟩
    go_wp2_with fail
    refine (shift_any A' s c' (px - 1099511627776) (py - 1099511627776) _ ((hr'.below ((hb3.alloc hb3.size (.cells #[.int .i64 lo, .int .i64 fy, .int .i64 (hi - lo + 1), .int .i64 (ey - fy + 1)] 35))) (Nat.le_refl _)).more (by have := hb3.size; simp; omega)) (by omega) hc' HRT.out HIN.out (by omega) (by omega)).mono ?_
    rintro e w6 ⟨hb6, hsh⟩
    have HX := Lib.hid (Whole.below (Whole.new w3 35 #[.int .i64 lo, .int .i64 fy, .int .i64 (hi - lo + 1), .int .i64 (ey - fy + 1)]) hb6)
    have B6 := Qt.more (B3.alloc B3.size (.cells #[.int .i64 lo, .int .i64 fy, .int .i64 (hi - lo + 1), .int .i64 (ey - fy + 1)] 35)) (by have := B3.size; simp; omega) hb6
    clear hb6 hb3 hr'
    obtain ⟨q0, q1, q2, q3, _, _, _, _⟩ := HX.out.four
    by_cases hall : (shL (px - 1099511627776) (py - 1099511627776) s).all inB = true
    · rw [if_pos hall] at hsh
      obtain ⟨g1, g2, g3, g4⟩ := HIFF.out.1 hall
      obtain ⟨g, rfl, _⟩ := hsh
      clear hall
      go_wp2
      go_ret
      exact ⟨rfl, B6⟩
    · rw [if_neg hall] at hsh
      subst hsh
      by_cases g1 : -1099511627776 ≤ lo + (px - 1099511627776)
      · by_cases g2 : -1099511627776 ≤ fy + (py - 1099511627776)
        · by_cases g3 : hi + (px - 1099511627776) ≤ 1099511627776
          · have g4 : ¬ ey + (py - 1099511627776) ≤ 1099511627776 := fun g4 => hall (HIFF.out.2 ⟨g1, g2, g3, g4⟩)
            have g5 : decide (fy + (ey - fy + 1) - 1 + (py - 1099511627776) ≤ 1099511627776) = false := by simp; omega
            clear hall
            go_wp2
            go_ret
            exact ⟨rfl, B6⟩
          · clear hall
            go_wp2
            go_ret
            exact ⟨rfl, B6⟩
        · clear hall
          go_wp2
          go_ret
          exact ⟨rfl, B6⟩
      · clear hall
        go_wp2
        go_ret
        exact ⟨rfl, B6⟩

end Go.Proofs.Ytmhbleadgddgaaa
