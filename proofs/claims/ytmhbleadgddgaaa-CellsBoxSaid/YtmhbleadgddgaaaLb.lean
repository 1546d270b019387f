/-
  CellsBox: all cells of a set are in its box, and one at each of its sides: the law returns true whatever raw numbers come in.
  Conditions: none.
-/
import Derived.Test.YtmhbleadgddgaaaLa
namespace Go.Proofs.Ytmhbleadgddgaaa
open Go.RowKit Go.Sort

theorem eq_sides : ∀ W : World, (Op.equalIn 10000 47 (.agg #[.bool true, .bool true, .bool true, .bool true]) (.agg #[.bool true, .bool true, .bool true, .bool true])).run Try.prog W = .ok true W := fun _ => by kernel_rfl

set_option maxHeartbeats 4000000 in
set_option maxRecDepth 100000 in
theorem cellsBox_walk (A : Option Addr) (raw : List (Int × Int)) (c : Nat) (w : World) (hR : Rd w w.heap.size A raw) (hl : raw.length ≤ 9223372036854775807) (hc : raw.length ≤ c) (hw : ∀ p ∈ raw, I64 p.1 ∧ I64 p.2) :
    Calls Try.prog 6 #[.slice A raw.length c] w fun e w' => e = .returned (.bool true) ∧ Below w.heap.size w w' := by
  go_enter Try.func6, Try.ntmps6
  go_wp2_with fail
  refine (awake_any w).mono ?_
  rintro e w1 ⟨rfl, hb1⟩
  go_wp2_with fail
  refine (set_any A raw c w1 ((hR.below hb1 (Nat.le_refl _)).more hb1.size) hl hc hw).mono ?_
  rintro e w2 ⟨v, rfl, hv, hb2⟩
  have B2 := Qt.more hb1 hb1.size hb2
  obtain ⟨A', c', rfl, hc', hr'⟩ := hv
  have HLEN := Lib.hid (rawSet_len raw)
  have HRT := Lib.hid (rawSet_right raw)
  have HIN := Lib.hid (rawSet_in raw)
  have HRS := Lib.hid (rawSet_rises raw)
  generalize rawSet raw = s at hr' HLEN HRT HIN HRS hc' ⊢
  have hlen : s.length ≤ 60 := HLEN.out
  clear hR hl hc hw hb1 hb2
  rcases Nat.eq_zero_or_pos s.length with h0 | h0
  · rw [h0]
    clear h0 hlen
    go_wp2_with fail
    refine (box_nil A' c' w2).mono ?_
    rintro e w3 ⟨rfl, hb3⟩
    have B3 := Qt.more B2 B2.size hb3
    unfold noBox
    go_wp2
    go_rounds 1
    all_goals go_ret
    all_goals exact ⟨rfl, (B3.alloc B3.size _).alloc (by have := B3.size; simp; omega) _⟩
  · go_wp2_with fail
    refine (box_any A' s c' w2 hr' (by omega) hc' h0 HRT.out HIN.out).mono ?_
    rintro e w3 ⟨rfl, hb3⟩
    have B3 := Qt.more B2 B2.size hb3
    obtain ⟨b, off, rfl, hbB, hcell⟩ := hr'.at_ h0
    obtain ⟨lo, hlo⟩ : ∃ x, x = loX s s.length := ⟨_, rfl⟩
    obtain ⟨hi, hhi⟩ : ∃ x, x = hiX s s.length := ⟨_, rfl⟩
    obtain ⟨fy, hfy⟩ : ∃ x, x = (s.getD 0 (0, 0)).2 := ⟨_, rfl⟩
    obtain ⟨ey, hey⟩ : ∃ x, x = (s.getD (s.length - 1) (0, 0)).2 := ⟨_, rfl⟩
    have hlb := loX_bd HIN.out h0 s.length
    have hhb := hiX_bd HIN.out h0 s.length
    have hfb := (inB_iff _).1 (HIN.out _ (getD_mem h0))
    have heb := (inB_iff _).1 (HIN.out _ (getD_mem (l := s) (k := s.length - 1) (by omega)))
    rw [← hlo] at hlb
    rw [← hhi] at hhb
    rw [← hfy] at hfb
    rw [← hey] at heb
    have hbv : boxV s = .agg #[.int .i64 lo, .int .i64 fy, .int .i64 (hi - lo + 1), .int .i64 (ey - fy + 1)] := by
      unfold boxV; rw [← hlo, ← hhi, ← hfy, ← hey]
    rw [hbv]
    have hc3 : ∀ j, j < s.length → w3.cell? ⟨b, off + j * 2, none⟩ = some (.int .i64 (s.getD j (0, 0)).1) ∧ w3.cell? ⟨b, off + j * 2 + 1, none⟩ = some (.int .i64 (s.getD j (0, 0)).2) := fun j hj => ⟨Qt.keep hb3 (hcell j hj).1, Qt.keep hb3 (hcell j hj).2⟩
    have HC := Lib.hid hc3
    have HLO := Lib.hid hlo
    have HHI := Lib.hid hhi
    have HFY := Lib.hid hfy
    have HEY := Lib.hid hey
    obtain ⟨l1, l2⟩ := hlb
    obtain ⟨l3, l4⟩ := hhb
    obtain ⟨_, _, l5, l6⟩ := hfb
    obtain ⟨_, _, l7, l8⟩ := heb
    have hlhz : (0 : Int) < (s.length : Int) := by omega
    clear hlo hhi hfy hey hbv hcell hr' hc3
    go_wp2
    have HA2 : Below w3.heap.size w3 ((w3.alloc (.cells #[.int .i64 lo, .int .i64 fy, .int .i64 (hi - lo + 1), .int .i64 (ey - fy + 1)] 35)).alloc (.cells #[.bool false, .bool false, .bool false, .bool false] 47)) := ((Below.refl _ _).alloc (Nat.le_refl _) _).alloc (by simp) _
    have HX0 := Whole.below (Whole.new w3 35 #[.int .i64 lo, .int .i64 fy, .int .i64 (hi - lo + 1), .int .i64 (ey - fy + 1)]) ((Below.refl _ _).alloc (Nat.le_refl _) (.cells #[.bool false, .bool false, .bool false, .bool false] 47))
    have HY0 := Whole.new (w3.alloc (.cells #[.int .i64 lo, .int .i64 fy, .int .i64 (hi - lo + 1), .int .i64 (ey - fy + 1)] 35)) 47 #[.bool false, .bool false, .bool false, .bool false]
    rw [World.size_alloc] at HY0
    have HX := Lib.hid HX0
    have HY := Lib.hid HY0
    clear HX0 HY0
    go_loopw [8] (fun si wr => ∃ k : Nat, k ≤ s.length ∧ si = .int .i64 k ∧ Hid (Whole wr w3.heap.size 35 #[.int .i64 lo, .int .i64 fy, .int .i64 (hi - lo + 1), .int .i64 (ey - fy + 1)]) ∧
        Hid (Whole wr (w3.heap.size + 1) 47 #[.bool (anyTo (fun p => decide (p.1 = lo)) s k), .bool (anyTo (fun p => decide (p.2 = fy)) s k), .bool (anyTo (fun p => decide (p.1 = hi)) s k), .bool (anyTo (fun p => decide (p.2 = ey)) s k)]) ∧
        Below w3.heap.size w3 wr) (fun i _ => s.length - (intOf i).toNat)
    case atStart => exact ⟨0, Nat.zero_le _, rfl, HX.out, HY.out, HA2⟩
    case round =>
      obtain ⟨k, hk, rfl, HBX, HSD, hbr⟩ := hrel
      by_cases hlt : k < s.length
      · have hltz : (k : Int) < (s.length : Int) := by omega
        obtain ⟨⟨x, y⟩, hxy⟩ : ∃ p, p = s.getD k (0, 0) := ⟨_, rfl⟩
        obtain ⟨c0, c1⟩ := HC.out k hlt
        have b1 := loX_le (l := s) hlt (Nat.le_refl _)
        have b2 := hiX_ge (l := s) hlt (Nat.le_refl _)
        have b3 := rises_y HRS.out (i := 0) (j := k) (Nat.zero_le _) hlt
        have b4 := rises_y HRS.out (i := k) (j := s.length - 1) (by omega) (by omega)
        rw [← HLO.out, ← hxy] at b1
        rw [← HHI.out, ← hxy] at b2
        rw [← HFY.out, ← hxy] at b3
        rw [← HEY.out, ← hxy] at b4
        rw [← hxy] at c0 c1
        simp only at b1 b2 b3 b4 c0 c1
        have c0 := Qt.keep hbr c0
        have c1 := Qt.keep hbr c1
        have HXY := Lib.hid hxy
        have T0 := Lib.hid (anyTo_succ (p := fun p => decide (p.1 = lo)) hlt)
        have T1 := Lib.hid (anyTo_succ (p := fun p => decide (p.2 = fy)) hlt)
        have T2 := Lib.hid (anyTo_succ (p := fun p => decide (p.1 = hi)) hlt)
        have T3 := Lib.hid (anyTo_succ (p := fun p => decide (p.2 = ey)) hlt)
        generalize anyTo (fun p => decide (p.1 = lo)) s k = s0 at HSD T0
        generalize anyTo (fun p => decide (p.2 = fy)) s k = s1 at HSD T1
        generalize anyTo (fun p => decide (p.1 = hi)) s k = s2 at HSD T2
        generalize anyTo (fun p => decide (p.2 = ey)) s k = s3 at HSD T3
        obtain ⟨q0, q1, q2, q3, _, _, _, _⟩ := HBX.out.four
        have k0 := Qt.cell_in c0
        have k1 := Qt.cell_in c1
        have k2 := Qt.cell_in q0
        have k3 := Qt.cell_in q1
        clear hxy
        go_wp2
        refine Qt.below_all (by kernel_rfl) (by kernel_rfl) ?_
        repeat (go_big_quiet_step (fail))
        refine wpQuiet_nil ?_
        intro w4 hb4
        have k0 := Qt.cell_in (Qt.keep hb4 c0)
        have k1 := Qt.cell_in (Qt.keep hb4 c1)
        have k2 := Qt.cell_in (Qt.keep hb4 q0)
        have k3 := Qt.cell_in (Qt.keep hb4 q1)
        go_wp2
        refine Qt.below_all (by kernel_rfl) (by kernel_rfl) ?_
        repeat (go_big_quiet_step (fail))
        refine wpQuiet_nil ?_
        intro w5 hb5
        have HB5 : Below wr.heap.size wr w5 := Qt.more hb4 hb4.size hb5
        have HBX5 := Lib.hid (HBX.out.below HB5)
        have HSD5 := Lib.hid (HSD.out.below HB5)
        have HBr5 : Below w3.heap.size w3 w5 := Qt.more hbr hbr.size HB5
        obtain ⟨r0, r1, r2, r3, _, _, _, _⟩ := HBX5.out.four
        obtain ⟨t0, t1, t2, t3, f0, f1, f2, f3⟩ := HSD5.out.four
        clear k0 k1 k2 k3 c0 c1 q0 q1 q2 q3 hb4 hb5 HB5 HBX HSD hbr
        cases s0 <;> cases s1 <;> cases s2 <;> cases s3
        all_goals
          go_wp2
          go_roundw
          case measure => simp [intOf]; omega
          case rel =>
            refine ⟨k + 1, by omega, by go_num, ?_, ?_, (((HBr5.setCell (Nat.le_succ _) _).setCell (Nat.le_succ _) _).setCell (Nat.le_succ _) _).setCell (Nat.le_succ _) _⟩
            · exact (((HBX5.out.far (by simp) _).far (by simp) _).far (by simp) _).far (by simp) _
            · rw [T0.out, T1.out, T2.out, T3.out, ← HXY.out]
              exact HSD5.out.set4 (by first | rfl | exact side_eq (by omega)) (by first | rfl | exact side_eq (by omega)) (by first | rfl | exact side_eq (by omega)) (by first | rfl | exact side_eq (by omega))
      · have hltz : ¬ (k : Int) < (s.length : Int) := by omega
        have hkl : k = s.length := by omega
        obtain ⟨j0, hj0, e0⟩ := loX_hit h0 (Nat.le_refl s.length)
        obtain ⟨j2, hj2, e2⟩ := hiX_hit h0 (Nat.le_refl s.length)
        have hA0 : anyTo (fun p => decide (p.1 = lo)) s k = true := by rw [hkl]; exact anyTo_yes hj0 (by rw [HLO.out]; simpa using e0)
        have hA1 : anyTo (fun p => decide (p.2 = fy)) s k = true := by rw [hkl]; exact anyTo_yes h0 (by rw [HFY.out]; simp)
        have hA2 : anyTo (fun p => decide (p.1 = hi)) s k = true := by rw [hkl]; exact anyTo_yes hj2 (by rw [HHI.out]; simpa using e2)
        have hA3 : anyTo (fun p => decide (p.2 = ey)) s k = true := by rw [hkl]; exact anyTo_yes (j := s.length - 1) (by omega) (by rw [HEY.out]; simp)
        have hs := HSD.out
        rw [hA0, hA1, hA2, hA3] at hs
        obtain ⟨t0, t1, t2, t3, _, _, _, _⟩ := hs.four
        have hsp : decide (0 < s.length) = true := by simpa using h0
        clear hA0 hA1 hA2 hA3 hs hkl e0 e2
        have heq := eq_sides
        go_wp2
        go_ret
        exact ⟨rfl, Qt.more B3 B3.size hbr⟩

end Go.Proofs.Ytmhbleadgddgaaa
