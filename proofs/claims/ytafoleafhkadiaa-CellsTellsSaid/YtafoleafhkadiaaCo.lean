/-
  The law's own first calls, whose answers are fixed: they are as they should be.
-/
import Derived.Test.YtafoleafhkadiaaCn
import Derived.Test.YtafoleafhkadiaaCp
namespace Go.Proofs.Ytafoleafhkadiaa
open Go.RowKit Go.Sort

def aw0 : List (Int × Int) := [(1, 0), (0, 1), (1, 0)]
def aw1 : List (Int × Int) := [(1, 0), (0, 1)]
theorem aw_set : setL aw0 = aw1 := by decide
theorem aw_in : (aw0.any fun p => !inB p) = false := by decide
theorem aw_right : rightB aw1 = true := by decide
theorem aw_in1 : ∀ p ∈ aw1, inB p = true := by decide
theorem aw_rises : Rises aw1 := ((rightB_iff _).1 aw_right).2.2
theorem aw_out : outL (1, 0) aw1 = [(0, 1)] := by decide
theorem aw_sh : shL 5 (-5) aw1 = [(6, -5), (5, -4)] := by decide
theorem aw_shin : (shL 5 (-5) aw1).all inB = true := by decide
theorem aw_box : boxV aw1 = .agg #[.int .i64 0, .int .i64 0, .int .i64 2, .int .i64 2] := by
  have h1 : loX aw1 aw1.length = 0 := by decide
  have h2 : hiX aw1 aw1.length = 1 := by decide
  unfold boxV
  rw [h1, h2]
  rfl

theorem aw_of (B : Nat) (w : World) (hR : Rd w w.heap.size (some ⟨B, 0, none⟩) aw0) :
    Calls Try.prog 14 #[.slice (some ⟨B, 0, none⟩) 3 3] w fun e w' => ∃ g, e = .returned (.tuple #[.slice (some ⟨g, 0, none⟩) 2 2, .int .i64 0]) ∧ Hid (Row w' w.heap.size 25 g 2 2 aw1) ∧ Below w.heap.size w w' := by
  have h := of_in (some ⟨B, 0, none⟩) aw0 3 w hR (by decide) (by decide) aw_in (by rw [aw_set]; decide)
  rw [aw_set] at h
  exact h

theorem aw_of2 (B : Nat) (w : World) (hR : Rd w w.heap.size (some ⟨B, 0, none⟩) [(1099511627777, 0)]) :
    Calls Try.prog 14 #[.slice (some ⟨B, 0, none⟩) 1 1] w fun e w' => e = .returned (.tuple #[.slice none 0 0, .int .i64 2]) ∧ Below w.heap.size w w' :=
  of_out (some ⟨B, 0, none⟩) [(1099511627777, 0)] 1 w hR (by decide) (by decide) (by decide)

theorem aw_boxes (g : Nat) (w : World) (hR : Rd w w.heap.size (some ⟨g, 0, none⟩) aw1) :
    Calls Try.prog 19 #[.slice (some ⟨g, 0, none⟩) 2 2] w fun e w' => e = .returned (.tuple #[.agg #[.int .i64 0, .int .i64 0, .int .i64 2, .int .i64 2], .bool true]) ∧ Below w.heap.size w w' := by
  have h := box_any (some ⟨g, 0, none⟩) aw1 2 w hR (by decide) (by decide) (by decide) aw_right aw_in1
  rw [aw_box] at h
  exact h

theorem aw_with (g : Nat) (w : World) (hR : Rd w w.heap.size (some ⟨g, 0, none⟩) aw1) :
    Calls Try.prog 22 #[.slice (some ⟨g, 0, none⟩) 2 2, .agg #[.int .i64 1, .int .i64 0], .bool false] w fun e w' => ∃ g', e = .returned (.tuple #[.slice (some ⟨g', 0, none⟩) 1 1, .int .i64 0]) ∧ Hid (Row w' w.heap.size 25 g' 1 1 [(0, 1)]) ∧ Below w.heap.size w w' := by
  have h := with_off (some ⟨g, 0, none⟩) aw1 2 (1, 0) w hR (by decide) (by decide) aw_right aw_rises (by decide)
  rw [aw_out] at h
  exact h

theorem aw_shift (g : Nat) (w : World) (hR : Rd w w.heap.size (some ⟨g, 0, none⟩) aw1) :
    Calls Try.prog 26 #[.slice (some ⟨g, 0, none⟩) 2 2, .int .i64 5, .int .i64 (-5)] w fun e w' => ∃ g', e = .returned (.tuple #[.slice (some ⟨g', 0, none⟩) 2 2, .int .i64 0]) ∧ Hid (Row w' w.heap.size 25 g' 2 2 [(6, -5), (5, -4)]) ∧ Below w.heap.size w w' := by
  refine (shift_any (some ⟨g, 0, none⟩) aw1 2 5 (-5) w hR (by decide) (by decide) aw_right aw_in1 (by decide) (by decide)).mono ?_
  rintro e w' ⟨hb, h⟩
  rw [aw_shin, if_pos rfl] at h
  obtain ⟨g', he, hr⟩ := h
  rw [aw_sh] at hr
  exact ⟨g', he, hr, hb⟩

theorem aw_has (g : Nat) (q : Int × Int) (r : Bool) (hr : hasB aw1 q = r) (w : World) (hR : Rd w w.heap.size (some ⟨g, 0, none⟩) aw1) :
    Calls Try.prog 24 #[.slice (some ⟨g, 0, none⟩) 2 2, .agg #[.int .i64 q.1, .int .i64 q.2]] w fun e w' => e = .returned (.bool r) ∧ Below w.heap.size w w' := by
  have h := has_any (some ⟨g, 0, none⟩) aw1 2 q w hR (by decide) (by decide)
  rw [hr] at h
  exact h

/-- three cells laid in a new block -/
theorem rd_three (w : World) (T : Nat) : Rd (w.alloc (.cells #[.int .i64 1, .int .i64 0, .int .i64 0, .int .i64 1, .int .i64 1, .int .i64 0] T)) (w.alloc (.cells #[.int .i64 1, .int .i64 0, .int .i64 0, .int .i64 1, .int .i64 1, .int .i64 0] T)).heap.size (some ⟨w.heap.size, 0, none⟩) aw0 := fun j hj => by
  have hj3 : j < 3 := hj
  refine ⟨w.heap.size, 0, rfl, by simp, ?_, ?_⟩
  · match j, hj3 with
    | 0, _ => simp [aw0]
    | 1, _ => simp [aw0]
    | 2, _ => simp [aw0]
  · match j, hj3 with
    | 0, _ => simp [aw0]
    | 1, _ => simp [aw0]
    | 2, _ => simp [aw0]
theorem rd_one (w : World) (T : Nat) (x y : Int) : Rd (w.alloc (.cells #[.int .i64 x, .int .i64 y] T)) (w.alloc (.cells #[.int .i64 x, .int .i64 y] T)).heap.size (some ⟨w.heap.size, 0, none⟩) [(x, y)] := fun j hj => by
  have hj1 : j = 0 := by simp at hj; omega
  subst hj1
  exact ⟨w.heap.size, 0, rfl, by simp, by simp, by simp⟩
theorem rd_one_at (w : World) (T : Nat) (x y : Int) {B : Nat} (hB : B = w.heap.size) : Rd (w.alloc (.cells #[.int .i64 x, .int .i64 y] T)) (w.alloc (.cells #[.int .i64 x, .int .i64 y] T)).heap.size (some ⟨B, 0, none⟩) [(x, y)] := by
  subst hB; exact rd_one w T x y
theorem rd_two (w : World) (T : Nat) : Rd (w.alloc (.cells #[.int .i64 0, .int .i64 0, .int .i64 0, .int .i64 0] T)) (w.alloc (.cells #[.int .i64 0, .int .i64 0, .int .i64 0, .int .i64 0] T)).heap.size (some ⟨w.heap.size, 0, none⟩) [(0, 0), (0, 0)] := fun j hj => by
  have hj3 : j < 2 := hj
  refine ⟨w.heap.size, 0, rfl, by simp, ?_, ?_⟩
  · match j, hj3 with
    | 0, _ => simp
    | 1, _ => simp
  · match j, hj3 with
    | 0, _ => simp
    | 1, _ => simp

set_option maxHeartbeats 2000000 in
set_option maxRecDepth 100000 in
theorem awake_any (w : World) : Calls Try.prog 12 #[] w fun e w' => e = .returned (.bool true) ∧ Below w.heap.size w w' := by
  go_enter Try.func12, Try.ntmps12
  go_wp2_with fail
  refine (aw_of _ _ (rd_three w 25)).mono ?_
  rintro e w1 ⟨g, rfl, HL, hb1⟩
  have B1 : Below w.heap.size w w1 := Qt.more ((Below.refl _ w).alloc (Nat.le_refl _) _) (by simp) hb1
  clear hb1
  go_wp2_with fail
  refine (aw_boxes g w1 HL.out.rd).mono ?_
  rintro e w2 ⟨rfl, hb2⟩
  have B2 : Below w.heap.size w w2 := Qt.more B1 B1.size hb2
  have HL2 := Lib.hid (HL.out.below hb2)
  have HX2 := Lib.hid (Whole.new w2 35 #[.int .i64 0, .int .i64 0, .int .i64 2, .int .i64 2])
  clear hb2 HL
  go_wp2_with fail
  refine (aw_of2 (w2.heap.size + 1) _ (rd_one_at (w2.alloc (.cells #[.int .i64 0, .int .i64 0, .int .i64 2, .int .i64 2] 35)) 25 1099511627777 0 (by simp))).mono ?_
  rintro e w3 ⟨rfl, hb3⟩
  have b3 : Below w2.heap.size w2 w3 := Qt.more (((Below.refl _ w2).alloc (Nat.le_refl _) (.cells #[.int .i64 0, .int .i64 0, .int .i64 2, .int .i64 2] 35)).alloc (by simp) (.cells #[.int .i64 1099511627777, .int .i64 0] 25)) (by simp; omega) hb3
  have B3 : Below w.heap.size w w3 := Qt.more B2 B2.size b3
  have HL3 := Lib.hid (HL2.out.below b3)
  have HX3 := Lib.hid (HX2.out.below (show Below (w2.alloc (.cells #[.int .i64 0, .int .i64 0, .int .i64 2, .int .i64 2] 35)).heap.size _ w3 from Qt.more ((Below.refl _ _).alloc (Nat.le_refl _) (.cells #[.int .i64 1099511627777, .int .i64 0] 25)) (by simp) hb3))
  clear hb3 b3 HL2 HX2
  go_wp2_with fail
  refine (aw_with g w3 HL3.out.rd).mono ?_
  rintro e w4 ⟨g4, rfl, HO4, hb4⟩
  have B4 : Below w.heap.size w w4 := Qt.more B3 B3.size hb4
  have HL4 := Lib.hid (HL3.out.below hb4)
  have HX4 := Lib.hid (HX3.out.below hb4)
  clear hb4 HL3 HX3
  go_wp2_with fail
  refine (aw_shift g w4 HL4.out.rd).mono ?_
  rintro e w5 ⟨g5, rfl, HS5, hb5⟩
  have B5 : Below w.heap.size w w5 := Qt.more B4 B4.size hb5
  have HL5 := Lib.hid (HL4.out.below hb5)
  have HO5 := Lib.hid (HO4.out.below hb5)
  have HX5 := Lib.hid (HX4.out.below hb5)
  clear hb5 HL4 HX4 HO4
  go_wp2_with fail
  refine (box_nil none 0 w5).mono ?_
  rintro e w6 ⟨rfl, hb6⟩
  have b6 : Below w5.heap.size w5 (w6.alloc (.cells #[.int .i64 0, .int .i64 0, .int .i64 0, .int .i64 0] 35)) := hb6.alloc hb6.size _
  have B6 : Below w.heap.size w _ := Qt.more B5 B5.size b6
  have HL6 := Lib.hid (HL5.out.below b6)
  have HO6 := Lib.hid (HO5.out.below b6)
  have HS6 := Lib.hid (HS5.out.below b6)
  have HX6 := Lib.hid (HX5.out.below b6)
  obtain ⟨q0, q1, q2, q3, _, _, _, _⟩ := HX6.out.four
  obtain ⟨c0, c1⟩ := HL6.out.cell (j := 0) (by decide)
  obtain ⟨d0, d1⟩ := HO6.out.cell (j := 0) (by decide)
  obtain ⟨e0, e1⟩ := HS6.out.cell (j := 0) (by decide)
  simp only [aw1, List.getD_cons_zero, Nat.zero_mul, Nat.zero_add] at c0 c1 d0 d1 e0 e1
  unfold noBox
  clear hb6 b6 HL5 HO5 HS5 HX5
  go_wp2_with fail
  refine (right_yes (l := aw1) (c := 2) HL6.out.rd (by decide) (by decide) aw_right).mono ?_
  rintro e w7 ⟨rfl, hb7⟩
  have B7 := Qt.more B6 B6.size hb7
  have HL7 := Lib.hid (HL6.out.below hb7)
  clear hb7 B6 HL6 q0 q1 q2 q3 c0 c1 d0 d1 e0 e1 HO6 HS6 HX6
  go_wp2_with fail
  refine (right_no (l := [(0, 0), (0, 0)]) (c := 2) (rd_two w7 25) (by decide) (by decide) (by decide)).mono ?_
  rintro e w8 ⟨rfl, hb8⟩
  have b8 : Below w7.heap.size w7 w8 := Qt.more ((Below.refl _ w7).alloc (Nat.le_refl _) _) (by simp) hb8
  have B8 := Qt.more B7 B7.size b8
  have HL8 := Lib.hid (HL7.out.below b8)
  clear hb8 b8 B7 HL7
  go_wp2_with fail
  refine (aw_has g (0, 1) true (by decide) w8 HL8.out.rd).mono ?_
  rintro e w9 ⟨rfl, hb9⟩
  have B9 := Qt.more B8 B8.size hb9
  have HL9 := Lib.hid (HL8.out.below hb9)
  clear hb9 B8 HL8
  go_wp2_with fail
  refine (aw_has g (0, 0) false (by decide) w9 HL9.out.rd).mono ?_
  rintro e w10 ⟨rfl, hb10⟩
  have B10 := Qt.more B9 B9.size hb10
  clear hb10 B9 HL9
  go_wp2
  go_ret
  exact ⟨rfl, B10⟩

end Go.Proofs.Ytafoleafhkadiaa
