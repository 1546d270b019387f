/-
  CountOrder: of texts of numbers the longer one is the greater one; of texts as long the one that stands behind: the law returns true whatever numbers come in.
  Conditions: none.
-/
import Derived.Test.YtkmcleekiienmaaDoorNh
namespace Go.Proofs.YtkmcleekiienmaaDoor
open Go.RowKit Go.Sort

theorem txt_list {u : Nat} (h : u ≤ 4611686018427387903) : (txt (u : Int)).toList = Lib.decDigits u := by
  rw [ByteArray.toList_eq]
  unfold txt
  rw [txtL_nat h]
theorem txt_len {u : Nat} (h : u ≤ 4611686018427387903) : (txt (u : Int)).size = (Lib.decDigits u).length := by
  unfold txt
  rw [txtL_nat h]
  show (Lib.decDigits u).toArray.size = _
  simp
theorem text_nat {u : Nat} {t : ByteArray} {w : World} (hu : u ≤ 4611686018427387903) (hT : Tab w) (ht : txt (u : Int) = t) :
    Calls Tryd.prog 12 #[.int .i64 u] w fun e w' => e = .returned (.string t) ∧ Below w.heap.size w w' :=
  aw_text (by unfold I64; omega) hT ht

set_option maxHeartbeats 2000000 in
theorem countOrder_walk (n m : Int) (w : World) (hn : I64 n) (hm : I64 m) (hT : Tab w) :
    Calls Tryd.prog 7 #[.int .i64 n, .int .i64 m] w fun e w' => e = .returned (.bool true) ∧ Below w.heap.size w w' := by
  have HN := Lib.hid hn
  have HM := Lib.hid hm
  clear hn hm
  obtain ⟨x, hx⟩ : ∃ x, x = (pickI n 4611686018427387903).toNat := ⟨_, rfl⟩
  obtain ⟨y, hy⟩ : ∃ y, y = (pickI m 4611686018427387903).toNat := ⟨_, rfl⟩
  have hx9 : x ≤ 4611686018427387903 := by have := pickI_bd n 4611686018427387903 (by omega); omega
  have hy9 : y ≤ 4611686018427387903 := by have := pickI_bd m 4611686018427387903 (by omega); omega
  have HX := Lib.hid hx
  have HY := Lib.hid hy
  clear hx hy
  obtain ⟨s, hs⟩ : ∃ s, txt (x : Int) = s := ⟨_, rfl⟩
  obtain ⟨t, ht⟩ : ∃ t, txt (y : Int) = t := ⟨_, rfl⟩
  have hord := dec_order x y
  have hinj : s.toList = t.toList → x = y := fun e => by
    rw [← hs, ← ht, txt_list hx9, txt_list hy9] at e
    exact dec_inj e
  have hls := txtL_len (x : Int)
  rw [← txt_list hx9, ← txt_list hy9] at hord
  have e1 : (txt (x : Int)).toList.length = s.size := by rw [hs, ByteArray.toList_eq, ← size_list]
  have e2 : (txt (y : Int)).toList.length = t.size := by rw [ht, ByteArray.toList_eq, ← size_list]
  rw [e1, e2, hs, ht] at hord
  have h19 : s.size ≤ 19 := by rw [← e1, ByteArray.toList_eq]; simpa [txt] using hls
  have heq : x = y → s = t := fun e => by rw [← hs, ← ht, e]
  have HO := Lib.hid hord
  have HI := Lib.hid hinj
  have HE := Lib.hid heq
  have HS := Lib.hid hs
  have HTT := Lib.hid ht
  have H19 : Hid (s.size ≤ 19) := h19
  clear hord hinj hls e1 e2 heq hs ht
  have hxz : (((pickI n 4611686018427387903).toNat : Nat) : Int) = (x : Int) := by rw [HX.out]
  have hyz : (((pickI m 4611686018427387903).toNat : Nat) : Int) = (y : Int) := by rw [HY.out]
  have hpx := fun W => pick_nat n 4611686018427387903 W HN.out (by omega) (by omega)
  have hpy := fun W => pick_nat m 4611686018427387903 W HM.out (by omega) (by omega)
  rw [hxz] at hpx
  rw [hyz] at hpy
  clear hxz hyz
  go_enter Tryd.func7, Tryd.ntmps7
  go_wp2_with fail
  refine (awake_any w hT).mono ?_
  rintro e w1 ⟨rfl, hb1⟩
  have HT1 := Lib.hid (hT.below hb1)
  have B1 := Lib.hid hb1
  clear hb1
  go_wp2_with fail
  refine (hpx _).mono ?_
  rintro e w2 ⟨rfl, rfl⟩
  go_wp2_with fail
  refine (hpy _).mono ?_
  rintro e w2 ⟨rfl, rfl⟩
  go_wp2_with fail
  refine (text_nat hx9 HT1.out HS.out).mono ?_
  rintro e w2 ⟨rfl, hb2⟩
  have HT2 := Lib.hid (HT1.out.below hb2)
  have B2 := Lib.hid (Qt.more B1.out B1.out.size hb2)
  clear hb2 HT1 B1
  go_wp2_with fail
  refine (text_nat hy9 HT2.out HTT.out).mono ?_
  rintro e w3 ⟨rfl, hb3⟩
  have HT3 := Lib.hid (HT2.out.below hb3)
  have B3 := Lib.hid (Qt.more B2.out B2.out.size hb3)
  clear hb3 HT2 B2 hpx hpy
  have hcase : (s.size < t.size ∧ x < y ∧ ((x : Int) == (y : Int)) = false ∧ (s.toList == t.toList) = false) ∨
      (t.size < s.size ∧ ¬ x < y ∧ ((x : Int) == (y : Int)) = false ∧ (s.toList == t.toList) = false) ∨
      (s.size ≤ t.size ∧ t.size ≤ s.size ∧ x < y ∧ Op.bytesLess s.toList t.toList = true ∧ ((x : Int) == (y : Int)) = false ∧ (s.toList == t.toList) = false) ∨
      (s.size ≤ t.size ∧ t.size ≤ s.size ∧ ¬ x < y ∧ Op.bytesLess s.toList t.toList = false ∧ ((x : Int) == (y : Int)) = false ∧ (s.toList == t.toList) = false) ∨
      (s.size ≤ t.size ∧ t.size ≤ s.size ∧ ¬ x < y ∧ Op.bytesLess s.toList t.toList = false ∧ ((x : Int) == (y : Int)) = true ∧ (s.toList == t.toList) = true) := by
    have ho := HO.out
    have hneq : ∀ h : x ≠ y, ((x : Int) == (y : Int)) = false ∧ (s.toList == t.toList) = false := fun h =>
      ⟨beq_eq_false_iff_ne.2 (by omega), beq_eq_false_iff_ne.2 fun e => h (HI.out e)⟩
    rcases Nat.lt_trichotomy s.size t.size with h | h | h
    · have hx : x < y := by
        rw [decide_eq_true h, Bool.true_or] at ho
        exact of_decide_eq_true ho
      obtain ⟨h1, h2⟩ := hneq (by omega)
      exact .inl ⟨h, hx, h1, h2⟩
    · rw [decide_eq_false (show ¬ s.size < t.size by omega), decide_eq_true h, Bool.true_and, Bool.false_or] at ho
      by_cases hlt : x < y
      · rw [decide_eq_true hlt] at ho
        obtain ⟨h1, h2⟩ := hneq (by omega)
        exact .inr (.inr (.inl ⟨by omega, by omega, hlt, ho.symm, h1, h2⟩))
      · rw [decide_eq_false hlt] at ho
        by_cases he : x = y
        · exact .inr (.inr (.inr (.inr ⟨by omega, by omega, hlt, ho.symm, by rw [he]; simp, by rw [HE.out he]; simp⟩)))
        · obtain ⟨h1, h2⟩ := hneq he
          exact .inr (.inr (.inr (.inl ⟨by omega, by omega, hlt, ho.symm, h1, h2⟩)))
    · have hx : ¬ x < y := by
        rw [decide_eq_false (show ¬ s.size < t.size by omega), decide_eq_false (show ¬ s.size = t.size by omega), Bool.false_and, Bool.false_or] at ho
        exact of_decide_eq_false ho
      have hne : x ≠ y := fun e => by have := HE.out e; rw [this] at h; omega
      obtain ⟨h1, h2⟩ := hneq hne
      exact .inr (.inl ⟨h, hx, h1, h2⟩)
  have h19 : s.size ≤ 19 := H19.out
  clear HO HI HE H19
  rcases hcase with ⟨ha, hb, hc, hd⟩ | ⟨ha, hb, hc, hd⟩ | ⟨ha, ha2, hb, hb2, hc, hd⟩ | ⟨ha, ha2, hb, hb2, hc, hd⟩ | ⟨ha, ha2, hb, hb2, hc, hd⟩
  all_goals
    go_wp2_with (go_at_call 12; refine (text_nat hx9 HT3.out HS.out).mono ?_; rintro e w4 ⟨rfl, hb4⟩)
    go_ret
    exact ⟨Qt.ret_bool (by simp; omega), Qt.more B3.out B3.out.size hb4⟩

end Go.Proofs.YtkmcleekiienmaaDoor
