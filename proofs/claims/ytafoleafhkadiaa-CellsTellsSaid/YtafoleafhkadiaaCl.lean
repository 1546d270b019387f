/-
  Shift: a set elsewhere.
-/
import Derived.Test.YtafoleafhkadiaaCk
namespace Go.Proofs.Ytafoleafhkadiaa
open Go.RowKit Go.Sort

def shL (dx dy : Int) (l : List (Int × Int)) : List (Int × Int) := l.map fun c => (c.1 + dx, c.2 + dy)
theorem length_shL (dx dy : Int) (l : List (Int × Int)) : (shL dx dy l).length = l.length := List.length_map _
theorem getD_shL (dx dy : Int) (l : List (Int × Int)) {k : Nat} (hk : k < l.length) : (shL dx dy l).getD k (0, 0) = ((l.getD k (0, 0)).1 + dx, (l.getD k (0, 0)).2 + dy) := by
  rw [List.getD_eq_getElem?_getD, List.getD_eq_getElem?_getD, shL, List.getElem?_map, List.getElem?_eq_getElem hk]
  rfl

theorem inB_iff (p : Int × Int) : inB p = true ↔ -1099511627776 ≤ p.1 ∧ p.1 ≤ 1099511627776 ∧ -1099511627776 ≤ p.2 ∧ p.2 ≤ 1099511627776 := by simp [inB]

/-- What went round is not within bounds either. -/
theorem inB_wrap {x y dx dy : Int} (h : inB (x, y) = true) (hdx : -9223372036854775808 ≤ dx ∧ dx ≤ 9223372036854775807) (hdy : -9223372036854775808 ≤ dy ∧ dy ≤ 9223372036854775807) (hn : inB (x + dx, y + dy) = false) : inB (wrap64 (x + dx), wrap64 (y + dy)) = false := by
  rw [Bool.eq_false_iff] at hn ⊢
  intro h2
  apply hn
  rw [inB_iff] at h h2 ⊢
  simp only at h h2 ⊢
  unfold wrap64 at h2
  omega

theorem shift_bad (A : Option Addr) (l : List (Int × Int)) (c : Nat) (dx dy : Int) (w : World) (hR : Rd w w.heap.size A l) (hl : l.length ≤ 1000000) (hc : l.length ≤ c) (hr : rightB l = false) :
    Calls Try.prog 26 #[.slice A l.length c, .int .i64 dx, .int .i64 dy] w fun e w' => e = .returned (.tuple #[.slice none 0 0, .int .i64 1]) ∧ Below w.heap.size w w' := by
  have h := right_no hR hl hc hr
  clear hr
  go_enter Try.func26, Try.ntmps26
  go_wp2_with (go_at_call 17; refine h.mono ?_; rintro e w' ⟨rfl, hb1⟩)
  go_ret2
  exact ⟨rfl, hb1⟩

/-- The world behind Shift: the set elsewhere, or what is said of bounds. -/
def Shifted (l : List (Int × Int)) (dx dy : Int) (w : World) (e : Ending) (w' : World) : Prop :=
  Below w.heap.size w w' ∧ if (shL dx dy l).all inB = true then ∃ g, e = .returned (.tuple #[.slice (some ⟨g, 0, none⟩) l.length l.length, .int .i64 0]) ∧ Row w' w.heap.size 25 g l.length l.length (shL dx dy l)
    else e = .returned (.tuple #[.slice none 0 0, .int .i64 2])

set_option maxHeartbeats 1000000 in
theorem shift_any (A : Option Addr) (l : List (Int × Int)) (c : Nat) (dx dy : Int) (w : World) (hR : Rd w w.heap.size A l) (hl : l.length ≤ 1000000) (hc : l.length ≤ c) (hr : rightB l = true) (hin : ∀ p ∈ l, inB p = true)
    (hdx : -9223372036854775808 ≤ dx ∧ dx ≤ 9223372036854775807) (hdy : -9223372036854775808 ≤ dy ∧ dy ≤ 9223372036854775807) :
    Calls Try.prog 26 #[.slice A l.length c, .int .i64 dx, .int .i64 dy] w (Shifted l dx dy w) := by
  obtain ⟨i0, hi, hz0, hz1, hz2⟩ := info_parts infoCell
  have hmk : ∀ u : World, (Instr.makeSlice 23 (.int .i64 (l.length : Int)) (.int .i64 (l.length : Int))).run Try.prog u = .ok (.slice (some ⟨u.heap.size, 0, none⟩) l.length l.length) (u.alloc (.cells (madeCells #[.int .i64 0, .int .i64 0] (l.length * 2)) 25)) := fun u => by
    have h := run_make (P := Try.prog) u 23 25 i0 _ Try.underlying23 hi hz0 .i64 .i64 (l.length : Int) (l.length : Int) (by omega) (Int.le_refl _) (by rw [hz2]; omega) (by omega)
    simpa [hz1, Value.cells] using h
  have h := right_yes hR hl hc hr
  have HIN := Lib.hid hin
  have HDX := Lib.hid hdx
  have HDY := Lib.hid hdy
  clear hr hin hdx hdy
  go_enter Try.func26, Try.ntmps26
  go_wp2_with (go_at_call 17; refine h.mono ?_; rintro e w1 ⟨rfl, hb1⟩)
  clear hmk h
  have hlen := length_shL dx dy l
  have HLEN := Lib.hid hlen
  have HR1 := Lib.hid ((hR.below hb1 (Nat.le_refl _)).more hb1.size)
  clear hlen
  go_loopw [19] (fun i wr => ∃ k : Nat, k ≤ l.length ∧ i = .int .i64 k ∧ Aside (Row wr w1.heap.size 25 w1.heap.size l.length l.length (filled (shL dx dy l) k)) ∧ Below w1.heap.size w1 wr ∧ Hid (∀ j, j < k → inB ((shL dx dy l).getD j (0, 0)) = true)) (fun i _ => l.length - (intOf i).toNat)
  case atStart => exact ⟨0, Nat.zero_le _, rfl, (show Row _ _ _ _ _ _ _ by rw [filled_zero, HLEN.out]; exact Row.made w1 _ _ _ (Nat.le_refl _) hl), (Below.refl _ _).alloc (Nat.le_refl _) _, fun j hj => absurd hj (Nat.not_lt_zero j)⟩
  case round =>
    obtain ⟨k, hk, rfl, HR, hb, HK⟩ := hrel
    by_cases hlt : k < l.length
    · have hltz : (k : Int) < (l.length : Int) := by omega
      obtain ⟨b, off, rfl, hbB, hcell⟩ := HR1.out.at_ (by omega)
      obtain ⟨⟨x, y⟩, hxy⟩ : ∃ p, p = l.getD k (0, 0) := ⟨_, rfl⟩
      have a0 := (hcell k hlt).1
      have a1 := (hcell k hlt).2
      rw [← hxy] at a0 a1
      simp only at a0 a1
      have c0 := Qt.keep hb a0
      have c1 := Qt.keep hb a1
      have hixy : inB (x, y) = true := by rw [hxy]; exact HIN.out _ (getD_mem hlt)
      have hsh : (shL dx dy l).getD k (0, 0) = (x + dx, y + dy) := by rw [getD_shL dx dy l hlt, ← hxy]
      have HSH := Lib.hid hsh
      clear hxy hcell hsh
      obtain ⟨f0, f1, g0, g1⟩ := box_beside HR.out (.cells #[.int .i64 x, .int .i64 y] 25) hlt
      cases hii : inB (x + dx, y + dy) with
      | true =>
        have hbd := (inB_iff _).1 hii
        simp only at hbd
        obtain ⟨q1, q2, q3, q4⟩ := hbd
        have R := filled_on hb (by have := HR.out; rwa [show l.length = (shL dx dy l).length from HLEN.out.symm] at this) (by rw [HLEN.out]; exact hlt) HSH.out.symm (.cells #[.int .i64 x, .int .i64 y] 25)
        have RH := Lib.hid R
        clear R
        go_wp2_with (go_at_call 39; refine (beyond_no (x + dx, y + dy) hii _).mono ?_; rintro e w3 ⟨rfl, hb3⟩)
        go_roundw
        case measure => simp [intOf]; omega
        case rel =>
          refine ⟨k + 1, by omega, by go_num, ?_, Qt.more RH.out.2 RH.out.2.size hb3, (show Hid _ from fun j hj => ?_)⟩
          · have := RH.out.1.below hb3
            rw [HLEN.out] at this
            exact this
          · by_cases hjk : j = k
            · subst hjk; rw [HSH.out]; exact hii
            · exact HK.out j (by omega)
      | false =>
        have hw := inB_wrap hixy HDX.out HDY.out hii
        have hbx := (inB_iff _).1 hixy
        have hno : (shL dx dy l).all inB = false := by
          rw [List.all_eq_false]
          exact ⟨_, getD_mem (by rw [HLEN.out]; exact hlt), by rw [HSH.out, hii]; simp⟩
        have HNO := Lib.hid hno
        clear hno
        go_wp2_with (go_at_call 39; refine (beyond_yes (wrap64 (x + dx), wrap64 (y + dy)) hw _).mono ?_; rintro e w3 ⟨rfl, hb3⟩)
        go_ret2
        have hB : Below w1.heap.size w1 w3 := Qt.more (((hb.alloc hb.size (.cells #[.int .i64 x, .int .i64 y] 25)).setCell (p := ⟨w1.heap.size, k * 2, none⟩) (Nat.le_refl _) (.int .i64 (wrap64 (x + dx)))).setCell (p := ⟨w1.heap.size, k * 2 + 1, none⟩) (Nat.le_refl _) (.int .i64 (wrap64 (y + dy)))) (by have := hb.size; simp; omega) hb3
        refine ⟨Qt.more hb1 hb1.size hB, ?_⟩
        rw [HNO.out]
        simp
    · have hltz : ¬ (k : Int) < (l.length : Int) := by omega
      have hkl : k = l.length := by omega
      have hall : (shL dx dy l).all inB = true := by
        rw [List.all_eq_true]
        intro p hp
        obtain ⟨j, hj, rfl⟩ := List.getElem_of_mem hp
        have := HK.out j (by rw [hkl, ← HLEN.out]; exact hj)
        rwa [List.getD_eq_getElem?_getD, List.getElem?_eq_getElem hj] at this
      have HALL := Lib.hid hall
      have hrow : Row wr w1.heap.size 25 w1.heap.size l.length l.length (shL dx dy l) := by
        have := HR.out
        rw [hkl, ← HLEN.out, filled_all, HLEN.out] at this
        exact this
      have HROW := Lib.hid hrow
      clear hkl hall hrow
      go_wp2
      go_ret2
      refine ⟨Qt.more hb1 hb1.size hb, ?_⟩
      rw [HALL.out, if_pos rfl]
      refine ⟨w1.heap.size, rfl, HROW.out.1, ?_⟩
      have h2 := HROW.out.2
      have h3 := Own.mono (l := shL dx dy l) (v := .slice (some ⟨w1.heap.size, 0, none⟩) l.length l.length) (by unfold Own; rw [HLEN.out]; exact h2) hb1.size
      unfold Own at h3
      rw [HLEN.out] at h3
      exact h3

end Go.Proofs.Ytafoleafhkadiaa
