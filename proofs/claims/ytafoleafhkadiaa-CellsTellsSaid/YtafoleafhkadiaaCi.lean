/-
  The library's binary search at places.
-/
import Derived.Test.YtafoleafhkadiaaCh
namespace Go.Proofs.Ytafoleafhkadiaa
open Go.RowKit Go.Sort

/-- where a cell stands, or would stand, in a list that rises -/
structure Stands (l : List (Int × Int)) (t : Int × Int) (i : Nat) : Prop where
  le : i ≤ l.length
  low : ∀ j, j < i → lessB (l.getD j (0, 0)) t = true
  high : ∀ j, i ≤ j → j < l.length → lessB (l.getD j (0, 0)) t = false

def FoundAt (l : List (Int × Int)) (t : Int × Int) (w : World) (e : Ending) (w' : World) : Prop :=
  ∃ i, Stands l t i ∧ e = .returned (.tuple #[.int .i64 (i : Nat), .bool (decide (i < l.length ∧ l.getD i (0, 0) = t))]) ∧ Below w.heap.size w w'

theorem rises_get {l : List (Int × Int)} (h : Rises l) {i j : Nat} (hij : i < j) (hj : j < l.length) : lessB (l.getD i (0, 0)) (l.getD j (0, 0)) = true := by
  have := List.pairwise_iff_getElem.1 h i j (by omega) hj hij
  rw [List.getD_eq_getElem?_getD, List.getD_eq_getElem?_getD, List.getElem?_eq_getElem (by omega), List.getElem?_eq_getElem hj]
  exact this

set_option maxHeartbeats 2000000 in
theorem search_any (g : Nat) (l : List (Int × Int)) (cap : Nat) (t : Int × Int) (w : World) {B : Nat} (hR : Row w B 62 g l.length cap l) (hl : l.length ≤ 1000000) (hs : Rises l) :
    Calls Try.prog 47 #[.slice (some ⟨g, 0, none⟩) l.length cap, .agg #[.int .i64 t.1, .int .i64 t.2], .func (.func 42) #[] #[]] w (FoundAt l t w) := by
  obtain ⟨tx, ty⟩ := t
  have HS := Lib.hid hs
  have HR := Lib.hid hR
  have hcap := hR.cap_
  have hg := hR.lt
  clear hs hR
  go_enter Try.func47, Try.ntmps47
  go_wp2
  go_loopw [9, 10] (fun si sj wr => ∃ i j : Nat, si = .int .i64 i ∧ sj = .int .i64 j ∧ i ≤ j ∧ j ≤ l.length ∧ Hid (∀ k, k < i → lessB (l.getD k (0, 0)) (tx, ty) = true) ∧ Hid (∀ k, j ≤ k → k < l.length → lessB (l.getD k (0, 0)) (tx, ty) = false) ∧
      wr.cell? ⟨w.heap.size, 0, none⟩ = some (.int .i64 tx) ∧ wr.cell? ⟨w.heap.size, 1, none⟩ = some (.int .i64 ty) ∧ Below w.heap.size w wr) (fun si sj _ => (intOf sj).toNat - (intOf si).toNat)
  case atStart => exact ⟨0, l.length, rfl, rfl, Nat.zero_le _, Nat.le_refl _, fun k hk => absurd hk (Nat.not_lt_zero k), fun k h1 h2 => absurd h2 (by omega), by simp, by simp, (Below.refl _ _).alloc (Nat.le_refl _) _⟩
  case round =>
    obtain ⟨i, j, rfl, rfl, hij, hj, HLO, HHI, hq0, hq1, hb⟩ := hrel
    by_cases hlt : i < j
    · have hltz : (i : Int) < (j : Int) := by omega
      obtain ⟨h, hh⟩ : ∃ h : Nat, h = (i + j) / 2 := ⟨_, rfl⟩
      have hh1 : i ≤ h := by omega
      have hh2 : h < j := by omega
      have HH := Lib.hid hh
      clear hh
      have hsum : (i : Int) + (j : Int) ≤ 2000000 := by omega
      have hz : ((i : Int) + (j : Int)) / 2 = (h : Int) := by have := HH.out; omega
      have HZ := Lib.hid hz
      clear hz
      have hhz : (h : Int) < (l.length : Int) := by omega
      have hrb := HR.out.below ((Below.refl _ w).alloc (Nat.le_refl _) (.cells #[.int .i64 tx, .int .i64 ty] 62))
      obtain ⟨⟨x0, x1⟩, hx⟩ : ∃ p, p = l.getD h (0, 0) := ⟨_, rfl⟩
      obtain ⟨c0, c1⟩ := HR.out.cell (j := h) (by omega)
      rw [← hx] at c0 c1
      simp only at c0 c1
      have c0 := Qt.keep hb c0
      have c1 := Qt.keep hb c1
      have HX := Lib.hid hx
      clear hx hrb
      go_wp2
      rw [HZ.out]
      have k0 := Qt.cell_in c0
      have k1 := Qt.cell_in c1
      have k2 := Qt.cell_in hq0
      have k3 := Qt.cell_in hq1
      by_cases hcm : cmpP (x0, x1) (tx, ty) < 0
      · refine Qt.below_all (by kernel_rfl) (by kernel_rfl) ?_
        repeat (go_big_quiet_step (first | (go_at_call 42; exact Qt.at_call (compare_any (x0, x1) (tx, ty)))))
        refine wpQuiet_nil ?_
        intro w1 hb1
        go_wp2
        go_roundw
        case measure => simp [intOf]; omega
        case rel =>
          refine ⟨h + 1, j, by go_num, rfl, by omega, hj, (show Hid _ from fun k hk => ?_), HHI.out, Qt.keep hb1 hq0, Qt.keep hb1 hq1, Qt.more hb hb.size hb1⟩
          have hxt : lessB (x0, x1) (tx, ty) = true := (cmpP_neg _ _).1 hcm
          by_cases hkh : k = h
          · subst hkh; rw [← HX.out]; exact hxt
          · exact lessB_trans (rises_get HS.out (i := k) (j := h) (by omega) (by omega)) (by rw [← HX.out]; exact hxt)
      · refine Qt.below_all (by kernel_rfl) (by kernel_rfl) ?_
        repeat (go_big_quiet_step (first | (go_at_call 42; exact Qt.at_call (compare_any (x0, x1) (tx, ty)))))
        refine wpQuiet_nil ?_
        intro w1 hb1
        go_wp2
        go_roundw
        case measure => simp [intOf]; omega
        case rel =>
          refine ⟨i, h, rfl, rfl, by omega, by omega, HLO.out, (show Hid _ from fun k hk1 hk2 => ?_), Qt.keep hb1 hq0, Qt.keep hb1 hq1, Qt.more hb hb.size hb1⟩
          have hxt : ¬ lessB (x0, x1) (tx, ty) = true := fun e => hcm ((cmpP_neg _ _).2 e)
          rw [Bool.eq_false_iff]
          intro e
          by_cases hkh : k = h
          · subst hkh; rw [← HX.out] at e; exact hxt e
          · have h3 := rises_get HS.out (i := h) (j := k) (by omega) hk2
            rw [← HX.out] at h3
            exact hxt (lessB_trans h3 e)
    · have hltz : ¬ (i : Int) < (j : Int) := by omega
      have hije : i = j := by omega
      have HST : Hid (Stands l (tx, ty) i) := ⟨by omega, HLO.out, fun k h1 h2 => HHI.out k (by omega) h2⟩
      have k2 := Qt.cell_in hq0
      have k3 := Qt.cell_in hq1
      by_cases hin : i < l.length
      · have hinz : (i : Int) < (l.length : Int) := by omega
        obtain ⟨⟨x0, x1⟩, hx⟩ : ∃ p, p = l.getD i (0, 0) := ⟨_, rfl⟩
        obtain ⟨c0, c1⟩ := HR.out.cell (j := i) hin
        rw [← hx] at c0 c1
        simp only at c0 c1
        have c0 := Qt.keep hb c0
        have c1 := Qt.keep hb c1
        have k0 := Qt.cell_in c0
        have k1 := Qt.cell_in c1
        have HX := Lib.hid hx
        have hd : decide (i < l.length) = true := by simpa using hin
        clear hx hije
        go_wp2
        refine Qt.below_all (by kernel_rfl) (by kernel_rfl) ?_
        repeat (go_big_quiet_step (first | (go_at_call 42; exact Qt.at_call (compare_any (x0, x1) (tx, ty)))))
        refine wpQuiet_nil ?_
        intro w1 hb1
        go_wp2
        go_ret2
        refine ⟨i, HST.out, ?_, Qt.more hb hb.size hb1⟩
        have hB : decide (i < l.length ∧ l.getD i (0, 0) = (tx, ty)) = (cmpP (x0, x1) (tx, ty) == 0) := by
          rw [← HX.out, Bool.eq_iff_iff, decide_eq_true_eq, beq_iff_eq, cmpP_zero]
          exact ⟨fun h => h.2, fun h => ⟨hin, h⟩⟩
        rw [hB]
        rfl
      · have hinz : ¬ (i : Int) < (l.length : Int) := by omega
        have hd : decide (i < l.length) = false := by simpa using hin
        clear hije
        go_wp2
        refine Qt.below_all (by kernel_rfl) (by kernel_rfl) ?_
        repeat (go_big_quiet_step (fail))
        refine wpQuiet_nil ?_
        intro w1 hb1
        go_wp2
        go_ret2
        refine ⟨i, HST.out, ?_, Qt.more hb hb.size hb1⟩
        have : (decide (i < l.length ∧ l.getD i (0, 0) = (tx, ty))) = false := by simp; omega
        rw [this]
        rfl

end Go.Proofs.Ytafoleafhkadiaa
