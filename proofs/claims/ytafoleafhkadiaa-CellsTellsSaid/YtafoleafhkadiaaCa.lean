/-
  Contracts of the small functions of layer 1: comparison of places, bounds, the laws' own pick.
-/
import Derived.Test.YtafoleafhkadiaaProg
import Derived.WalkKit
import Derived.WalkSpells
import Derived.WalkLawsBesides
import Derived.Lib.QuietBelow
import Derived.Lib.Hide
import Derived.BigQuiet
import Derived.StillTailTactics
import Derived.LoopN
import Derived.Handy
import Derived.Test.YtafoleafhkadiaaQt
import Derived.Test.YtafoleafhkadiaaCm
namespace Go.Proofs.Ytafoleafhkadiaa
open Go.RowKit Go.Sort


theorem isNaN_any (x : Int) (w : World) : Calls Try.prog 73 #[.int .i64 x] w fun e w' => e = .returned (.bool false) ∧ w = w' := by
  go_enter Try.func73, Try.ntmps73
  go_wp2
  all_goals go_ret
  all_goals exact ⟨by simp, rfl⟩

set_option maxHeartbeats 400000 in
theorem cmp_any (x y : Int) (w : World) : Calls Try.prog 59 #[.int .i64 x, .int .i64 y] w fun e w' => e = .returned (.int .i64 (cmpI x y)) ∧ w = w' := by
  rcases Int.lt_trichotomy x y with h | h | h
  · have e : cmpI x y = -1 := by unfold cmpI; rw [if_pos h]
    rw [e]; clear e
    go_enter Try.func59, Try.ntmps59
    go_wp2_with (go_at_call 73; refine (isNaN_any _ _).mono ?_; rintro e w' ⟨rfl, rfl⟩)
    go_ret
    exact ⟨rfl, rfl⟩
  · subst h
    have e : cmpI x x = 0 := by unfold cmpI; simp
    rw [e]; clear e
    go_enter Try.func59, Try.ntmps59
    go_wp2_with (go_at_call 73; refine (isNaN_any _ _).mono ?_; rintro e w' ⟨rfl, rfl⟩)
    go_ret
    exact ⟨rfl, rfl⟩
  · have e : cmpI x y = 1 := by unfold cmpI; rw [if_neg (by omega), if_pos h]
    rw [e]; clear e
    have h' : ¬ x < y := by omega
    go_enter Try.func59, Try.ntmps59
    go_wp2_with (go_at_call 73; refine (isNaN_any _ _).mono ?_; rintro e w' ⟨rfl, rfl⟩)
    go_ret
    exact ⟨rfl, rfl⟩

/-! ### cmp.Or, the method compare -/

theorem or_any (a b : Int) (w : World) (B : Nat) (h0 : w.cell? ⟨B, 0, none⟩ = some (.int .i64 a)) (h1 : w.cell? ⟨B, 1, none⟩ = some (.int .i64 b)) :
    Calls Try.prog 58 #[.slice (some ⟨B, 0, none⟩) 2 2] w fun e w' => e = .returned (.int .i64 (orI a b)) ∧ w = w' := by
  by_cases ha : a = 0
  · subst ha
    by_cases hb : b = 0
    · subst hb
      have e : orI 0 0 = 0 := by decide
      rw [e]; clear e
      go_enter Try.func58, Try.ntmps58
      go_wp2
      go_rounds 3
      all_goals go_ret
      all_goals exact ⟨rfl, rfl⟩
    · have e : orI 0 b = b := by unfold orI; simp
      rw [e]; clear e
      have hb' : (b == 0) = false := by simpa using hb
      have hb2 : (b != 0) = true := by simpa using hb
      clear hb
      go_enter Try.func58, Try.ntmps58
      go_wp2
      go_rounds 3
      all_goals go_ret
      all_goals exact ⟨rfl, rfl⟩
  · have e : orI a b = a := by unfold orI; simp [ha]
    rw [e]; clear e
    have ha' : (a == 0) = false := by simpa using ha
    have ha2 : (a != 0) = true := by simpa using ha
    clear ha
    go_enter Try.func58, Try.ntmps58
    go_wp2
    go_rounds 3
    all_goals go_ret
    all_goals exact ⟨rfl, rfl⟩


set_option maxHeartbeats 400000 in
theorem compare_any (p q : Int × Int) (w : World) :
    Calls Try.prog 42 #[.agg #[.int .i64 p.1, .int .i64 p.2], .agg #[.int .i64 q.1, .int .i64 q.2]] w fun e w' => e = .returned (.int .i64 (cmpP p q)) ∧ Below w.heap.size w w' := by
  obtain ⟨a, b⟩ := p
  obtain ⟨c, d⟩ := q
  simp only [cmpP]
  have hB : Below w.heap.size w ((w.alloc (.cells #[.int .i64 a, .int .i64 b] 62)).alloc (.cells #[.int .i64 c, .int .i64 d] 62)) := ((Below.refl _ _).alloc (Nat.le_refl _) _).alloc (by simp) _
  have k0 := cell_regrown (w := (w.alloc (.cells #[.int .i64 a, .int .i64 b] 62)).alloc (.cells #[.int .i64 c, .int .i64 d] 62)) (a := ⟨w.heap.size, 0, none⟩) (v := .int .i64 a) (by simp)
  have k1 := cell_regrown (w := (w.alloc (.cells #[.int .i64 a, .int .i64 b] 62)).alloc (.cells #[.int .i64 c, .int .i64 d] 62)) (a := ⟨w.heap.size, 1, none⟩) (v := .int .i64 b) (by simp)
  have k2 := cell_regrown (w := (w.alloc (.cells #[.int .i64 a, .int .i64 b] 62)).alloc (.cells #[.int .i64 c, .int .i64 d] 62)) (a := ⟨w.heap.size + 1, 0, none⟩) (v := .int .i64 c) (by simp)
  have k3 := cell_regrown (w := (w.alloc (.cells #[.int .i64 a, .int .i64 b] 62)).alloc (.cells #[.int .i64 c, .int .i64 d] 62)) (a := ⟨w.heap.size + 1, 1, none⟩) (v := .int .i64 d) (by simp)
  go_enter Try.func42, Try.ntmps42
  go_wp2
  refine Qt.below_tail 10 (by kernel_rfl) (by kernel_rfl) ?_
  generalize (w.alloc (.cells #[.int .i64 a, .int .i64 b] 62)).alloc (.cells #[.int .i64 c, .int .i64 d] 62) = W at *
  simp only [List.take_succ_cons, List.take_zero, List.drop_succ_cons, List.drop_zero]
  repeat (go_big_quiet_step (first | (go_at_call 59; exact Qt.at_same fun _ _ => cmp_any _ _ _)))
  refine wpQuiet_nil ?_
  intro w1 hb1
  go_wp2_with fail
  refine (or_any (cmpI b d) (cmpI a c) _ w1.heap.size (by simp) (by simp)).mono ?_
  rintro e w' ⟨rfl, rfl⟩
  go_wp2
  go_ret
  exact ⟨rfl, (hB.trans (hb1.mono hB.size)).alloc (Nat.le_trans hB.size hb1.size) _⟩

/-! ### bounds -/

theorem beyond_any (p : Int × Int) (w : World) :
    Calls Try.prog 39 #[.agg #[.int .i64 p.1, .int .i64 p.2]] w fun e w' => e = .returned (.bool (!inB p)) ∧ Below w.heap.size w w' := by
  obtain ⟨a, b⟩ := p
  generalize hr : inB (a, b) = r
  have HR := Lib.hid hr
  clear hr
  go_enter Try.func39, Try.ntmps39
  go_wp2
  all_goals go_ret
  all_goals refine ⟨?_, (Below.refl _ _).alloc (Nat.le_refl _) _⟩
  all_goals (refine Qt.ret_bool ?_; rw [← HR.out]; simp [inB]; omega)

theorem in_any (p : Int × Int) (w : World) :
    Calls Try.prog 45 #[.agg #[.int .i64 p.1, .int .i64 p.2]] w fun e w' => e = .returned (.bool (inB p)) ∧ Below w.heap.size w w' := by
  obtain ⟨a, b⟩ := p
  generalize hr : inB (a, b) = r
  have HR := Lib.hid hr
  clear hr
  go_enter Try.func45, Try.ntmps45
  go_wp2
  all_goals go_ret
  all_goals refine ⟨?_, (Below.refl _ _).alloc (Nat.le_refl _) _⟩
  all_goals (refine Qt.ret_bool ?_; rw [← HR.out]; simp [inB]; omega)


theorem less_any (p q : Int × Int) (w : World) :
    Calls Try.prog 46 #[.agg #[.int .i64 p.1, .int .i64 p.2], .agg #[.int .i64 q.1, .int .i64 q.2]] w fun e w' => e = .returned (.bool (lessB p q)) ∧ Below w.heap.size w w' := by
  obtain ⟨a, b⟩ := p
  obtain ⟨c, d⟩ := q
  generalize hr : lessB (a, b) (c, d) = r
  have HR := Lib.hid hr
  clear hr
  go_enter Try.func46, Try.ntmps46
  go_wp2
  all_goals go_ret
  all_goals refine ⟨?_, ((Below.refl _ _).alloc (Nat.le_refl _) _).alloc (by simp) _⟩
  all_goals (refine Qt.ret_bool ?_; rw [← HR.out]; simp [lessB] at *; omega)


theorem pick_any (c n : Int) (w : World) (h1 : -9223372036854775808 ≤ c) (h2 : c ≤ 9223372036854775807) (hn : 1 ≤ n) (hn2 : n ≤ 9223372036854775807) :
    Calls Try.prog 21 #[.int .i64 c, .int .i64 n] w fun e w' => e = .returned (.int .i64 (pickI c n)) ∧ w = w' := by
  generalize hr : pickI c n = r
  have HR := Lib.hid hr
  clear hr
  go_enter Try.func21, Try.ntmps21
  go_wp2
  all_goals go_ret
  all_goals refine ⟨?_, rfl⟩
  all_goals (refine Qt.ret_int ?_; rw [← HR.out]; unfold pickI)
  · rw [if_pos (by assumption), ← Int.neg_tmod, Int.tmod_eq_emod_of_nonneg (by omega)]
  · rw [if_neg (by omega)]

end Go.Proofs.Ytafoleafhkadiaa
