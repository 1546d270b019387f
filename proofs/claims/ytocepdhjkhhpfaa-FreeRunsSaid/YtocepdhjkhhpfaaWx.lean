/-
  Contracts of gosperref12: what a number tells, what a worker does next, and what it is then.
-/
import Derived.Test.YtocepdhjkhhpfaaB06
namespace Go.Proofs.Ytocepdhjkhhpfaa
set_option maxRecDepth 100000
set_option linter.unusedVariables false
set_option linter.unusedSimpArgs false
open Go.RowKit Go.Sort

theorem refH_any (n : Int) (w : World) : Calls Try.prog 53 #[.int .i64 n] w fun r w' => r = .returned (.int .i64 (hdH n)) ∧ w = w' := by
  unfold hdH
  by_cases h : n < 0
  · rw [if_pos h]
    go_enter Try.func53, Try.ntmps53
    go_wp2
    go_ret
    exact ⟨rfl, rfl⟩
  · rw [if_neg h]
    have e2 : Int.tmod n 1048576 = n % 1048576 := Int.tmod_eq_emod_of_nonneg (by omega)
    go_enter Try.func53, Try.ntmps53
    go_wp2
    go_ret
    exact ⟨by rw [← e2]; rfl, rfl⟩
theorem refC_any (n : Int) (w : World) (hn : I64 n) : Calls Try.prog 91 #[.int .i64 n] w fun r w' => r = .returned (.int .i64 (hdC n)) ∧ w = w' := by
  unfold hdC
  obtain ⟨h1, h2⟩ := hn
  by_cases h : n < 0
  · rw [if_pos h]
    go_enter Try.func91, Try.ntmps91
    go_wp2
    go_ret
    exact ⟨rfl, rfl⟩
  · rw [if_neg h]
    have e1 : Int.tdiv n 1048576 = n / 1048576 := Int.tdiv_eq_ediv_of_nonneg (by omega)
    have e3 : wrap64 (n / 1048576) = n / 1048576 := by unfold wrap64; omega
    go_enter Try.func91, Try.ntmps91
    go_wp2
    go_ret
    exact ⟨by first | rfl | (rw [← e1] at *; simp [e3]), rfl⟩
set_option maxHeartbeats 8000000 in
theorem refAccess_any (w0 : Wk) (at0 : Int) (w : World) (hf : FineW w0) (ha1 : 0 ≤ at0) (ha2 : at0 ≤ 1099511627776) :
    Calls Try.prog 64 #[.int .i64 at0, wkV w0] w (ValR (acV (accW at0 w0)) w) := by
  obtain ⟨q, hq, hj, hp⟩ := stage_of hf
  have hfr0 := hf.r0
  have hfr1 := hf.r1
  have hfr2 := hf.r2
  have hdn := hf.done
  have hH := fun W => refH_any w0.r1 W
  have hC := fun W => refC_any w0.r1 W hfr1.i64
  have hb := hdH_bd w0.r1
  have hb2 := hdC_bd hfr1.2
  unfold accW
  rw [hj, hp]
  clear hf
  obtain ⟨pc, job, r0, r1, r2, dn, out⟩ := w0
  simp only at hj hp hfr0 hfr1 hfr2 hdn hH hC hb hb2 ⊢
  subst hj hp hdn
  obtain ⟨h, hh⟩ : ∃ h, h = hdH r1 := ⟨_, rfl⟩
  obtain ⟨c, hc⟩ : ∃ c, c = hdC r1 := ⟨_, rfl⟩
  rw [← hh] at hH hb
  rw [← hc] at hC hb2
  try rw [← hh]
  try rw [← hc]
  obtain ⟨z1, z2⟩ := hfr0
  obtain ⟨z3, z4⟩ := hfr1
  obtain ⟨z5, z6⟩ := hfr2
  clear hh hc
  rcases (show q = 0 ∨ q = 1 ∨ q = 2 ∨ q = 3 ∨ q = 4 ∨ q = 5 by omega) with rfl | rfl | rfl | rfl | rfl | rfl
  all_goals simp only [jobN, pcN]
  · show Calls _ _ _ _ (ValR (acV (1, at0, 0, 0)) w)
    go_enter Try.func64, Try.ntmps64
    go_wp2_with fail
    refine (hH _).mono ?_
    rintro e w1 ⟨rfl, rfl⟩
    go_wp2_with fail
    refine (hC _).mono ?_
    rintro e w1 ⟨rfl, rfl⟩
    clear hH hC
    go_wp2_with fail
    exact bodyPost_ret (results_cellW rfl _ _ (w.heap.size + 1) _ _ _ _ rfl (fresh2 _ _ _) Try.underlying102 rfl (by kernel_rfl)) rfl ⟨rfl, below2 _ _ _⟩
  · show Calls _ _ _ _ (ValR (acV (1, at0 + h, 0, 0)) w)
    go_enter Try.func64, Try.ntmps64
    go_wp2_with fail
    refine (hH _).mono ?_
    rintro e w1 ⟨rfl, rfl⟩
    go_wp2_with fail
    refine (hC _).mono ?_
    rintro e w1 ⟨rfl, rfl⟩
    clear hH hC
    go_wp2_with fail
    exact bodyPost_ret (results_cellW rfl _ _ (w.heap.size + 1) _ _ _ _ rfl (fresh2 _ _ _) Try.underlying102 rfl (by kernel_rfl)) rfl ⟨rfl, below2 _ _ _⟩
  · show Calls _ _ _ _ (ValR (acV (3, at0, r1, (c + 1) * 1048576 + r2)) w)
    go_enter Try.func64, Try.ntmps64
    go_wp2_with fail
    refine (hH _).mono ?_
    rintro e w1 ⟨rfl, rfl⟩
    go_wp2_with fail
    refine (hC _).mono ?_
    rintro e w1 ⟨rfl, rfl⟩
    clear hH hC
    go_wp2_with fail
    exact bodyPost_ret (results_cellW rfl _ _ (w.heap.size + 1) _ _ _ _ rfl (fresh2 _ _ _) Try.underlying102 rfl (by kernel_rfl)) rfl ⟨rfl, below2 _ _ _⟩
  · show Calls _ _ _ _ (ValR (acV (1, at0, 0, 0)) w)
    go_enter Try.func64, Try.ntmps64
    go_wp2_with fail
    refine (hH _).mono ?_
    rintro e w1 ⟨rfl, rfl⟩
    go_wp2_with fail
    refine (hC _).mono ?_
    rintro e w1 ⟨rfl, rfl⟩
    clear hH hC
    go_wp2_with fail
    exact bodyPost_ret (results_cellW rfl _ _ (w.heap.size + 1) _ _ _ _ rfl (fresh2 _ _ _) Try.underlying102 rfl (by kernel_rfl)) rfl ⟨rfl, below2 _ _ _⟩
  · show Calls _ _ _ _ (ValR (acV (2, at0 + 1 + r0, 0, h)) w)
    go_enter Try.func64, Try.ntmps64
    go_wp2_with fail
    refine (hH _).mono ?_
    rintro e w1 ⟨rfl, rfl⟩
    go_wp2_with fail
    refine (hC _).mono ?_
    rintro e w1 ⟨rfl, rfl⟩
    clear hH hC
    go_wp2_with fail
    exact bodyPost_ret (results_cellW rfl _ _ (w.heap.size + 1) _ _ _ _ rfl (fresh2 _ _ _) Try.underlying102 rfl (by kernel_rfl)) rfl ⟨rfl, below2 _ _ _⟩
  · show Calls _ _ _ _ (ValR (acV (3, at0, r1, (c + 1) * 1048576 + (r0 + 1))) w)
    go_enter Try.func64, Try.ntmps64
    go_wp2_with fail
    refine (hH _).mono ?_
    rintro e w1 ⟨rfl, rfl⟩
    go_wp2_with fail
    refine (hC _).mono ?_
    rintro e w1 ⟨rfl, rfl⟩
    clear hH hC
    go_wp2_with fail
    exact bodyPost_ret (results_cellW rfl _ _ (w.heap.size + 1) _ _ _ _ rfl (fresh2 _ _ _) Try.underlying102 rfl (by kernel_rfl)) rfl ⟨by rw [Int.add_assoc], below2 _ _ _⟩
set_option maxHeartbeats 8000000 in
theorem refBehind_any (w0 : Wk) (x : Int) (b : Bool) (w : World) (hf : FineW w0) (hx : I64 x) :
    Calls Try.prog 65 #[wkV w0, .int .i64 x, .bool b] w (ValR (wkV (behW w0 x b)) w) := by
  obtain ⟨q, hq, hj, hp⟩ := stage_of hf
  have hdn := hf.done
  have hX := fun W => refH_any x W
  have hH := fun W => refH_any w0.r1 W
  have hb := hdH_bd w0.r1
  unfold behW
  rw [hj, hp]
  clear hf hx
  obtain ⟨pc, job, r0, r1, r2, dn, out⟩ := w0
  simp only at hj hp hdn hH hb ⊢
  subst hj hp hdn
  obtain ⟨h, hh⟩ : ∃ h, h = hdH r1 := ⟨_, rfl⟩
  obtain ⟨y, hy⟩ : ∃ y, y = hdH x := ⟨_, rfl⟩
  rw [← hh] at hH hb
  rw [← hy] at hX
  try rw [← hh]
  try rw [← hy]
  clear hh hy
  rcases (show q = 0 ∨ q = 1 ∨ q = 2 ∨ q = 3 ∨ q = 4 ∨ q = 5 by omega) with rfl | rfl | rfl | rfl | rfl | rfl
  all_goals simp only [jobN, pcN]
  · by_cases hz : y = 0
    · subst hz
      show Calls _ _ _ _ (ValR (wkV ⟨0, 1, r0, x, r2, true, (-1)⟩) w)
      go_enter Try.func65, Try.ntmps65
      go_wp2_with fail
      refine (hX _).mono ?_
      rintro e w1 ⟨rfl, rfl⟩
      go_wp2_with fail
      exact bodyPost_ret (results_cellW rfl _ _ (w.heap.size + 1) _ _ _ _ rfl (fresh2 _ _ _) Try.underlying39 rfl (by kernel_rfl)) rfl ⟨rfl, below2 _ _ _⟩
    · have h1 : (y == 0) = false := beq_eq_false_iff_ne.2 hz
      rw [if_pos trivial, if_neg (by rintro ⟨_, h2⟩; exact hz h2)]
      show Calls _ _ _ _ (ValR (wkV ⟨1, 1, r0, x, r2, false, out⟩) w)
      go_enter Try.func65, Try.ntmps65
      go_wp2_with fail
      refine (hX _).mono ?_
      rintro e w1 ⟨rfl, rfl⟩
      go_wp2_with fail
      exact bodyPost_ret (results_cellW rfl _ _ (w.heap.size + 1) _ _ _ _ rfl (fresh2 _ _ _) Try.underlying39 rfl (by kernel_rfl)) rfl ⟨rfl, below2 _ _ _⟩
  · skip
    show Calls _ _ _ _ (ValR (wkV ⟨2, 1, r0, r1, x, false, out⟩) w)
    go_enter Try.func65, Try.ntmps65
    go_wp2_with fail
    exact bodyPost_ret (results_cellW rfl _ _ (w.heap.size + 1) _ _ _ _ rfl (fresh2 _ _ _) Try.underlying39 rfl (by kernel_rfl)) rfl ⟨rfl, below2 _ _ _⟩
  · cases b with
    | false =>
      show Calls _ _ _ _ (ValR (wkV ⟨0, 1, r0, r1, r2, false, out⟩) w)
      go_enter Try.func65, Try.ntmps65
      go_wp2_with fail
      exact bodyPost_ret (results_cellW rfl _ _ (w.heap.size + 1) _ _ _ _ rfl (fresh2 _ _ _) Try.underlying39 rfl (by kernel_rfl)) rfl ⟨rfl, below2 _ _ _⟩
    | true =>
      show Calls _ _ _ _ (ValR (wkV ⟨2, 1, r0, r1, r2, true, (h - 1)⟩) w)
      go_enter Try.func65, Try.ntmps65
      go_wp2_with fail
      refine (hH _).mono ?_
      rintro e w1 ⟨rfl, rfl⟩
      go_wp2_with fail
      exact bodyPost_ret (results_cellW rfl _ _ (w.heap.size + 1) _ _ _ _ rfl (fresh2 _ _ _) Try.underlying39 rfl (by kernel_rfl)) rfl ⟨rfl, below2 _ _ _⟩
  · skip
    rw [if_pos trivial, if_neg (by rintro ⟨h2, _⟩; exact absurd h2 (by decide))]
    show Calls _ _ _ _ (ValR (wkV ⟨1, 2, r0, x, r2, false, out⟩) w)
    go_enter Try.func65, Try.ntmps65
    go_wp2_with fail
    exact bodyPost_ret (results_cellW rfl _ _ (w.heap.size + 1) _ _ _ _ rfl (fresh2 _ _ _) Try.underlying39 rfl (by kernel_rfl)) rfl ⟨rfl, below2 _ _ _⟩
  · skip
    show Calls _ _ _ _ (ValR (wkV ⟨2, 2, r0, r1, r2, false, out⟩) w)
    go_enter Try.func65, Try.ntmps65
    go_wp2_with fail
    exact bodyPost_ret (results_cellW rfl _ _ (w.heap.size + 1) _ _ _ _ rfl (fresh2 _ _ _) Try.underlying39 rfl (by kernel_rfl)) rfl ⟨rfl, below2 _ _ _⟩
  · cases b with
    | false =>
      show Calls _ _ _ _ (ValR (wkV ⟨0, 2, r0, r1, r2, false, out⟩) w)
      go_enter Try.func65, Try.ntmps65
      go_wp2_with fail
      exact bodyPost_ret (results_cellW rfl _ _ (w.heap.size + 1) _ _ _ _ rfl (fresh2 _ _ _) Try.underlying39 rfl (by kernel_rfl)) rfl ⟨rfl, below2 _ _ _⟩
    | true =>
      show Calls _ _ _ _ (ValR (wkV ⟨2, 2, r0, r1, r2, true, r0⟩) w)
      go_enter Try.func65, Try.ntmps65
      go_wp2_with fail
      exact bodyPost_ret (results_cellW rfl _ _ (w.heap.size + 1) _ _ _ _ rfl (fresh2 _ _ _) Try.underlying39 rfl (by kernel_rfl)) rfl ⟨rfl, below2 _ _ _⟩
end Go.Proofs.Ytocepdhjkhhpfaa
