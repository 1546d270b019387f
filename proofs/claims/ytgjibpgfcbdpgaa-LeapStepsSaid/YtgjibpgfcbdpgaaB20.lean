/-
  Texts that the claims of this seat share, part 20.
-/
import Derived.Test.YtgjibpgfcbdpgaaB19
set_option linter.unusedVariables false
set_option linter.unusedSimpArgs false
namespace Go.Proofs.Ytgjibpgfcbdpgaa
set_option maxRecDepth 100000
set_option linter.unusedVariables false
set_option linter.unusedSimpArgs false
open Go.RowKit Go.Sort

/-- how many are alive in a grandchild -/
def popK (l : List Nd) (k i j : Nat) : Int := (l.getD (kidN l (kidN l k i) j) deadN).2.2
/-- all that a node stands for is in its middle -/
def DeadB (l : List Nd) (k n : Nat) : Prop := ∀ i, i < n → ∀ j, j < 4 → j + i ≠ 3 → popK l k i j = 0
instance (l : List Nd) (k n : Nat) : Decidable (DeadB l k n) := by unfold DeadB; infer_instance
/-- the kids' cells -/
theorem kids_cells {w : World} {q : Nat} {l : List Nd} {room : Int} (hr : Right6 l room) (hnd : ∀ j, j < l.length → NdAt w q (j * 6) (l.getD j deadN)) {k n : Nat} (h : Is l (k + 1) n) :
    w.cell? ⟨q, n * 6 + 1, none⟩ = some (.int .i64 (kidN l n 0 : Nat)) ∧ w.cell? ⟨q, n * 6 + 2, none⟩ = some (.int .i64 (kidN l n 1 : Nat)) ∧ w.cell? ⟨q, n * 6 + 3, none⟩ = some (.int .i64 (kidN l n 2 : Nat)) ∧ w.cell? ⟨q, n * 6 + 4, none⟩ = some (.int .i64 (kidN l n 3 : Nat)) := by
  obtain ⟨x0, x1, x2, x3, x4, x5⟩ := hnd n h.lt
  have k0 := kid_cast hr h (i := 0) (by decide)
  have k1 := kid_cast hr h (i := 1) (by decide)
  have k2 := kid_cast hr h (i := 2) (by decide)
  have k3 := kid_cast hr h (i := 3) (by decide)
  exact ⟨by rw [← k0]; exact x1, by rw [← k1]; exact x2, by rw [← k2]; exact x3, by rw [← k3]; exact x4⟩
set_option maxHeartbeats 8000000 in
theorem deadAbout_any (room : Int) (n0 g b mb : Nat) (l : List Nd) {k e : Nat} (hk : Is l (e + 2) k) (w : World) (hix : Ix n0 w g b l room) (hr : Right6 l room) :
    Calls Try.prog 68 #[makerL g mb, .int .i64 (k : Int)] w fun r w' => r = .returned (.bool (decide (DeadB l k 4))) ∧ Below w.heap.size w w' := by
  have hal := (Below.refl w.heap.size w).alloc (Nat.le_refl _) (.cells #[.pointer (some ⟨g, 0, none⟩), .map (some mb)] 76)
  have hM : ML (w.alloc (.cells #[.pointer (some ⟨g, 0, none⟩), .map (some mb)] 76)) w.heap.size g mb := heap_alloc_new w _
  obtain ⟨q, cap, g0, g1, hrd, hcap, hnd⟩ := ix_rd (hix.below hal) hr.two
  have m0 := hM.c0
  have m1 := hM.c1
  have HA := Lib.hid hal
  have h100 := hr.small
  obtain ⟨x1, x2, x3, x4⟩ := kids_cells hr hnd hk
  have hklt := hk.lt
  have hkz : (k : Int) < (l.length : Int) := by omega
  have HKI := Lib.hid (fun i (h : i < 4) => kid_is hr hk h)
  have HKJ := Lib.hid (fun i (h : i < 4) j (h2 : j < 4) => (kid_is hr (kid_is hr hk h) h2).lt)
  obtain ⟨D, hD⟩ : ∃ D, D = decide (DeadB l k 4) := ⟨_, rfl⟩
  rw [← hD]
  have HD := Lib.hid hD
  have HP := Lib.hid (show ∀ i j, popK l k i j = (l.getD (kidN l (kidN l k i) j) deadN).2.2 from fun _ _ => rfl)
  have HKC := Lib.hid (fun i (h : i < 4) => kids_cells hr hnd (kid_is hr hk h))
  have HND := Lib.hid hnd
  obtain ⟨p, hp⟩ : ∃ p : Nat → Nat, p = kidN l k := ⟨_, rfl⟩
  obtain ⟨P, hPP⟩ : ∃ P : Nat → Nat → Int, P = popK l k := ⟨_, rfl⟩
  have HDB := Lib.hid (show ∀ n, DeadB l k n ↔ ∀ i, i < n → ∀ j, j < 4 → j + i ≠ 3 → P i j = 0 by intro n; rw [hPP]; exact Iff.rfl)
  rw [← hp] at x1 x2 x3 x4 HKI HKJ HP HKC
  rw [← hPP] at HP
  clear hix hal hM hrd g1 hnd hr hD hp hPP hk
  go_enter Try.func68, Try.ntmps68
  go_wp2_with fail
  generalize (w.alloc (.cells #[.pointer (some ⟨g, 0, none⟩), .map (some mb)] 76)) = w0 at *
  clear x1 x2 x3 x4
  go_loopw [20] (fun u wr => ∃ i : Nat, i ≤ 4 ∧ u = .int .i64 i ∧ wr = w0 ∧ Hid (∀ i', i' < i → ∀ j, j < 4 → j + i' ≠ 3 → P i' j = 0)) (fun u _ => 4 - (intOf u).toNat)
  case atStart => exact ⟨0, by decide, rfl, rfl, (show Hid _ from fun i' h => absurd h (Nat.not_lt_zero _))⟩
  case round =>
    obtain ⟨i, hi, rfl, rfl, HH⟩ := hrel
    by_cases hi4 : i < 4
    · have hlt := (HKI.out i hi4).lt
      have hltz : (p i : Int) < (l.length : Int) := by omega
      obtain ⟨y1, y2, y3, y4⟩ := HKC.out i hi4
      obtain ⟨s, hs⟩ : ∃ s : Nat → Nat, s = kidN l (p i) := ⟨_, rfl⟩
      have HS := Lib.hid (fun j (h : j < 4) => HKJ.out i hi4 j h)
      have HPI := Lib.hid (fun j => HP.out i j)
      rw [← hs] at y1 y2 y3 y4 HS HPI
      clear hs
      rcases (by omega : i = 0 ∨ i = 1 ∨ i = 2 ∨ i = 3) with rfl | rfl | rfl | rfl
      · as_aux_lemma =>
        have ix : ∀ W, (Instr.index 33 (.agg #[.int .i64 ((p 0 : Nat) : Int), .int .i64 ((p 1 : Nat) : Int), .int .i64 ((p 2 : Nat) : Int), .int .i64 ((p 3 : Nat) : Int)]) (.int .i64 0)).run Try.prog W = .ok (.int .i64 ((p 0 : Nat) : Int)) W := fun W => kd_index (((p 0 : Nat) : Int), ((p 1 : Nat) : Int), ((p 2 : Nat) : Int), ((p 3 : Nat) : Int)) 0 (by decide) W
        have HJ := Lib.hid (And.intro (show ∀ W, (Instr.index 33 (.agg #[.int .i64 ((s 0 : Nat) : Int), .int .i64 ((s 1 : Nat) : Int), .int .i64 ((s 2 : Nat) : Int), .int .i64 ((s 3 : Nat) : Int)]) (.int .i64 0)).run Try.prog W = .ok (.int .i64 ((s 0 : Nat) : Int)) W from fun W => kd_index (((s 0 : Nat) : Int), ((s 1 : Nat) : Int), ((s 2 : Nat) : Int), ((s 3 : Nat) : Int)) 0 (by decide) W) (And.intro (show ∀ W, (Instr.index 33 (.agg #[.int .i64 ((s 0 : Nat) : Int), .int .i64 ((s 1 : Nat) : Int), .int .i64 ((s 2 : Nat) : Int), .int .i64 ((s 3 : Nat) : Int)]) (.int .i64 1)).run Try.prog W = .ok (.int .i64 ((s 1 : Nat) : Int)) W from fun W => kd_index (((s 0 : Nat) : Int), ((s 1 : Nat) : Int), ((s 2 : Nat) : Int), ((s 3 : Nat) : Int)) 1 (by decide) W) (And.intro (show ∀ W, (Instr.index 33 (.agg #[.int .i64 ((s 0 : Nat) : Int), .int .i64 ((s 1 : Nat) : Int), .int .i64 ((s 2 : Nat) : Int), .int .i64 ((s 3 : Nat) : Int)]) (.int .i64 2)).run Try.prog W = .ok (.int .i64 ((s 2 : Nat) : Int)) W from fun W => kd_index (((s 0 : Nat) : Int), ((s 1 : Nat) : Int), ((s 2 : Nat) : Int), ((s 3 : Nat) : Int)) 2 (by decide) W) (show ∀ W, (Instr.index 33 (.agg #[.int .i64 ((s 0 : Nat) : Int), .int .i64 ((s 1 : Nat) : Int), .int .i64 ((s 2 : Nat) : Int), .int .i64 ((s 3 : Nat) : Int)]) (.int .i64 3)).run Try.prog W = .ok (.int .i64 ((s 3 : Nat) : Int)) W from fun W => kd_index (((s 0 : Nat) : Int), ((s 1 : Nat) : Int), ((s 2 : Nat) : Int), ((s 3 : Nat) : Int)) 3 (by decide) W))))
        go_wp2_with fail
        clear y1 y2 y3 y4 ix
        go_loopw [35] (fun u wq => ∃ j : Nat, j ≤ 4 ∧ u = .int .i64 j ∧ wq = wr ∧ Hid (∀ j', j' < j → j' + 0 ≠ 3 → P 0 j' = 0)) (fun u _ => 4 - (intOf u).toNat)
        case atStart => exact ⟨0, by decide, rfl, rfl, (show Hid _ from fun j' h => absurd h (Nat.not_lt_zero _))⟩
        case round =>
          obtain ⟨j, hj, rfl, rfl, HQ⟩ := hrel
          by_cases hj4 : j < 4
          · rcases (by omega : j = 0 ∨ j = 1 ∨ j = 2 ∨ j = 3) with rfl | rfl | rfl | rfl
            · as_aux_lemma =>
              have jx := HJ.out.1
              clear HJ
              have hsl := HS.out 0 (by decide)
              have hsz : ((s 0 : Nat) : Int) < (l.length : Int) := by omega
              have z5 := (HND.out (s 0) hsl).2.2.2.2.2
              rw [← HPI.out 0] at z5
              obtain ⟨pj, hpj⟩ : ∃ x, x = P 0 0 := ⟨_, rfl⟩
              rw [← hpj] at z5
              have HPJ := Lib.hid hpj
              clear hpj
              by_cases h0 : pj = 0
              · subst h0
                go_wp2_with fail
                go_roundw
                case measure => decide
                case rel => exact ⟨1, by decide, by go_num, (by trivial), (show Hid _ from fun j' h hn => by rcases (by omega : j' < 0 ∨ j' = 0) with h2 | rfl; exact HQ.out j' h2 hn; exact HPJ.out.symm)⟩
              · have h0b : (pj != 0) = true := by rw [bne_iff_ne]; exact h0
                have HN0 := Lib.hid (show P 0 0 ≠ 0 by rw [← HPJ.out]; exact h0)
                go_wp2_with fail
                go_ret
                refine ⟨?_, HA.out⟩
                have hf : D = false := by rw [HD.out]; exact decide_eq_false fun h => HN0.out ((HDB.out 4).1 h 0 (by decide) 0 (by decide) (by decide))
                rw [hf] <;> rfl
            · as_aux_lemma =>
              have jx := HJ.out.2.1
              clear HJ
              have hsl := HS.out 1 (by decide)
              have hsz : ((s 1 : Nat) : Int) < (l.length : Int) := by omega
              have z5 := (HND.out (s 1) hsl).2.2.2.2.2
              rw [← HPI.out 1] at z5
              obtain ⟨pj, hpj⟩ : ∃ x, x = P 0 1 := ⟨_, rfl⟩
              rw [← hpj] at z5
              have HPJ := Lib.hid hpj
              clear hpj
              by_cases h0 : pj = 0
              · subst h0
                go_wp2_with fail
                go_roundw
                case measure => decide
                case rel => exact ⟨2, by decide, by go_num, (by trivial), (show Hid _ from fun j' h hn => by rcases (by omega : j' < 1 ∨ j' = 1) with h2 | rfl; exact HQ.out j' h2 hn; exact HPJ.out.symm)⟩
              · have h0b : (pj != 0) = true := by rw [bne_iff_ne]; exact h0
                have HN0 := Lib.hid (show P 0 1 ≠ 0 by rw [← HPJ.out]; exact h0)
                go_wp2_with fail
                go_ret
                refine ⟨?_, HA.out⟩
                have hf : D = false := by rw [HD.out]; exact decide_eq_false fun h => HN0.out ((HDB.out 4).1 h 0 (by decide) 1 (by decide) (by decide))
                rw [hf] <;> rfl
            · as_aux_lemma =>
              have jx := HJ.out.2.2.1
              clear HJ
              have hsl := HS.out 2 (by decide)
              have hsz : ((s 2 : Nat) : Int) < (l.length : Int) := by omega
              have z5 := (HND.out (s 2) hsl).2.2.2.2.2
              rw [← HPI.out 2] at z5
              obtain ⟨pj, hpj⟩ : ∃ x, x = P 0 2 := ⟨_, rfl⟩
              rw [← hpj] at z5
              have HPJ := Lib.hid hpj
              clear hpj
              by_cases h0 : pj = 0
              · subst h0
                go_wp2_with fail
                go_roundw
                case measure => decide
                case rel => exact ⟨3, by decide, by go_num, (by trivial), (show Hid _ from fun j' h hn => by rcases (by omega : j' < 2 ∨ j' = 2) with h2 | rfl; exact HQ.out j' h2 hn; exact HPJ.out.symm)⟩
              · have h0b : (pj != 0) = true := by rw [bne_iff_ne]; exact h0
                have HN0 := Lib.hid (show P 0 2 ≠ 0 by rw [← HPJ.out]; exact h0)
                go_wp2_with fail
                go_ret
                refine ⟨?_, HA.out⟩
                have hf : D = false := by rw [HD.out]; exact decide_eq_false fun h => HN0.out ((HDB.out 4).1 h 0 (by decide) 2 (by decide) (by decide))
                rw [hf] <;> rfl
            · as_aux_lemma =>
              have jx := HJ.out.2.2.2
              clear HJ
              go_wp2_with fail
              go_roundw
              case measure => decide
              case rel => exact ⟨4, by decide, by go_num, (by trivial), (show Hid _ from fun j' h hn => HQ.out j' (by omega) hn)⟩
          · have hj4 : j = 4 := by omega
            subst hj4
            go_wp2_with fail
            go_roundw
            case measure => decide
            case rel => exact ⟨1, by decide, by go_num, (by trivial), (show Hid _ from fun i' h j' hj hn => by rcases (by omega : i' < 0 ∨ i' = 0) with h2 | rfl; exact HH.out i' h2 j' hj hn; exact HQ.out j' hj hn)⟩
      · as_aux_lemma =>
        have ix : ∀ W, (Instr.index 33 (.agg #[.int .i64 ((p 0 : Nat) : Int), .int .i64 ((p 1 : Nat) : Int), .int .i64 ((p 2 : Nat) : Int), .int .i64 ((p 3 : Nat) : Int)]) (.int .i64 1)).run Try.prog W = .ok (.int .i64 ((p 1 : Nat) : Int)) W := fun W => kd_index (((p 0 : Nat) : Int), ((p 1 : Nat) : Int), ((p 2 : Nat) : Int), ((p 3 : Nat) : Int)) 1 (by decide) W
        have HJ := Lib.hid (And.intro (show ∀ W, (Instr.index 33 (.agg #[.int .i64 ((s 0 : Nat) : Int), .int .i64 ((s 1 : Nat) : Int), .int .i64 ((s 2 : Nat) : Int), .int .i64 ((s 3 : Nat) : Int)]) (.int .i64 0)).run Try.prog W = .ok (.int .i64 ((s 0 : Nat) : Int)) W from fun W => kd_index (((s 0 : Nat) : Int), ((s 1 : Nat) : Int), ((s 2 : Nat) : Int), ((s 3 : Nat) : Int)) 0 (by decide) W) (And.intro (show ∀ W, (Instr.index 33 (.agg #[.int .i64 ((s 0 : Nat) : Int), .int .i64 ((s 1 : Nat) : Int), .int .i64 ((s 2 : Nat) : Int), .int .i64 ((s 3 : Nat) : Int)]) (.int .i64 1)).run Try.prog W = .ok (.int .i64 ((s 1 : Nat) : Int)) W from fun W => kd_index (((s 0 : Nat) : Int), ((s 1 : Nat) : Int), ((s 2 : Nat) : Int), ((s 3 : Nat) : Int)) 1 (by decide) W) (And.intro (show ∀ W, (Instr.index 33 (.agg #[.int .i64 ((s 0 : Nat) : Int), .int .i64 ((s 1 : Nat) : Int), .int .i64 ((s 2 : Nat) : Int), .int .i64 ((s 3 : Nat) : Int)]) (.int .i64 2)).run Try.prog W = .ok (.int .i64 ((s 2 : Nat) : Int)) W from fun W => kd_index (((s 0 : Nat) : Int), ((s 1 : Nat) : Int), ((s 2 : Nat) : Int), ((s 3 : Nat) : Int)) 2 (by decide) W) (show ∀ W, (Instr.index 33 (.agg #[.int .i64 ((s 0 : Nat) : Int), .int .i64 ((s 1 : Nat) : Int), .int .i64 ((s 2 : Nat) : Int), .int .i64 ((s 3 : Nat) : Int)]) (.int .i64 3)).run Try.prog W = .ok (.int .i64 ((s 3 : Nat) : Int)) W from fun W => kd_index (((s 0 : Nat) : Int), ((s 1 : Nat) : Int), ((s 2 : Nat) : Int), ((s 3 : Nat) : Int)) 3 (by decide) W))))
        go_wp2_with fail
        clear y1 y2 y3 y4 ix
        go_loopw [35] (fun u wq => ∃ j : Nat, j ≤ 4 ∧ u = .int .i64 j ∧ wq = wr ∧ Hid (∀ j', j' < j → j' + 1 ≠ 3 → P 1 j' = 0)) (fun u _ => 4 - (intOf u).toNat)
        case atStart => exact ⟨0, by decide, rfl, rfl, (show Hid _ from fun j' h => absurd h (Nat.not_lt_zero _))⟩
        case round =>
          obtain ⟨j, hj, rfl, rfl, HQ⟩ := hrel
          by_cases hj4 : j < 4
          · rcases (by omega : j = 0 ∨ j = 1 ∨ j = 2 ∨ j = 3) with rfl | rfl | rfl | rfl
            · as_aux_lemma =>
              have jx := HJ.out.1
              clear HJ
              have hsl := HS.out 0 (by decide)
              have hsz : ((s 0 : Nat) : Int) < (l.length : Int) := by omega
              have z5 := (HND.out (s 0) hsl).2.2.2.2.2
              rw [← HPI.out 0] at z5
              obtain ⟨pj, hpj⟩ : ∃ x, x = P 1 0 := ⟨_, rfl⟩
              rw [← hpj] at z5
              have HPJ := Lib.hid hpj
              clear hpj
              by_cases h0 : pj = 0
              · subst h0
                go_wp2_with fail
                go_roundw
                case measure => decide
                case rel => exact ⟨1, by decide, by go_num, (by trivial), (show Hid _ from fun j' h hn => by rcases (by omega : j' < 0 ∨ j' = 0) with h2 | rfl; exact HQ.out j' h2 hn; exact HPJ.out.symm)⟩
              · have h0b : (pj != 0) = true := by rw [bne_iff_ne]; exact h0
                have HN0 := Lib.hid (show P 1 0 ≠ 0 by rw [← HPJ.out]; exact h0)
                go_wp2_with fail
                go_ret
                refine ⟨?_, HA.out⟩
                have hf : D = false := by rw [HD.out]; exact decide_eq_false fun h => HN0.out ((HDB.out 4).1 h 1 (by decide) 0 (by decide) (by decide))
                rw [hf] <;> rfl
            · as_aux_lemma =>
              have jx := HJ.out.2.1
              clear HJ
              have hsl := HS.out 1 (by decide)
              have hsz : ((s 1 : Nat) : Int) < (l.length : Int) := by omega
              have z5 := (HND.out (s 1) hsl).2.2.2.2.2
              rw [← HPI.out 1] at z5
              obtain ⟨pj, hpj⟩ : ∃ x, x = P 1 1 := ⟨_, rfl⟩
              rw [← hpj] at z5
              have HPJ := Lib.hid hpj
              clear hpj
              by_cases h0 : pj = 0
              · subst h0
                go_wp2_with fail
                go_roundw
                case measure => decide
                case rel => exact ⟨2, by decide, by go_num, (by trivial), (show Hid _ from fun j' h hn => by rcases (by omega : j' < 1 ∨ j' = 1) with h2 | rfl; exact HQ.out j' h2 hn; exact HPJ.out.symm)⟩
              · have h0b : (pj != 0) = true := by rw [bne_iff_ne]; exact h0
                have HN0 := Lib.hid (show P 1 1 ≠ 0 by rw [← HPJ.out]; exact h0)
                go_wp2_with fail
                go_ret
                refine ⟨?_, HA.out⟩
                have hf : D = false := by rw [HD.out]; exact decide_eq_false fun h => HN0.out ((HDB.out 4).1 h 1 (by decide) 1 (by decide) (by decide))
                rw [hf] <;> rfl
            · as_aux_lemma =>
              have jx := HJ.out.2.2.1
              clear HJ
              go_wp2_with fail
              go_roundw
              case measure => decide
              case rel => exact ⟨3, by decide, by go_num, (by trivial), (show Hid _ from fun j' h hn => HQ.out j' (by omega) hn)⟩
            · as_aux_lemma =>
              have jx := HJ.out.2.2.2
              clear HJ
              have hsl := HS.out 3 (by decide)
              have hsz : ((s 3 : Nat) : Int) < (l.length : Int) := by omega
              have z5 := (HND.out (s 3) hsl).2.2.2.2.2
              rw [← HPI.out 3] at z5
              obtain ⟨pj, hpj⟩ : ∃ x, x = P 1 3 := ⟨_, rfl⟩
              rw [← hpj] at z5
              have HPJ := Lib.hid hpj
              clear hpj
              by_cases h0 : pj = 0
              · subst h0
                go_wp2_with fail
                go_roundw
                case measure => decide
                case rel => exact ⟨4, by decide, by go_num, (by trivial), (show Hid _ from fun j' h hn => by rcases (by omega : j' < 3 ∨ j' = 3) with h2 | rfl; exact HQ.out j' h2 hn; exact HPJ.out.symm)⟩
              · have h0b : (pj != 0) = true := by rw [bne_iff_ne]; exact h0
                have HN0 := Lib.hid (show P 1 3 ≠ 0 by rw [← HPJ.out]; exact h0)
                go_wp2_with fail
                go_ret
                refine ⟨?_, HA.out⟩
                have hf : D = false := by rw [HD.out]; exact decide_eq_false fun h => HN0.out ((HDB.out 4).1 h 1 (by decide) 3 (by decide) (by decide))
                rw [hf] <;> rfl
          · have hj4 : j = 4 := by omega
            subst hj4
            go_wp2_with fail
            go_roundw
            case measure => decide
            case rel => exact ⟨2, by decide, by go_num, (by trivial), (show Hid _ from fun i' h j' hj hn => by rcases (by omega : i' < 1 ∨ i' = 1) with h2 | rfl; exact HH.out i' h2 j' hj hn; exact HQ.out j' hj hn)⟩
      · as_aux_lemma =>
        have ix : ∀ W, (Instr.index 33 (.agg #[.int .i64 ((p 0 : Nat) : Int), .int .i64 ((p 1 : Nat) : Int), .int .i64 ((p 2 : Nat) : Int), .int .i64 ((p 3 : Nat) : Int)]) (.int .i64 2)).run Try.prog W = .ok (.int .i64 ((p 2 : Nat) : Int)) W := fun W => kd_index (((p 0 : Nat) : Int), ((p 1 : Nat) : Int), ((p 2 : Nat) : Int), ((p 3 : Nat) : Int)) 2 (by decide) W
        have HJ := Lib.hid (And.intro (show ∀ W, (Instr.index 33 (.agg #[.int .i64 ((s 0 : Nat) : Int), .int .i64 ((s 1 : Nat) : Int), .int .i64 ((s 2 : Nat) : Int), .int .i64 ((s 3 : Nat) : Int)]) (.int .i64 0)).run Try.prog W = .ok (.int .i64 ((s 0 : Nat) : Int)) W from fun W => kd_index (((s 0 : Nat) : Int), ((s 1 : Nat) : Int), ((s 2 : Nat) : Int), ((s 3 : Nat) : Int)) 0 (by decide) W) (And.intro (show ∀ W, (Instr.index 33 (.agg #[.int .i64 ((s 0 : Nat) : Int), .int .i64 ((s 1 : Nat) : Int), .int .i64 ((s 2 : Nat) : Int), .int .i64 ((s 3 : Nat) : Int)]) (.int .i64 1)).run Try.prog W = .ok (.int .i64 ((s 1 : Nat) : Int)) W from fun W => kd_index (((s 0 : Nat) : Int), ((s 1 : Nat) : Int), ((s 2 : Nat) : Int), ((s 3 : Nat) : Int)) 1 (by decide) W) (And.intro (show ∀ W, (Instr.index 33 (.agg #[.int .i64 ((s 0 : Nat) : Int), .int .i64 ((s 1 : Nat) : Int), .int .i64 ((s 2 : Nat) : Int), .int .i64 ((s 3 : Nat) : Int)]) (.int .i64 2)).run Try.prog W = .ok (.int .i64 ((s 2 : Nat) : Int)) W from fun W => kd_index (((s 0 : Nat) : Int), ((s 1 : Nat) : Int), ((s 2 : Nat) : Int), ((s 3 : Nat) : Int)) 2 (by decide) W) (show ∀ W, (Instr.index 33 (.agg #[.int .i64 ((s 0 : Nat) : Int), .int .i64 ((s 1 : Nat) : Int), .int .i64 ((s 2 : Nat) : Int), .int .i64 ((s 3 : Nat) : Int)]) (.int .i64 3)).run Try.prog W = .ok (.int .i64 ((s 3 : Nat) : Int)) W from fun W => kd_index (((s 0 : Nat) : Int), ((s 1 : Nat) : Int), ((s 2 : Nat) : Int), ((s 3 : Nat) : Int)) 3 (by decide) W))))
        go_wp2_with fail
        clear y1 y2 y3 y4 ix
        go_loopw [35] (fun u wq => ∃ j : Nat, j ≤ 4 ∧ u = .int .i64 j ∧ wq = wr ∧ Hid (∀ j', j' < j → j' + 2 ≠ 3 → P 2 j' = 0)) (fun u _ => 4 - (intOf u).toNat)
        case atStart => exact ⟨0, by decide, rfl, rfl, (show Hid _ from fun j' h => absurd h (Nat.not_lt_zero _))⟩
        case round =>
          obtain ⟨j, hj, rfl, rfl, HQ⟩ := hrel
          by_cases hj4 : j < 4
          · rcases (by omega : j = 0 ∨ j = 1 ∨ j = 2 ∨ j = 3) with rfl | rfl | rfl | rfl
            · as_aux_lemma =>
              have jx := HJ.out.1
              clear HJ
              have hsl := HS.out 0 (by decide)
              have hsz : ((s 0 : Nat) : Int) < (l.length : Int) := by omega
              have z5 := (HND.out (s 0) hsl).2.2.2.2.2
              rw [← HPI.out 0] at z5
              obtain ⟨pj, hpj⟩ : ∃ x, x = P 2 0 := ⟨_, rfl⟩
              rw [← hpj] at z5
              have HPJ := Lib.hid hpj
              clear hpj
              by_cases h0 : pj = 0
              · subst h0
                go_wp2_with fail
                go_roundw
                case measure => decide
                case rel => exact ⟨1, by decide, by go_num, (by trivial), (show Hid _ from fun j' h hn => by rcases (by omega : j' < 0 ∨ j' = 0) with h2 | rfl; exact HQ.out j' h2 hn; exact HPJ.out.symm)⟩
              · have h0b : (pj != 0) = true := by rw [bne_iff_ne]; exact h0
                have HN0 := Lib.hid (show P 2 0 ≠ 0 by rw [← HPJ.out]; exact h0)
                go_wp2_with fail
                go_ret
                refine ⟨?_, HA.out⟩
                have hf : D = false := by rw [HD.out]; exact decide_eq_false fun h => HN0.out ((HDB.out 4).1 h 2 (by decide) 0 (by decide) (by decide))
                rw [hf] <;> rfl
            · as_aux_lemma =>
              have jx := HJ.out.2.1
              clear HJ
              go_wp2_with fail
              go_roundw
              case measure => decide
              case rel => exact ⟨2, by decide, by go_num, (by trivial), (show Hid _ from fun j' h hn => HQ.out j' (by omega) hn)⟩
            · as_aux_lemma =>
              have jx := HJ.out.2.2.1
              clear HJ
              have hsl := HS.out 2 (by decide)
              have hsz : ((s 2 : Nat) : Int) < (l.length : Int) := by omega
              have z5 := (HND.out (s 2) hsl).2.2.2.2.2
              rw [← HPI.out 2] at z5
              obtain ⟨pj, hpj⟩ : ∃ x, x = P 2 2 := ⟨_, rfl⟩
              rw [← hpj] at z5
              have HPJ := Lib.hid hpj
              clear hpj
              by_cases h0 : pj = 0
              · subst h0
                go_wp2_with fail
                go_roundw
                case measure => decide
                case rel => exact ⟨3, by decide, by go_num, (by trivial), (show Hid _ from fun j' h hn => by rcases (by omega : j' < 2 ∨ j' = 2) with h2 | rfl; exact HQ.out j' h2 hn; exact HPJ.out.symm)⟩
              · have h0b : (pj != 0) = true := by rw [bne_iff_ne]; exact h0
                have HN0 := Lib.hid (show P 2 2 ≠ 0 by rw [← HPJ.out]; exact h0)
                go_wp2_with fail
                go_ret
                refine ⟨?_, HA.out⟩
                have hf : D = false := by rw [HD.out]; exact decide_eq_false fun h => HN0.out ((HDB.out 4).1 h 2 (by decide) 2 (by decide) (by decide))
                rw [hf] <;> rfl
            · as_aux_lemma =>
              have jx := HJ.out.2.2.2
              clear HJ
              have hsl := HS.out 3 (by decide)
              have hsz : ((s 3 : Nat) : Int) < (l.length : Int) := by omega
              have z5 := (HND.out (s 3) hsl).2.2.2.2.2
              rw [← HPI.out 3] at z5
              obtain ⟨pj, hpj⟩ : ∃ x, x = P 2 3 := ⟨_, rfl⟩
              rw [← hpj] at z5
              have HPJ := Lib.hid hpj
              clear hpj
              by_cases h0 : pj = 0
              · subst h0
                go_wp2_with fail
                go_roundw
                case measure => decide
                case rel => exact ⟨4, by decide, by go_num, (by trivial), (show Hid _ from fun j' h hn => by rcases (by omega : j' < 3 ∨ j' = 3) with h2 | rfl; exact HQ.out j' h2 hn; exact HPJ.out.symm)⟩
              · have h0b : (pj != 0) = true := by rw [bne_iff_ne]; exact h0
                have HN0 := Lib.hid (show P 2 3 ≠ 0 by rw [← HPJ.out]; exact h0)
                go_wp2_with fail
                go_ret
                refine ⟨?_, HA.out⟩
                have hf : D = false := by rw [HD.out]; exact decide_eq_false fun h => HN0.out ((HDB.out 4).1 h 2 (by decide) 3 (by decide) (by decide))
                rw [hf] <;> rfl
          · have hj4 : j = 4 := by omega
            subst hj4
            go_wp2_with fail
            go_roundw
            case measure => decide
            case rel => exact ⟨3, by decide, by go_num, (by trivial), (show Hid _ from fun i' h j' hj hn => by rcases (by omega : i' < 2 ∨ i' = 2) with h2 | rfl; exact HH.out i' h2 j' hj hn; exact HQ.out j' hj hn)⟩
      · as_aux_lemma =>
        have ix : ∀ W, (Instr.index 33 (.agg #[.int .i64 ((p 0 : Nat) : Int), .int .i64 ((p 1 : Nat) : Int), .int .i64 ((p 2 : Nat) : Int), .int .i64 ((p 3 : Nat) : Int)]) (.int .i64 3)).run Try.prog W = .ok (.int .i64 ((p 3 : Nat) : Int)) W := fun W => kd_index (((p 0 : Nat) : Int), ((p 1 : Nat) : Int), ((p 2 : Nat) : Int), ((p 3 : Nat) : Int)) 3 (by decide) W
        have HJ := Lib.hid (And.intro (show ∀ W, (Instr.index 33 (.agg #[.int .i64 ((s 0 : Nat) : Int), .int .i64 ((s 1 : Nat) : Int), .int .i64 ((s 2 : Nat) : Int), .int .i64 ((s 3 : Nat) : Int)]) (.int .i64 0)).run Try.prog W = .ok (.int .i64 ((s 0 : Nat) : Int)) W from fun W => kd_index (((s 0 : Nat) : Int), ((s 1 : Nat) : Int), ((s 2 : Nat) : Int), ((s 3 : Nat) : Int)) 0 (by decide) W) (And.intro (show ∀ W, (Instr.index 33 (.agg #[.int .i64 ((s 0 : Nat) : Int), .int .i64 ((s 1 : Nat) : Int), .int .i64 ((s 2 : Nat) : Int), .int .i64 ((s 3 : Nat) : Int)]) (.int .i64 1)).run Try.prog W = .ok (.int .i64 ((s 1 : Nat) : Int)) W from fun W => kd_index (((s 0 : Nat) : Int), ((s 1 : Nat) : Int), ((s 2 : Nat) : Int), ((s 3 : Nat) : Int)) 1 (by decide) W) (And.intro (show ∀ W, (Instr.index 33 (.agg #[.int .i64 ((s 0 : Nat) : Int), .int .i64 ((s 1 : Nat) : Int), .int .i64 ((s 2 : Nat) : Int), .int .i64 ((s 3 : Nat) : Int)]) (.int .i64 2)).run Try.prog W = .ok (.int .i64 ((s 2 : Nat) : Int)) W from fun W => kd_index (((s 0 : Nat) : Int), ((s 1 : Nat) : Int), ((s 2 : Nat) : Int), ((s 3 : Nat) : Int)) 2 (by decide) W) (show ∀ W, (Instr.index 33 (.agg #[.int .i64 ((s 0 : Nat) : Int), .int .i64 ((s 1 : Nat) : Int), .int .i64 ((s 2 : Nat) : Int), .int .i64 ((s 3 : Nat) : Int)]) (.int .i64 3)).run Try.prog W = .ok (.int .i64 ((s 3 : Nat) : Int)) W from fun W => kd_index (((s 0 : Nat) : Int), ((s 1 : Nat) : Int), ((s 2 : Nat) : Int), ((s 3 : Nat) : Int)) 3 (by decide) W))))
        go_wp2_with fail
        clear y1 y2 y3 y4 ix
        go_loopw [35] (fun u wq => ∃ j : Nat, j ≤ 4 ∧ u = .int .i64 j ∧ wq = wr ∧ Hid (∀ j', j' < j → j' + 3 ≠ 3 → P 3 j' = 0)) (fun u _ => 4 - (intOf u).toNat)
        case atStart => exact ⟨0, by decide, rfl, rfl, (show Hid _ from fun j' h => absurd h (Nat.not_lt_zero _))⟩
        case round =>
          obtain ⟨j, hj, rfl, rfl, HQ⟩ := hrel
          by_cases hj4 : j < 4
          · rcases (by omega : j = 0 ∨ j = 1 ∨ j = 2 ∨ j = 3) with rfl | rfl | rfl | rfl
            · as_aux_lemma =>
              have jx := HJ.out.1
              clear HJ
              go_wp2_with fail
              go_roundw
              case measure => decide
              case rel => exact ⟨1, by decide, by go_num, (by trivial), (show Hid _ from fun j' h hn => HQ.out j' (by omega) hn)⟩
            · as_aux_lemma =>
              have jx := HJ.out.2.1
              clear HJ
              have hsl := HS.out 1 (by decide)
              have hsz : ((s 1 : Nat) : Int) < (l.length : Int) := by omega
              have z5 := (HND.out (s 1) hsl).2.2.2.2.2
              rw [← HPI.out 1] at z5
              obtain ⟨pj, hpj⟩ : ∃ x, x = P 3 1 := ⟨_, rfl⟩
              rw [← hpj] at z5
              have HPJ := Lib.hid hpj
              clear hpj
              by_cases h0 : pj = 0
              · subst h0
                go_wp2_with fail
                go_roundw
                case measure => decide
                case rel => exact ⟨2, by decide, by go_num, (by trivial), (show Hid _ from fun j' h hn => by rcases (by omega : j' < 1 ∨ j' = 1) with h2 | rfl; exact HQ.out j' h2 hn; exact HPJ.out.symm)⟩
              · have h0b : (pj != 0) = true := by rw [bne_iff_ne]; exact h0
                have HN0 := Lib.hid (show P 3 1 ≠ 0 by rw [← HPJ.out]; exact h0)
                go_wp2_with fail
                go_ret
                refine ⟨?_, HA.out⟩
                have hf : D = false := by rw [HD.out]; exact decide_eq_false fun h => HN0.out ((HDB.out 4).1 h 3 (by decide) 1 (by decide) (by decide))
                rw [hf] <;> rfl
            · as_aux_lemma =>
              have jx := HJ.out.2.2.1
              clear HJ
              have hsl := HS.out 2 (by decide)
              have hsz : ((s 2 : Nat) : Int) < (l.length : Int) := by omega
              have z5 := (HND.out (s 2) hsl).2.2.2.2.2
              rw [← HPI.out 2] at z5
              obtain ⟨pj, hpj⟩ : ∃ x, x = P 3 2 := ⟨_, rfl⟩
              rw [← hpj] at z5
              have HPJ := Lib.hid hpj
              clear hpj
              by_cases h0 : pj = 0
              · subst h0
                go_wp2_with fail
                go_roundw
                case measure => decide
                case rel => exact ⟨3, by decide, by go_num, (by trivial), (show Hid _ from fun j' h hn => by rcases (by omega : j' < 2 ∨ j' = 2) with h2 | rfl; exact HQ.out j' h2 hn; exact HPJ.out.symm)⟩
              · have h0b : (pj != 0) = true := by rw [bne_iff_ne]; exact h0
                have HN0 := Lib.hid (show P 3 2 ≠ 0 by rw [← HPJ.out]; exact h0)
                go_wp2_with fail
                go_ret
                refine ⟨?_, HA.out⟩
                have hf : D = false := by rw [HD.out]; exact decide_eq_false fun h => HN0.out ((HDB.out 4).1 h 3 (by decide) 2 (by decide) (by decide))
                rw [hf] <;> rfl
            · as_aux_lemma =>
              have jx := HJ.out.2.2.2
              clear HJ
              have hsl := HS.out 3 (by decide)
              have hsz : ((s 3 : Nat) : Int) < (l.length : Int) := by omega
              have z5 := (HND.out (s 3) hsl).2.2.2.2.2
              rw [← HPI.out 3] at z5
              obtain ⟨pj, hpj⟩ : ∃ x, x = P 3 3 := ⟨_, rfl⟩
              rw [← hpj] at z5
              have HPJ := Lib.hid hpj
              clear hpj
              by_cases h0 : pj = 0
              · subst h0
                go_wp2_with fail
                go_roundw
                case measure => decide
                case rel => exact ⟨4, by decide, by go_num, (by trivial), (show Hid _ from fun j' h hn => by rcases (by omega : j' < 3 ∨ j' = 3) with h2 | rfl; exact HQ.out j' h2 hn; exact HPJ.out.symm)⟩
              · have h0b : (pj != 0) = true := by rw [bne_iff_ne]; exact h0
                have HN0 := Lib.hid (show P 3 3 ≠ 0 by rw [← HPJ.out]; exact h0)
                go_wp2_with fail
                go_ret
                refine ⟨?_, HA.out⟩
                have hf : D = false := by rw [HD.out]; exact decide_eq_false fun h => HN0.out ((HDB.out 4).1 h 3 (by decide) 3 (by decide) (by decide))
                rw [hf] <;> rfl
          · have hj4 : j = 4 := by omega
            subst hj4
            go_wp2_with fail
            go_roundw
            case measure => decide
            case rel => exact ⟨4, by decide, by go_num, (by trivial), (show Hid _ from fun i' h j' hj hn => by rcases (by omega : i' < 3 ∨ i' = 3) with h2 | rfl; exact HH.out i' h2 j' hj hn; exact HQ.out j' hj hn)⟩
    · have hi4 : i = 4 := by omega
      subst hi4
      go_wp2_with fail
      go_ret
      refine ⟨?_, HA.out⟩
      have hf : D = true := by rw [HD.out]; exact decide_eq_true ((HDB.out 4).2 HH.out)
      rw [hf] <;> rfl
end Go.Proofs.Ytgjibpgfcbdpgaa
