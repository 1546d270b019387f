/-
  Texts that the claims of this seat share, part 20.
-/
import Derived.Test.YtklccoodfhejbaaB19
import Derived.Test.YtklccoodfhejbaaB17
import Derived.Lib.ItoaMem
import GoSem.Op.String
import Derived.Test.YtklccoodfhejbaaRows
import Derived.Test.YtklccoodfhejbaaSh
import Derived.Test.YtklccoodfhejbaaB00
import Derived.WalkKit
import Derived.WalkSpells
import Derived.WalkLawsBesides
import Derived.WalkArith
import Derived.IntWalk
import Derived.Lib.QuietBelow
import Derived.Lib.Hide
import Derived.Lib.AppendIntMem
import Derived.BigQuiet
import Derived.StillTailTactics
import Derived.LoopN
import Derived.Handy
import Derived.Deep.LoopGhost
import Derived.Lib.AppendZerosOnto
set_option linter.unusedVariables false
set_option linter.unusedSimpArgs false
namespace Go.Proofs.Ytklccoodfhejbaa
set_option maxRecDepth 100000
set_option linter.unusedVariables false
set_option linter.unusedSimpArgs false
open Go.RowKit Go.Sort

/-- how many are alive in a grandchild -/
def popK (l : List Nd) (k i j : Nat) : Int := (l.getD (kidN l (kidN l k i) j) deadN).2.2
/-- all that a node stands for is in its middle -/
def DeadB (l : List Nd) (k n : Nat) : Prop := ∀ i, i < n → ∀ j, j < 4 → j + i ≠ 3 → popK l k i j = 0
instance (l : List Nd) (k n : Nat) : Decidable (DeadB l k n) := by unfold DeadB; infer_instance
/-- the kids' cells -/
theorem kids_cells {w : World} {q : Nat} {l : List Nd} {room : Int} (hr : Right6 l room) (hnd : ∀ j, j < l.length → NdAt w q (j * 6) (l.getD j deadN)) {k n : Nat} (h : Is l (k + 1) n) :
    w.cell? ⟨q, n * 6 + 1, none⟩ = some (.int .i64 (kidN l n 0 : Nat)) ∧ w.cell? ⟨q, n * 6 + 2, none⟩ = some (.int .i64 (kidN l n 1 : Nat)) ∧ w.cell? ⟨q, n * 6 + 3, none⟩ = some (.int .i64 (kidN l n 2 : Nat)) ∧ w.cell? ⟨q, n * 6 + 4, none⟩ = some (.int .i64 (kidN l n 3 : Nat)) := by
  obtain ⟨x0, x1, x2, x3, x4, x5⟩ := hnd n h.lt
  have k0 := kid_cast hr h (i := 0) (by decide)
  have k1 := kid_cast hr h (i := 1) (by decide)
  have k2 := kid_cast hr h (i := 2) (by decide)
  have k3 := kid_cast hr h (i := 3) (by decide)
  exact ⟨by rw [← k0]; exact x1, by rw [← k1]; exact x2, by rw [← k2]; exact x3, by rw [← k3]; exact x4⟩
set_option maxHeartbeats 8000000 in
theorem deadAbout_any (room : Int) (n0 g b mb : Nat) (l : List Nd) {k e : Nat} (hk : Is l (e + 2) k) (w : World) (hix : Ix n0 w g b l room) (hr : Right6 l room) :
    Calls Try.prog 68 #[makerL g mb, .int .i64 (k : Int)] w fun r w' => r = .returned (.bool (decide (DeadB l k 4))) ∧ Below w.heap.size w w' := by
  have hal := (Below.refl w.heap.size w).alloc (Nat.le_refl _) (.cells #[.pointer (some ⟨g, 0, none⟩), .map (some mb)] 76)
  have hM : ML (w.alloc (.cells #[.pointer (some ⟨g, 0, none⟩), .map (some mb)] 76)) w.heap.size g mb := heap_alloc_new w _
  obtain ⟨q, cap, g0, g1, hrd, hcap, hnd⟩ := ix_rd (hix.below hal) hr.two
  have m0 := hM.c0
  have m1 := hM.c1
  have HA := Lib.hid hal
  have h100 := hr.small
  obtain ⟨x1, x2, x3, x4⟩ := kids_cells hr hnd hk
  have hklt := hk.lt
  have hkz : (k : Int) < (l.length : Int) := by omega
  have HKI := Lib.hid (fun i (h : i < 4) => kid_is hr hk h)
  have HKJ := Lib.hid (fun i (h : i < 4) j (h2 : j < 4) => (kid_is hr (kid_is hr hk h) h2).lt)
  obtain ⟨D, hD⟩ : ∃ D, D = decide (DeadB l k 4) := ⟨_, rfl⟩
  rw [← hD]
  have HD := Lib.hid hD
  have HP := Lib.hid (show ∀ i j, popK l k i j = (l.getD (kidN l (kidN l k i) j) deadN).2.2 from fun _ _ => rfl)
  have HKC := Lib.hid (fun i (h : i < 4) => kids_cells hr hnd (kid_is hr hk h))
  have HND := Lib.hid hnd
  obtain ⟨p, hp⟩ : ∃ p : Nat → Nat, p = kidN l k := ⟨_, rfl⟩
  obtain ⟨P, hPP⟩ : ∃ P : Nat → Nat → Int, P = popK l k := ⟨_, rfl⟩
  have HDB := Lib.hid (show ∀ n, DeadB l k n ↔ ∀ i, i < n → ∀ j, j < 4 → j + i ≠ 3 → P i j = 0 by intro n; rw [hPP]; exact Iff.rfl)
  rw [← hp] at x1 x2 x3 x4 HKI HKJ HP HKC
  rw [← hPP] at HP
  clear hix hal hM hrd g1 hnd hr hD hp hPP hk
  go_enter Try.func68, Try.ntmps68
  go_wp2_with fail
  generalize (w.alloc (.cells #[.pointer (some ⟨g, 0, none⟩), .map (some mb)] 76)) = w0 at *
  clear x1 x2 x3 x4
  go_loopw [20] (fun u wr => ∃ i : Nat, i ≤ 4 ∧ u = .int .i64 i ∧ wr = w0 ∧ Hid (∀ i', i' < i → ∀ j, j < 4 → j + i' ≠ 3 → P i' j = 0)) (fun u _ => 4 - (intOf u).toNat)
  case atStart => exact ⟨0, by decide, rfl, rfl, (show Hid _ from fun i' h => absurd h (Nat.not_lt_zero _))⟩
  case round =>
    obtain ⟨i, hi, rfl, rfl, HH⟩ := hrel
    by_cases hi4 : i < 4
    · have hlt := (HKI.out i hi4).lt
      have hltz : (p i : Int) < (l.length : Int) := by omega
      obtain ⟨y1, y2, y3, y4⟩ := HKC.out i hi4
      obtain ⟨s, hs⟩ : ∃ s : Nat → Nat, s = kidN l (p i) := ⟨_, rfl⟩
      have HS := Lib.hid (fun j (h : j < 4) => HKJ.out i hi4 j h)
      have HPI := Lib.hid (fun j => HP.out i j)
      rw [← hs] at y1 y2 y3 y4 HS HPI
      clear hs
      rcases (by omega : i = 0 ∨ i = 1 ∨ i = 2 ∨ i = 3) with rfl | rfl | rfl | rfl
      · as_aux_lemma =>
        have ix : ∀ W, (Instr.index 33 (.agg #[.int .i64 ((p 0 : Nat) : Int), .int .i64 ((p 1 : Nat) : Int), .int .i64 ((p 2 : Nat) : Int), .int .i64 ((p 3 : Nat) : Int)]) (.int .i64 0)).run Try.prog W = .ok (.int .i64 ((p 0 : Nat) : Int)) W := fun W => kd_index (((p 0 : Nat) : Int), ((p 1 : Nat) : Int), ((p 2 : Nat) : Int), ((p 3 : Nat) : Int)) 0 (by decide) W
        have HJ := Lib.hid (And.intro (show ∀ W, (Instr.index 33 (.agg #[.int .i64 ((s 0 : Nat) : Int), .int .i64 ((s 1 : Nat) : Int), .int .i64 ((s 2 : Nat) : Int), .int .i64 ((s 3 : Nat) : Int)]) (.int .i64 0)).run Try.prog W = .ok (.int .i64 ((s 0 : Nat) : Int)) W from fun W => kd_index (((s 0 : Nat) : Int), ((s 1 : Nat) : Int), ((s 2 : Nat) : Int), ((s 3 : Nat) : Int)) 0 (by decide) W) (And.intro (show ∀ W, (Instr.index 33 (.agg #[.int .i64 ((s 0 : Nat) : Int), .int .i64 ((s 1 : Nat) : Int), .int .i64 ((s 2 : Nat) : Int), .int .i64 ((s 3 : Nat) : Int)]) (.int .i64 1)).run Try.prog W = .ok (.int .i64 ((s 1 : Nat) : Int)) W from fun W => kd_index (((s 0 : Nat) : Int), ((s 1 : Nat) : Int), ((s 2 : Nat) : Int), ((s 3 : Nat) : Int)) 1 (by decide) W) (And.intro (show ∀ W, (Instr.index 33 (.agg #[.int .i64 ((s 0 : Nat) : Int), .int .i64 ((s 1 : Nat) : Int), .int .i64 ((s 2 : Nat) : Int), .int .i64 ((s 3 : Nat) : Int)]) (.int .i64 2)).run Try.prog W = .ok (.int .i64 ((s 2 : Nat) : Int)) W from fun W => kd_index (((s 0 : Nat) : Int), ((s 1 : Nat) : Int), ((s 2 : Nat) : Int), ((s 3 : Nat) : Int)) 2 (by decide) W) (show ∀ W, (Instr.index 33 (.agg #[.int .i64 ((s 0 : Nat) : Int), .int .i64 ((s 1 : Nat) : Int), .int .i64 ((s 2 : Nat) : Int), .int .i64 ((s 3 : Nat) : Int)]) (.int .i64 3)).run Try.prog W = .ok (.int .i64 ((s 3 : Nat) : Int)) W from fun W => kd_index (((s 0 : Nat) : Int), ((s 1 : Nat) : Int), ((s 2 : Nat) : Int), ((s 3 : Nat) : Int)) 3 (by decide) W))))
        go_wp2_with fail
        clear y1 y2 y3 y4 ix
        go_loopw [35] (fun u wq => ∃ j : Nat, j ≤ 4 ∧ u = .int .i64 j ∧ wq = wr ∧ Hid (∀ j', j' < j → j' + 0 ≠ 3 → P 0 j' = 0)) (fun u _ => 4 - (intOf u).toNat)
        case atStart => exact ⟨0, by decide, rfl, rfl, (show Hid _ from fun j' h => absurd h (Nat.not_lt_zero _))⟩
        case round =>
          obtain ⟨j, hj, rfl, rfl, HQ⟩ := hrel
          by_cases hj4 : j < 4
          · rcases (by omega : j = 0 ∨ j = 1 ∨ j = 2 ∨ j = 3) with rfl | rfl | rfl | rfl
            · as_aux_lemma =>
              have jx := HJ.out.1
              clear HJ
              have hsl := HS.out 0 (by decide)
              have hsz : ((s 0 : Nat) : Int) < (l.length : Int) := by omega
              have z5 := (HND.out (s 0) hsl).2.2.2.2.2
              rw [← HPI.out 0] at z5
              obtain ⟨pj, hpj⟩ : ∃ x, x = P 0 0 := ⟨_, rfl⟩
              rw [← hpj] at z5
              have HPJ := Lib.hid hpj
              clear hpj
              by_cases h0 : pj = 0
              · subst h0
                go_wp2_with fail
                go_roundw
                case measure => decide
                case rel => exact ⟨1, by decide, by go_num, (by trivial), (show Hid _ from fun j' h hn => by rcases (by omega : j' < 0 ∨ j' = 0) with h2 | rfl; exact HQ.out j' h2 hn; exact HPJ.out.symm)⟩
              · have h0b : (pj != 0) = true := by rw [bne_iff_ne]; exact h0
                have HN0 := Lib.hid (show P 0 0 ≠ 0 by rw [← HPJ.out]; exact h0)
                go_wp2_with fail
                go_ret
                refine ⟨?_, HA.out⟩
                have hf : D = false := by rw [HD.out]; exact decide_eq_false fun h => HN0.out ((HDB.out 4).1 h 0 (by decide) 0 (by decide) (by decide))
                rw [hf] <;> rfl
            · as_aux_lemma =>
              have jx := HJ.out.2.1
              clear HJ
              have hsl := HS.out 1 (by decide)
              have hsz : ((s 1 : Nat) : Int) < (l.length : Int) := by omega
              have z5 := (HND.out (s 1) hsl).2.2.2.2.2
              rw [← HPI.out 1] at z5
              obtain ⟨pj, hpj⟩ : ∃ x, x = P 0 1 := ⟨_, rfl⟩
              rw [← hpj] at z5
              have HPJ := Lib.hid hpj
              clear hpj
              by_cases h0 : pj = 0
              · subst h0
                go_wp2_with fail
                go_roundw
                case measure => decide
                case rel => exact ⟨2, by decide, by go_num, (by trivial), (show Hid _ from fun j' h hn => by rcases (by omega : j' < 1 ∨ j' = 1) with h2 | rfl; exact HQ.out j' h2 hn; exact HPJ.out.symm)⟩
              · have h0b : (pj != 0) = true := by rw [bne_iff_ne]; exact h0
                have HN0 := Lib.hid (show P 0 1 ≠ 0 by rw [← HPJ.out]; exact h0)
                go_wp2_with fail
                go_ret
                refine ⟨?_, HA.out⟩
                have hf : D = false := by rw [HD.out]; exact decide_eq_false fun h => HN0.out ((HDB.out 4).1 h 0 (by decide) 1 (by decide) (by decide))
                rw [hf] <;> rfl
            · as_aux_lemma =>
              have jx := HJ.out.2.2.1
              clear HJ
              have hsl := HS.out 2 (by decide)
              have hsz : ((s 2 : Nat) : Int) < (l.length : Int) := by omega
              have z5 := (HND.out (s 2) hsl).2.2.2.2.2
              rw [← HPI.out 2] at z5
              obtain ⟨pj, hpj⟩ : ∃ x, x = P 0 2 := ⟨_, rfl⟩
              rw [← hpj] at z5
              have HPJ := Lib.hid hpj
              clear hpj
              by_cases h0 : pj = 0
              · subst h0
                go_wp2_with fail
                go_roundw
                case measure => decide
                case rel => exact ⟨3, by decide, by go_num, (by trivial), (show Hid _ from fun j' h hn => by rcases (by omega : j' < 2 ∨ j' = 2) with h2 | rfl; exact HQ.out j' h2 hn; exact HPJ.out.symm)⟩
              · have h0b : (pj != 0) = true := by rw [bne_iff_ne]; exact h0
                have HN0 := Lib.hid (show P 0 2 ≠ 0 by rw [← HPJ.out]; exact h0)
                go_wp2_with fail
                go_ret
                refine ⟨?_, HA.out⟩
                have hf : D = false := by rw [HD.out]; exact decide_eq_false fun h => HN0.out ((HDB.out 4).1 h 0 (by decide) 2 (by decide) (by decide))
                rw [hf] <;> rfl
            · as_aux_lemma =>
              have jx := HJ.out.2.2.2
              clear HJ
              go_wp2_with fail
              go_roundw
              case measure => decide
              case rel => exact ⟨4, by decide, by go_num, (by trivial), (show Hid _ from fun j' h hn => HQ.out j' (by omega) hn)⟩
          · have hj4 : j = 4 := by omega
            subst hj4
            go_wp2_with fail
            go_roundw
            case measure => decide
            case rel => exact ⟨1, by decide, by go_num, (by trivial), (show Hid _ from fun i' h j' hj hn => by rcases (by omega : i' < 0 ∨ i' = 0) with h2 | rfl; exact HH.out i' h2 j' hj hn; exact HQ.out j' hj hn)⟩
      · as_aux_lemma =>
        have ix : ∀ W, (Instr.index 33 (.agg #[.int .i64 ((p 0 : Nat) : Int), .int .i64 ((p 1 : Nat) : Int), .int .i64 ((p 2 : Nat) : Int), .int .i64 ((p 3 : Nat) : Int)]) (.int .i64 1)).run Try.prog W = .ok (.int .i64 ((p 1 : Nat) : Int)) W := fun W => kd_index (((p 0 : Nat) : Int), ((p 1 : Nat) : Int), ((p 2 : Nat) : Int), ((p 3 : Nat) : Int)) 1 (by decide) W
        have HJ := Lib.hid (And.intro (show ∀ W, (Instr.index 33 (.agg #[.int .i64 ((s 0 : Nat) : Int), .int .i64 ((s 1 : Nat) : Int), .int .i64 ((s 2 : Nat) : Int), .int .i64 ((s 3 : Nat) : Int)]) (.int .i64 0)).run Try.prog W = .ok (.int .i64 ((s 0 : Nat) : Int)) W from fun W => kd_index (((s 0 : Nat) : Int), ((s 1 : Nat) : Int), ((s 2 : Nat) : Int), ((s 3 : Nat) : Int)) 0 (by decide) W) (And.intro (show ∀ W, (Instr.index 33 (.agg #[.int .i64 ((s 0 : Nat) : Int), .int .i64 ((s 1 : Nat) : Int), .int .i64 ((s 2 : Nat) : Int), .int .i64 ((s 3 : Nat) : Int)]) (.int .i64 1)).run Try.prog W = .ok (.int .i64 ((s 1 : Nat) : Int)) W from fun W => kd_index (((s 0 : Nat) : Int), ((s 1 : Nat) : Int), ((s 2 : Nat) : Int), ((s 3 : Nat) : Int)) 1 (by decide) W) (And.intro (show ∀ W, (Instr.index 33 (.agg #[.int .i64 ((s 0 : Nat) : Int), .int .i64 ((s 1 : Nat) : Int), .int .i64 ((s 2 : Nat) : Int), .int .i64 ((s 3 : Nat) : Int)]) (.int .i64 2)).run Try.prog W = .ok (.int .i64 ((s 2 : Nat) : Int)) W from fun W => kd_index (((s 0 : Nat) : Int), ((s 1 : Nat) : Int), ((s 2 : Nat) : Int), ((s 3 : Nat) : Int)) 2 (by decide) W) (show ∀ W, (Instr.index 33 (.agg #[.int .i64 ((s 0 : Nat) : Int), .int .i64 ((s 1 : Nat) : Int), .int .i64 ((s 2 : Nat) : Int), .int .i64 ((s 3 : Nat) : Int)]) (.int .i64 3)).run Try.prog W = .ok (.int .i64 ((s 3 : Nat) : Int)) W from fun W => kd_index (((s 0 : Nat) : Int), ((s 1 : Nat) : Int), ((s 2 : Nat) : Int), ((s 3 : Nat) : Int)) 3 (by decide) W))))
        go_wp2_with fail
        clear y1 y2 y3 y4 ix
        go_loopw [35] (fun u wq => ∃ j : Nat, j ≤ 4 ∧ u = .int .i64 j ∧ wq = wr ∧ Hid (∀ j', j' < j → j' + 1 ≠ 3 → P 1 j' = 0)) (fun u _ => 4 - (intOf u).toNat)
        case atStart => exact ⟨0, by decide, rfl, rfl, (show Hid _ from fun j' h => absurd h (Nat.not_lt_zero _))⟩
        case round =>
          obtain ⟨j, hj, rfl, rfl, HQ⟩ := hrel
          by_cases hj4 : j < 4
          · rcases (by omega : j = 0 ∨ j = 1 ∨ j = 2 ∨ j = 3) with rfl | rfl | rfl | rfl
            · as_aux_lemma =>
              have jx := HJ.out.1
              clear HJ
              have hsl := HS.out 0 (by decide)
              have hsz : ((s 0 : Nat) : Int) < (l.length : Int) := by omega
              have z5 := (HND.out (s 0) hsl).2.2.2.2.2
              rw [← HPI.out 0] at z5
              obtain ⟨pj, hpj⟩ : ∃ x, x = P 1 0 := ⟨_, rfl⟩
              rw [← hpj] at z5
              have HPJ := Lib.hid hpj
              clear hpj
              by_cases h0 : pj = 0
              · subst h0
                go_wp2_with fail
                go_roundw
                case measure => decide
                case rel => exact ⟨1, by decide, by go_num, (by trivial), (show Hid _ from fun j' h hn => by rcases (by omega : j' < 0 ∨ j' = 0) with h2 | rfl; exact HQ.out j' h2 hn; exact HPJ.out.symm)⟩
              · have h0b : (pj != 0) = true := by rw [bne_iff_ne]; exact h0
                have HN0 := Lib.hid (show P 1 0 ≠ 0 by rw [← HPJ.out]; exact h0)
                go_wp2_with fail
                go_ret
                refine ⟨?_, HA.out⟩
                have hf : D = false := by rw [HD.out]; exact decide_eq_false fun h => HN0.out ((HDB.out 4).1 h 1 (by decide) 0 (by decide) (by decide))
                rw [hf] <;> rfl
            · as_aux_lemma =>
              have jx := HJ.out.2.1
              clear HJ
              have hsl := HS.out 1 (by decide)
              have hsz : ((s 1 : Nat) : Int) < (l.length : Int) := by omega
              have z5 := (HND.out (s 1) hsl).2.2.2.2.2
              rw [← HPI.out 1] at z5
              obtain ⟨pj, hpj⟩ : ∃ x, x = P 1 1 := ⟨_, rfl⟩
              rw [← hpj] at z5
              have HPJ := Lib.hid hpj
              clear hpj
              by_cases h0 : pj = 0
              · subst h0
                go_wp2_with fail
                go_roundw
                case measure => decide
                case rel => exact ⟨2, by decide, by go_num, (by trivial), (show Hid _ from fun j' h hn => by rcases (by omega : j' < 1 ∨ j' = 1) with h2 | rfl; exact HQ.out j' h2 hn; exact HPJ.out.symm)⟩
              · have h0b : (pj != 0) = true := by rw [bne_iff_ne]; exact h0
                have HN0 := Lib.hid (show P 1 1 ≠ 0 by rw [← HPJ.out]; exact h0)
                go_wp2_with fail
                go_ret
                refine ⟨?_, HA.out⟩
                have hf : D = false := by rw [HD.out]; exact decide_eq_false fun h => HN0.out ((HDB.out 4).1 h 1 (by decide) 1 (by decide) (by decide))
                rw [hf] <;> rfl
            · as_aux_lemma =>
              have jx := HJ.out.2.2.1
              clear HJ
              go_wp2_with fail
              go_roundw
              case measure => decide
              case rel => exact ⟨3, by decide, by go_num, (by trivial), (show Hid _ from fun j' h hn => HQ.out j' (by omega) hn)⟩
            · as_aux_lemma =>
              have jx := HJ.out.2.2.2
              clear HJ
              have hsl := HS.out 3 (by decide)
              have hsz : ((s 3 : Nat) : Int) < (l.length : Int) := by omega
              have z5 := (HND.out (s 3) hsl).2.2.2.2.2
              rw [← HPI.out 3] at z5
              obtain ⟨pj, hpj⟩ : ∃ x, x = P 1 3 := ⟨_, rfl⟩
              rw [← hpj] at z5
              have HPJ := Lib.hid hpj
              clear hpj
              by_cases h0 : pj = 0
              · subst h0
                go_wp2_with fail
                go_roundw
                case measure => decide
                case rel => exact ⟨4, by decide, by go_num, (by trivial), (show Hid _ from fun j' h hn => by rcases (by omega : j' < 3 ∨ j' = 3) with h2 | rfl; exact HQ.out j' h2 hn; exact HPJ.out.symm)⟩
              · have h0b : (pj != 0) = true := by rw [bne_iff_ne]; exact h0
                have HN0 := Lib.hid (show P 1 3 ≠ 0 by rw [← HPJ.out]; exact h0)
                go_wp2_with fail
                go_ret
                refine ⟨?_, HA.out⟩
                have hf : D = false := by rw [HD.out]; exact decide_eq_false fun h => HN0.out ((HDB.out 4).1 h 1 (by decide) 3 (by decide) (by decide))
                rw [hf] <;> rfl
          · have hj4 : j = 4 := by omega
            subst hj4
            go_wp2_with fail
            go_roundw
            case measure => decide
            case rel => exact ⟨2, by decide, by go_num, (by trivial), (show Hid _ from fun i' h j' hj hn => by rcases (by omega : i' < 1 ∨ i' = 1) with h2 | rfl; exact HH.out i' h2 j' hj hn; exact HQ.out j' hj hn)⟩
      · as_aux_lemma =>
        have ix : ∀ W, (Instr.index 33 (.agg #[.int .i64 ((p 0 : Nat) : Int), .int .i64 ((p 1 : Nat) : Int), .int .i64 ((p 2 : Nat) : Int), .int .i64 ((p 3 : Nat) : Int)]) (.int .i64 2)).run Try.prog W = .ok (.int .i64 ((p 2 : Nat) : Int)) W := fun W => kd_index (((p 0 : Nat) : Int), ((p 1 : Nat) : Int), ((p 2 : Nat) : Int), ((p 3 : Nat) : Int)) 2 (by decide) W
        have HJ := Lib.hid (And.intro (show ∀ W, (Instr.index 33 (.agg #[.int .i64 ((s 0 : Nat) : Int), .int .i64 ((s 1 : Nat) : Int), .int .i64 ((s 2 : Nat) : Int), .int .i64 ((s 3 : Nat) : Int)]) (.int .i64 0)).run Try.prog W = .ok (.int .i64 ((s 0 : Nat) : Int)) W from fun W => kd_index (((s 0 : Nat) : Int), ((s 1 : Nat) : Int), ((s 2 : Nat) : Int), ((s 3 : Nat) : Int)) 0 (by decide) W) (And.intro (show ∀ W, (Instr.index 33 (.agg #[.int .i64 ((s 0 : Nat) : Int), .int .i64 ((s 1 : Nat) : Int), .int .i64 ((s 2 : Nat) : Int), .int .i64 ((s 3 : Nat) : Int)]) (.int .i64 1)).run Try.prog W = .ok (.int .i64 ((s 1 : Nat) : Int)) W from fun W => kd_index (((s 0 : Nat) : Int), ((s 1 : Nat) : Int), ((s 2 : Nat) : Int), ((s 3 : Nat) : Int)) 1 (by decide) W) (And.intro (show ∀ W, (Instr.index 33 (.agg #[.int .i64 ((s 0 : Nat) : Int), .int .i64 ((s 1 : Nat) : Int), .int .i64 ((s 2 : Nat) : Int), .int .i64 ((s 3 : Nat) : Int)]) (.int .i64 2)).run Try.prog W = .ok (.int .i64 ((s 2 : Nat) : Int)) W from fun W => kd_index (((s 0 : Nat) : Int), ((s 1 : Nat) : Int), ((s 2 : Nat) : Int), ((s 3 : Nat) : Int)) 2 (by decide) W) (show ∀ W, (Instr.index 33 (.agg #[.int .i64 ((s 0 : Nat) : Int), .int .i64 ((s 1 : Nat) : Int), .int .i64 ((s 2 : Nat) : Int), .int .i64 ((s 3 : Nat) : Int)]) (.int .i64 3)).run Try.prog W = .ok (.int .i64 ((s 3 : Nat) : Int)) W from fun W => kd_index (((s 0 : Nat) : Int), ((s 1 : Nat) : Int), ((s 2 : Nat) : Int), ((s 3 : Nat) : Int)) 3 (by decide) W))))
        go_wp2_with fail
        clear y1 y2 y3 y4 ix
        go_loopw [35] (fun u wq => ∃ j : Nat, j ≤ 4 ∧ u = .int .i64 j ∧ wq = wr ∧ Hid (∀ j', j' < j → j' + 2 ≠ 3 → P 2 j' = 0)) (fun u _ => 4 - (intOf u).toNat)
        case atStart => exact ⟨0, by decide, rfl, rfl, (show Hid _ from fun j' h => absurd h (Nat.not_lt_zero _))⟩
        case round =>
          obtain ⟨j, hj, rfl, rfl, HQ⟩ := hrel
          by_cases hj4 : j < 4
          · rcases (by omega : j = 0 ∨ j = 1 ∨ j = 2 ∨ j = 3) with rfl | rfl | rfl | rfl
            · as_aux_lemma =>
              have jx := HJ.out.1
              clear HJ
              have hsl := HS.out 0 (by decide)
              have hsz : ((s 0 : Nat) : Int) < (l.length : Int) := by omega
              have z5 := (HND.out (s 0) hsl).2.2.2.2.2
              rw [← HPI.out 0] at z5
              obtain ⟨pj, hpj⟩ : ∃ x, x = P 2 0 := ⟨_, rfl⟩
              rw [← hpj] at z5
              have HPJ := Lib.hid hpj
              clear hpj
              by_cases h0 : pj = 0
              · subst h0
                go_wp2_with fail
                go_roundw
                case measure => decide
                case rel => exact ⟨1, by decide, by go_num, (by trivial), (show Hid _ from fun j' h hn => by rcases (by omega : j' < 0 ∨ j' = 0) with h2 | rfl; exact HQ.out j' h2 hn; exact HPJ.out.symm)⟩
              · have h0b : (pj != 0) = true := by rw [bne_iff_ne]; exact h0
                have HN0 := Lib.hid (show P 2 0 ≠ 0 by rw [← HPJ.out]; exact h0)
                go_wp2_with fail
                go_ret
                refine ⟨?_, HA.out⟩
                have hf : D = false := by rw [HD.out]; exact decide_eq_false fun h => HN0.out ((HDB.out 4).1 h 2 (by decide) 0 (by decide) (by decide))
                rw [hf] <;> rfl
            · as_aux_lemma =>
              have jx := HJ.out.2.1
              clear HJ
              go_wp2_with fail
              go_roundw
              case measure => decide
              case rel => exact ⟨2, by decide, by go_num, (by trivial), (show Hid _ from fun j' h hn => HQ.out j' (by omega) hn)⟩
            · as_aux_lemma =>
              have jx := HJ.out.2.2.1
              clear HJ
              have hsl := HS.out 2 (by decide)
              have hsz : ((s 2 : Nat) : Int) < (l.length : Int) := by omega
              have z5 := (HND.out (s 2) hsl).2.2.2.2.2
              rw [← HPI.out 2] at z5
              obtain ⟨pj, hpj⟩ : ∃ x, x = P 2 2 := ⟨_, rfl⟩
              rw [← hpj] at z5
              have HPJ := Lib.hid hpj
              clear hpj
              by_cases h0 : pj = 0
              · subst h0
                go_wp2_with fail
                go_roundw
                case measure => decide
                case rel => exact ⟨3, by decide, by go_num, (by trivial), (show Hid _ from fun j' h hn => by rcases (by omega : j' < 2 ∨ j' = 2) with h2 | rfl; exact HQ.out j' h2 hn; exact HPJ.out.symm)⟩
              · have h0b : (pj != 0) = true := by rw [bne_iff_ne]; exact h0
                have HN0 := Lib.hid (show P 2 2 ≠ 0 by rw [← HPJ.out]; exact h0)
                go_wp2_with fail
                go_ret
                refine ⟨?_, HA.out⟩
                have hf : D = false := by rw [HD.out]; exact decide_eq_false fun h => HN0.out ((HDB.out 4).1 h 2 (by decide) 2 (by decide) (by decide))
                rw [hf] <;> rfl
            · as_aux_lemma =>
              have jx := HJ.out.2.2.2
              clear HJ
              have hsl := HS.out 3 (by decide)
              have hsz : ((s 3 : Nat) : Int) < (l.length : Int) := by omega
              have z5 := (HND.out (s 3) hsl).2.2.2.2.2
              rw [← HPI.out 3] at z5
              obtain ⟨pj, hpj⟩ : ∃ x, x = P 2 3 := ⟨_, rfl⟩
              rw [← hpj] at z5
              have HPJ := Lib.hid hpj
              clear hpj
              by_cases h0 : pj = 0
              · subst h0
                go_wp2_with fail
                go_roundw
                case measure => decide
                case rel => exact ⟨4, by decide, by go_num, (by trivial), (show Hid _ from fun j' h hn => by rcases (by omega : j' < 3 ∨ j' = 3) with h2 | rfl; exact HQ.out j' h2 hn; exact HPJ.out.symm)⟩
              · have h0b : (pj != 0) = true := by rw [bne_iff_ne]; exact h0
                have HN0 := Lib.hid (show P 2 3 ≠ 0 by rw [← HPJ.out]; exact h0)
                go_wp2_with fail
                go_ret
                refine ⟨?_, HA.out⟩
                have hf : D = false := by rw [HD.out]; exact decide_eq_false fun h => HN0.out ((HDB.out 4).1 h 2 (by decide) 3 (by decide) (by decide))
                rw [hf] <;> rfl
          · have hj4 : j = 4 := by omega
            subst hj4
            go_wp2_with fail
            go_roundw
            case measure => decide
            case rel => exact ⟨3, by decide, by go_num, (by trivial), (show Hid _ from fun i' h j' hj hn => by rcases (by omega : i' < 2 ∨ i' = 2) with h2 | rfl; exact HH.out i' h2 j' hj hn; exact HQ.out j' hj hn)⟩
      · as_aux_lemma =>
        have ix : ∀ W, (Instr.index 33 (.agg #[.int .i64 ((p 0 : Nat) : Int), .int .i64 ((p 1 : Nat) : Int), .int .i64 ((p 2 : Nat) : Int), .int .i64 ((p 3 : Nat) : Int)]) (.int .i64 3)).run Try.prog W = .ok (.int .i64 ((p 3 : Nat) : Int)) W := fun W => kd_index (((p 0 : Nat) : Int), ((p 1 : Nat) : Int), ((p 2 : Nat) : Int), ((p 3 : Nat) : Int)) 3 (by decide) W
        have HJ := Lib.hid (And.intro (show ∀ W, (Instr.index 33 (.agg #[.int .i64 ((s 0 : Nat) : Int), .int .i64 ((s 1 : Nat) : Int), .int .i64 ((s 2 : Nat) : Int), .int .i64 ((s 3 : Nat) : Int)]) (.int .i64 0)).run Try.prog W = .ok (.int .i64 ((s 0 : Nat) : Int)) W from fun W => kd_index (((s 0 : Nat) : Int), ((s 1 : Nat) : Int), ((s 2 : Nat) : Int), ((s 3 : Nat) : Int)) 0 (by decide) W) (And.intro (show ∀ W, (Instr.index 33 (.agg #[.int .i64 ((s 0 : Nat) : Int), .int .i64 ((s 1 : Nat) : Int), .int .i64 ((s 2 : Nat) : Int), .int .i64 ((s 3 : Nat) : Int)]) (.int .i64 1)).run Try.prog W = .ok (.int .i64 ((s 1 : Nat) : Int)) W from fun W => kd_index (((s 0 : Nat) : Int), ((s 1 : Nat) : Int), ((s 2 : Nat) : Int), ((s 3 : Nat) : Int)) 1 (by decide) W) (And.intro (show ∀ W, (Instr.index 33 (.agg #[.int .i64 ((s 0 : Nat) : Int), .int .i64 ((s 1 : Nat) : Int), .int .i64 ((s 2 : Nat) : Int), .int .i64 ((s 3 : Nat) : Int)]) (.int .i64 2)).run Try.prog W = .ok (.int .i64 ((s 2 : Nat) : Int)) W from fun W => kd_index (((s 0 : Nat) : Int), ((s 1 : Nat) : Int), ((s 2 : Nat) : Int), ((s 3 : Nat) : Int)) 2 (by decide) W) (show ∀ W, (Instr.index 33 (.agg #[.int .i64 ((s 0 : Nat) : Int), .int .i64 ((s 1 : Nat) : Int), .int .i64 ((s 2 : Nat) : Int), .int .i64 ((s 3 : Nat) : Int)]) (.int .i64 3)).run Try.prog W = .ok (.int .i64 ((s 3 : Nat) : Int)) W from fun W => kd_index (((s 0 : Nat) : Int), ((s 1 : Nat) : Int), ((s 2 : Nat) : Int), ((s 3 : Nat) : Int)) 3 (by decide) W))))
        go_wp2_with fail
        clear y1 y2 y3 y4 ix
        go_loopw [35] (fun u wq => ∃ j : Nat, j ≤ 4 ∧ u = .int .i64 j ∧ wq = wr ∧ Hid (∀ j', j' < j → j' + 3 ≠ 3 → P 3 j' = 0)) (fun u _ => 4 - (intOf u).toNat)
        case atStart => exact ⟨0, by decide, rfl, rfl, (show Hid _ from fun j' h => absurd h (Nat.not_lt_zero _))⟩
        case round =>
          obtain ⟨j, hj, rfl, rfl, HQ⟩ := hrel
          by_cases hj4 : j < 4
          · rcases (by omega : j = 0 ∨ j = 1 ∨ j = 2 ∨ j = 3) with rfl | rfl | rfl | rfl
            · as_aux_lemma =>
              have jx := HJ.out.1
              clear HJ
              go_wp2_with fail
              go_roundw
              case measure => decide
              case rel => exact ⟨1, by decide, by go_num, (by trivial), (show Hid _ from fun j' h hn => HQ.out j' (by omega) hn)⟩
            · as_aux_lemma =>
              have jx := HJ.out.2.1
              clear HJ
              have hsl := HS.out 1 (by decide)
              have hsz : ((s 1 : Nat) : Int) < (l.length : Int) := by omega
              have z5 := (HND.out (s 1) hsl).2.2.2.2.2
              rw [← HPI.out 1] at z5
              obtain ⟨pj, hpj⟩ : ∃ x, x = P 3 1 := ⟨_, rfl⟩
              rw [← hpj] at z5
              have HPJ := Lib.hid hpj
              clear hpj
              by_cases h0 : pj = 0
              · subst h0
                go_wp2_with fail
                go_roundw
                case measure => decide
                case rel => exact ⟨2, by decide, by go_num, (by trivial), (show Hid _ from fun j' h hn => by rcases (by omega : j' < 1 ∨ j' = 1) with h2 | rfl; exact HQ.out j' h2 hn; exact HPJ.out.symm)⟩
              · have h0b : (pj != 0) = true := by rw [bne_iff_ne]; exact h0
                have HN0 := Lib.hid (show P 3 1 ≠ 0 by rw [← HPJ.out]; exact h0)
                go_wp2_with fail
                go_ret
                refine ⟨?_, HA.out⟩
                have hf : D = false := by rw [HD.out]; exact decide_eq_false fun h => HN0.out ((HDB.out 4).1 h 3 (by decide) 1 (by decide) (by decide))
                rw [hf] <;> rfl
            · as_aux_lemma =>
              have jx := HJ.out.2.2.1
              clear HJ
              have hsl := HS.out 2 (by decide)
              have hsz : ((s 2 : Nat) : Int) < (l.length : Int) := by omega
              have z5 := (HND.out (s 2) hsl).2.2.2.2.2
              rw [← HPI.out 2] at z5
              obtain ⟨pj, hpj⟩ : ∃ x, x = P 3 2 := ⟨_, rfl⟩
              rw [← hpj] at z5
              have HPJ := Lib.hid hpj
              clear hpj
              by_cases h0 : pj = 0
              · subst h0
                go_wp2_with fail
                go_roundw
                case measure => decide
                case rel => exact ⟨3, by decide, by go_num, (by trivial), (show Hid _ from fun j' h hn => by rcases (by omega : j' < 2 ∨ j' = 2) with h2 | rfl; exact HQ.out j' h2 hn; exact HPJ.out.symm)⟩
              · have h0b : (pj != 0) = true := by rw [bne_iff_ne]; exact h0
                have HN0 := Lib.hid (show P 3 2 ≠ 0 by rw [← HPJ.out]; exact h0)
                go_wp2_with fail
                go_ret
                refine ⟨?_, HA.out⟩
                have hf : D = false := by rw [HD.out]; exact decide_eq_false fun h => HN0.out ((HDB.out 4).1 h 3 (by decide) 2 (by decide) (by decide))
                rw [hf] <;> rfl
            · as_aux_lemma =>
              have jx := HJ.out.2.2.2
              clear HJ
              have hsl := HS.out 3 (by decide)
              have hsz : ((s 3 : Nat) : Int) < (l.length : Int) := by omega
              have z5 := (HND.out (s 3) hsl).2.2.2.2.2
              rw [← HPI.out 3] at z5
              obtain ⟨pj, hpj⟩ : ∃ x, x = P 3 3 := ⟨_, rfl⟩
              rw [← hpj] at z5
              have HPJ := Lib.hid hpj
              clear hpj
              by_cases h0 : pj = 0
              · subst h0
                go_wp2_with fail
                go_roundw
                case measure => decide
                case rel => exact ⟨4, by decide, by go_num, (by trivial), (show Hid _ from fun j' h hn => by rcases (by omega : j' < 3 ∨ j' = 3) with h2 | rfl; exact HQ.out j' h2 hn; exact HPJ.out.symm)⟩
              · have h0b : (pj != 0) = true := by rw [bne_iff_ne]; exact h0
                have HN0 := Lib.hid (show P 3 3 ≠ 0 by rw [← HPJ.out]; exact h0)
                go_wp2_with fail
                go_ret
                refine ⟨?_, HA.out⟩
                have hf : D = false := by rw [HD.out]; exact decide_eq_false fun h => HN0.out ((HDB.out 4).1 h 3 (by decide) 3 (by decide) (by decide))
                rw [hf] <;> rfl
          · have hj4 : j = 4 := by omega
            subst hj4
            go_wp2_with fail
            go_roundw
            case measure => decide
            case rel => exact ⟨4, by decide, by go_num, (by trivial), (show Hid _ from fun i' h j' hj hn => by rcases (by omega : i' < 3 ∨ i' = 3) with h2 | rfl; exact HH.out i' h2 j' hj hn; exact HQ.out j' hj hn)⟩
    · have hi4 : i = 4 := by omega
      subst hi4
      go_wp2_with fail
      go_ret
      refine ⟨?_, HA.out⟩
      have hf : D = true := by rw [HD.out]; exact decide_eq_true ((HDB.out 4).2 HH.out)
      rw [hf] <;> rfl
end Go.Proofs.Ytklccoodfhejbaa
namespace Go.Proofs.Ytklccoodfhejbaa
set_option maxRecDepth 100000
set_option linter.unusedVariables false
set_option linter.unusedSimpArgs false
open Go.RowKit Go.Sort

/-- trim's answer for a node of the level e + 2 -/
def trimN (room : Int) : Nat → List Nd → Nat → Zn
  | 0, l, k => (l, (k : Int), 0)
  | e + 1, l, k => if DeadB l k 4 then andZ (centreZ room l (k : Int)) (fun m p => trimN room e m p.toNat) else (l, (k : Int), 0)
/-- the level of a node of the index -/
def levW (w : World) (g : Nat) (v : Value) : Nat := match w.cell? ⟨g, 0, none⟩ with
  | some (.slice (some a) _ _) => (match w.cell? ⟨a.block, (intOf v).toNat * 6, none⟩ with | some (.int _ x) => x.toNat | _ => 0)
  | _ => 0
theorem levW_of {n0 : Nat} {w : World} {g b : Nat} {l : List Nd} {room : Int} (h : Ix n0 w g b l room) (hr : Right6 l room) {k e : Nat} (hk : Is l e k) : levW w g (.int .i64 (k : Int)) = e := by
  obtain ⟨q, cap, g0, g1, hrd, hcap, hnd⟩ := ix_rd h hr.two
  have x0 := (hnd k hk.lt).1
  unfold levW
  rw [g0]
  have hi : (intOf (.int .i64 (k : Int))).toNat = k := by simp [intOf]
  simp only [hi]
  rw [x0]
  have h1 := hk.lev
  show ((l.getD k deadN).1).toNat = e
  omega
set_option maxHeartbeats 8000000 in
theorem trim_any {n0 g b mb : Nat} {room : Int} {l : List Nd} {w : World} (hin : LIn n0 w g b mb l room) {k e : Nat} (hk : Is l (e + 2) k) (he : e ≤ 40) :
    Calls Try.prog 46 #[makerL g mb, .int .i64 (k : Int)] w (LpR (trimN room e l k) n0 g b mb room w) := by
  have hn0 := hin.ix.hB
  have hal := (Below.refl w.heap.size w).alloc (Nat.le_refl _) (.cells #[.pointer (some ⟨g, 0, none⟩), .map (some mb)] 76)
  have hM : ML (w.alloc (.cells #[.pointer (some ⟨g, 0, none⟩), .map (some mb)] 76)) w.heap.size g mb := heap_new rfl
  have HI := Lib.hid (hin.below hal)
  have HM := Lib.hid hM
  have HA := Lib.hid (BelL.of hal hn0)
  obtain ⟨Z, hZ⟩ : ∃ Z, Z = trimN room e l k := ⟨_, rfl⟩
  rw [← hZ]
  have HZ := Lib.hid hZ
  have HK := Lib.hid hk
  clear hal hM hin hZ hk
  go_enter Try.func46, Try.ntmps46
  go_wp2_with fail
  generalize (w.alloc (.cells #[.pointer (some ⟨g, 0, none⟩), .map (some mb)] 76)) = w0 at *
  go_loopw [1] (fun v wr => ∃ (e' k' : Nat) (m : List Nd), v = .int .i64 k' ∧ Hid (e' ≤ 40 ∧ Is m (e' + 2) k' ∧ LIn n0 wr g b mb m room ∧ ML wr w.heap.size g mb ∧ BelL n0 w wr ∧ Z = trimN room e' m k')) (fun v wr => levW wr g v)
  case atStart => exact ⟨e, k, l, rfl, (show Hid _ from ⟨he, HK.out, HI.out, HM.out, HA.out, HZ.out⟩)⟩
  case round =>
    obtain ⟨e', k', m, rfl, HH⟩ := hrel
    clear HI HM HA HZ HK
    obtain ⟨he', hk', hL, hMl, hB, hZ⟩ := HH.out
    have m0 := hMl.c0
    have m1 := hMl.c1
    have hlv := levelL_any room n0 g b mb m k' hk'.lt wr hL.ix hL.right
    obtain ⟨lev, hlev⟩ : ∃ lev : Int, lev = (e' : Int) + 2 := ⟨_, rfl⟩
    rw [show (m.getD k' deadN).1 = lev by rw [hk'.lev, hlev]; omega] at hlv
    have HL := Lib.hid hL
    have HMl := Lib.hid hMl
    have HB := Lib.hid hB
    have HK := Lib.hid hk'
    have HZ := Lib.hid hZ
    clear hL hMl hB hk' hZ
    cases e' with
    | zero =>
      have hz : Z = (m, (k' : Int), 0) := HZ.out
      subst hz
      have hl2 : ¬ 2 < lev := by omega
      clear HZ HH hlev
      go_wp2_with fail
      refine hlv.mono ?_
      rintro r w1 ⟨rfl, hb1⟩
      have HL1 := Lib.hid (HL.out.below hb1)
      have HB1 := Lib.hid (HB.out.trans (.of hb1 HL.out.ix.hB))
      clear hlv hb1 m0 m1
      go_wp2_with fail
      go_ret2
      exact ⟨rfl, fun _ => HL1.out, HB1.out⟩
    | succ e' =>
      have hl2 : 2 < lev := by omega
      go_wp2_with fail
      refine hlv.mono ?_
      rintro r w1 ⟨rfl, hb1⟩
      have HL1 := Lib.hid (HL.out.below hb1)
      have HB1 := Lib.hid (HB.out.trans (.of hb1 HL.out.ix.hB))
      have HM1 := Lib.hid (HMl.out.below hb1)
      have m0' := HM1.out.c0
      have m1' := HM1.out.c1
      have hda := deadAbout_any room n0 g b mb m HK.out w1 HL1.out.ix HL1.out.right
      have hz : Z = if decide (DeadB m k' 4) = true then andZ (centreZ room m (k' : Int)) (fun m p => trimN room e' m p.toNat) else (m, (k' : Int), 0) := by
        rw [HZ.out]
        show (if DeadB m k' 4 then _ else _) = _
        by_cases h : DeadB m k' 4
        · rw [if_pos h, if_pos (decide_eq_true h)]
        · rw [if_neg h, if_neg (by simp [h])]
      obtain ⟨D, hD⟩ : ∃ D, D = decide (DeadB m k' 4) := ⟨_, rfl⟩
      rw [← hD] at hda hz
      have HZ1 := Lib.hid hz
      clear hlv hb1 m0 m1 HZ hz hD
      go_wp2_with fail
      refine hda.mono ?_
      rintro r w2 ⟨rfl, hb2⟩
      have HL2 := Lib.hid (HL1.out.below hb2)
      have HB2 := Lib.hid (HB1.out.trans (.of hb2 HL1.out.ix.hB))
      have HM2 := Lib.hid (HM1.out.below hb2)
      have m0 := HM2.out.c0
      have m1 := HM2.out.c1
      clear hda hb2 m0' m1'
      cases D with
      | false =>
        have hz : Z = (m, (k' : Int), 0) := by rw [HZ1.out, if_neg (by decide)]
        subst hz
        clear m0 m1
        go_wp2_with fail
        go_ret2
        exact ⟨rfl, fun _ => HL2.out, HB2.out⟩
      | true =>
        have hz : Z = andZ (centreZ room m (k' : Int)) (fun m p => trimN room e' m p.toNat) := by rw [HZ1.out, if_pos rfl]
        have hce := makerCentre_any room n0 g b m (k' : Int) w2 HL2.out.ix HL2.out.right
        have hdn := (Sf.of HL2.out.right (e := e' + 2) (n := k') HK.out (by omega)).centre
        obtain ⟨E, hE⟩ : ∃ E, E = centreZ room m (k' : Int) := ⟨_, rfl⟩
        have hok : E.2.2 = 0 → ∃ p : Nat, E.2.1 = (p : Int) ∧ Grows m E.1 ∧ Right6 E.1 room ∧ Is E.1 (e' + 2) p := by
          intro h0
          rw [hE] at h0
          obtain ⟨gr, rr, p, hp, hq, _⟩ := Done.ok hdn h0
          rw [hE]
          exact ⟨p, hp, gr, rr, hq.is⟩
        rw [← hE] at hz hce
        have HOK := Lib.hid hok
        obtain ⟨em, ep, ee⟩ := E
        have HZ2 := Lib.hid hz
        clear hdn hE hok hz HZ1
        by_cases h0 : ee = 0
        · subst h0
          obtain ⟨p, hp, gr, rr, hip⟩ := HOK.out rfl
          dsimp only at hp
          subst hp
          have HG := Lib.hid (And.intro gr (And.intro rr hip))
          clear gr rr hip HOK
          go_wp2_with fail
          refine hce.mono ?_
          rintro r w3 ⟨rfl, hi3, hb3⟩
          have HL3 := Lib.hid (HL2.out.base hb3 hi3 HG.out.2.1 HG.out.1)
          have HB3 := Lib.hid (HB2.out.trans hb3.l)
          have HM3 := Lib.hid (HM2.out.kp hb3.l.kp)
          clear hce hi3 hb3 m0 m1
          go_wp2_with fail
          go_roundw
          case measure =>
            show levW _ g (.int .i64 (p : Int)) < levW _ g (.int .i64 (k' : Int))
            rw [levW_of HL3.out.ix HL3.out.right HG.out.2.2, levW_of HL.out.ix HL.out.right HK.out]
            omega
          case rel => exact ⟨e', p, em, rfl, (show Hid _ from ⟨by omega, HG.out.2.2, HL3.out, HM3.out, HB3.out, by rw [HZ2.out]; exact and_yes rfl⟩)⟩
        · have hz : Z = (em, 0, ee) := by rw [HZ2.out]; exact and_no h0
          subst hz
          have h0b : (ee != 0) = true := by rw [bne_iff_ne]; exact h0
          have HB' := fun W (h : BelK n0 b w2 W) => HB2.out.trans h.l
          have HBB := Lib.hid HB'
          clear HB' HOK
          go_wp2_with fail
          refine hce.mono ?_
          rintro r w3 ⟨rfl, hi3, hb3⟩
          have HB3 := Lib.hid (HBB.out _ hb3)
          clear hce hi3 hb3 m0 m1
          go_wp2_with fail
          go_ret2
          exact ⟨rfl, fun h => absurd h h0, HB3.out⟩
end Go.Proofs.Ytklccoodfhejbaa
namespace Go.Proofs.Ytklccoodfhejbaa
set_option maxRecDepth 100000
set_option linter.unusedVariables false
set_option linter.unusedSimpArgs false
open Go.RowKit Go.Sort

/-- grown's answer for a node of the level 42 - d that was grown t times -/
def grownN (room : Int) (jn : Nat) : Nat → Nat → List Nd → Nat → Zn
  | 0, t, l, k => if t < 2 ∨ 42 < jn + 3 + 0 then (l, 0, 2) else (l, (k : Int), 0)
  | d + 1, t, l, k => if t < 2 ∨ 42 < jn + 3 + (d + 1) then andZ (growZ room l (k : Int)) (fun m p => grownN room jn d (t + 1) m p.toNat) else (l, (k : Int), 0)
theorem grownN_no {room : Int} {jn d t : Nat} {l : List Nd} {k : Nat} (h : ¬ (t < 2 ∨ 42 < jn + 3 + d)) : grownN room jn d t l k = (l, (k : Int), 0) := by
  cases d with
  | zero => exact if_neg h
  | succ d => exact if_neg h
set_option maxHeartbeats 8000000 in
theorem grown_any {n0 g b mb : Nat} {room : Int} {l : List Nd} {w : World} (hin : LIn n0 w g b mb l room) {k L d : Nat} (hk : Is l L k) (hL : L + d = 42) (h2 : 2 ≤ L) (jn : Nat) (hj : jn ≤ 100) :
    Calls Try.prog 73 #[makerL g mb, .int .i64 (k : Int), .int .i64 (jn : Int)] w (LpR (grownN room jn d 0 l k) n0 g b mb room w) := by
  have hn0 := hin.ix.hB
  have hal := (Below.refl w.heap.size w).alloc (Nat.le_refl _) (.cells #[.pointer (some ⟨g, 0, none⟩), .map (some mb)] 76)
  have hM : ML (w.alloc (.cells #[.pointer (some ⟨g, 0, none⟩), .map (some mb)] 76)) w.heap.size g mb := heap_new rfl
  have HI := Lib.hid (hin.below hal)
  have HM := Lib.hid hM
  have HA := Lib.hid (BelL.of hal hn0)
  obtain ⟨Z, hZ⟩ : ∃ Z, Z = grownN room jn d 0 l k := ⟨_, rfl⟩
  rw [← hZ]
  have HZ := Lib.hid hZ
  have HK := Lib.hid hk
  have hw3 : IntKind.i64.wrap ((jn : Int) + 3) = (jn : Int) + 3 := by rw [IntKind.wrap_i64]; omega
  clear hal hM hin hZ hk
  go_enter Try.func73, Try.ntmps73
  go_wp2_with fail
  generalize (w.alloc (.cells #[.pointer (some ⟨g, 0, none⟩), .map (some mb)] 76)) = w0 at *
  go_loopw [1, 8] (fun v u wr => ∃ (t d' L' k' : Nat) (m : List Nd), v = .int .i64 k' ∧ u = .int .i64 t ∧ Hid (t + d' ≤ 40 ∧ L' + d' = 42 ∧ 2 ≤ L' ∧ Is m L' k' ∧ LIn n0 wr g b mb m room ∧ ML wr w.heap.size g mb ∧ BelL n0 w wr ∧ Z = grownN room jn d' t m k')) (fun v u wr => 43 - levW wr g v)
  case atStart => exact ⟨0, d, L, k, l, rfl, rfl, (show Hid _ from ⟨by omega, hL, h2, HK.out, HI.out, HM.out, HA.out, HZ.out⟩)⟩
  case round =>
    obtain ⟨t, d', L', k', m, rfl, rfl, HH⟩ := hrel
    clear HI HM HA HZ HK
    obtain ⟨htd, hL', h2', hk', hLn, hMl, hB, hZ⟩ := HH.out
    have hlv := levelL_any room n0 g b mb m k' hk'.lt wr hLn.ix hLn.right
    have hlev0 : (m.getD k' deadN).1 = (L' : Int) := hk'.lev
    rw [hlev0] at hlv
    have HL := Lib.hid hLn
    have HMl := Lib.hid hMl
    have HB := Lib.hid hB
    have HK := Lib.hid hk'
    have HZ := Lib.hid hZ
    have m0 := hMl.c0
    have m1 := hMl.c1
    have hwt : IntKind.i64.wrap ((t : Int) + 1) = (t : Int) + 1 := by rw [IntKind.wrap_i64]; omega
    clear hLn hMl hB hk' hZ
    by_cases ht : t < 2
    · have htz : (t : Int) < 2 := by omega
      have HC := Lib.hid (show t < 2 ∨ 42 < jn + 3 + d' from .inl ht)
      have HL1 := HL
      have HB1 := HB
      have HM1 := HMl
      clear hlv m0 m1
      have m0 := HM1.out.c0
      have m1 := HM1.out.c1
      have hlv2 := levelL_any room n0 g b mb m k' HK.out.lt _ HL1.out.ix HL1.out.right
      rw [hlev0] at hlv2
      cases d' with
      | zero =>
        have hz : Z = (m, 0, 2) := by rw [HZ.out]; exact if_pos HC.out
        obtain rfl : L' = 42 := by omega
        subst hz
        clear HC HH
        go_wp2_with fail
        refine hlv2.mono ?_
        rintro r w2 ⟨rfl, hb2⟩
        have HB2 := Lib.hid (HB1.out.trans (.of hb2 HL1.out.ix.hB))
        clear hlv2 hb2 m0 m1
        go_wp2_with fail
        go_ret2
        exact LpR.no (by decide) HB2.out
      | succ d' =>
        have hz : Z = andZ (growZ room m (k' : Int)) (fun m p => grownN room jn d' (t + 1) m p.toNat) := by rw [HZ.out]; exact if_pos HC.out
        have hne : ((L' : Int) == 42) = false := beq_eq_false_iff_ne.2 (by omega)
        have hne2 : ¬ (L' : Int) = 42 := by omega
        obtain ⟨e, he⟩ : ∃ e, L' = e + 1 := ⟨L' - 1, by omega⟩
        have hdn := grow_done HL1.out.right (e := e) (n := k') (by rw [← he]; exact HK.out) (by omega)
        obtain ⟨E, hE⟩ : ∃ E, E = growZ room m (k' : Int) := ⟨_, rfl⟩
        have hok : E.2.2 = 0 → ∃ p : Nat, E.2.1 = (p : Int) ∧ Grows m E.1 ∧ Right6 E.1 room ∧ Is E.1 (L' + 1) p := by
          intro h0
          rw [hE] at h0
          obtain ⟨gr, rr, p, hp, hq, _⟩ := Done.ok hdn h0
          rw [hE]
          refine ⟨p, hp, gr, rr, ?_⟩
          rw [he]
          exact hq.1
        have hgr := fun W hix => makerGrow_any room n0 g b m (k' : Int) W hix HL1.out.right
        rw [← hE] at hz
        simp only [← hE] at hgr
        have HOK := Lib.hid hok
        have HGR := Lib.hid hgr
        obtain ⟨em, ep, ee⟩ := E
        have HZ2 := Lib.hid hz
        clear hdn hE hok hz hgr HZ HC HH he
        go_wp2_with fail
        refine hlv2.mono ?_
        rintro r w2 ⟨rfl, hb2⟩
        have HL2 := Lib.hid (HL1.out.below hb2)
        have HB2 := Lib.hid (HB1.out.trans (.of hb2 HL1.out.ix.hB))
        have HM2 := Lib.hid (HM1.out.below hb2)
        have n0' := HM2.out.c0
        have hgw := HGR.out w2 HL2.out.ix
        clear hlv2 hb2 m0 m1 HGR
        by_cases h0 : ee = 0
        · subst h0
          obtain ⟨p, hp, gr, rr, hip⟩ := HOK.out rfl
          try dsimp only at hp
          subst hp
          have HG := Lib.hid (And.intro gr (And.intro rr hip))
          clear gr rr hip HOK
          go_wp2_with fail
          refine hgw.mono ?_
          rintro r w3 ⟨rfl, hi3, hb3⟩
          have HL3 := Lib.hid (HL2.out.base hb3 hi3 HG.out.2.1 HG.out.1)
          have HB3 := Lib.hid (HB2.out.trans hb3.l)
          have HM3 := Lib.hid (HM2.out.kp hb3.l.kp)
          clear hgw hi3 hb3 n0'
          go_wp2_with fail
          go_roundw
          case measure =>
            show 43 - levW _ g (.int .i64 (p : Int)) < 43 - levW _ g (.int .i64 (k' : Int))
            rw [levW_of HL3.out.ix HL3.out.right HG.out.2.2, levW_of HL.out.ix HL.out.right HK.out]
            omega
          case rel => exact ⟨t + 1, d', L' + 1, p, em, rfl, by go_num, (show Hid _ from ⟨by omega, by omega, by omega, HG.out.2.2, HL3.out, HM3.out, HB3.out, by rw [HZ2.out]; exact and_yes rfl⟩)⟩
        · have hz : Z = (em, 0, ee) := by rw [HZ2.out]; exact and_no h0
          subst hz
          have h0b : (ee != 0) = true := by rw [bne_iff_ne]; exact h0
          have HBB := Lib.hid (fun W (h : BelK n0 b w2 W) => HB2.out.trans h.l)
          clear HOK
          go_wp2_with fail
          refine hgw.mono ?_
          rintro r w3 ⟨rfl, hi3, hb3⟩
          have HB3 := Lib.hid (HBB.out _ hb3)
          clear hgw hi3 hb3 n0'
          go_wp2_with fail
          go_ret2
          exact ⟨rfl, fun h => absurd h h0, HB3.out⟩
    · have htz : ¬ (t : Int) < 2 := by omega
      by_cases hlj : 42 < jn + 3 + d'
      · have hlz : (L' : Int) < (jn : Int) + 3 := by omega
        have HC := Lib.hid (show t < 2 ∨ 42 < jn + 3 + d' from .inr hlj)
        go_wp2_with fail
        refine hlv.mono ?_
        rintro r w1 ⟨rfl, hb1⟩
        have HL1 := Lib.hid (HL.out.below hb1)
        have HB1 := Lib.hid (HB.out.trans (.of hb1 HL.out.ix.hB))
        have HM1 := Lib.hid (HMl.out.below hb1)
        clear hlv hb1 m0 m1
        have m0 := HM1.out.c0
        have m1 := HM1.out.c1
        have hlv2 := levelL_any room n0 g b mb m k' HK.out.lt _ HL1.out.ix HL1.out.right
        rw [hlev0] at hlv2
        cases d' with
        | zero =>
          have hz : Z = (m, 0, 2) := by rw [HZ.out]; exact if_pos HC.out
          obtain rfl : L' = 42 := by omega
          subst hz
          clear HC HH
          go_wp2_with fail
          refine hlv2.mono ?_
          rintro r w2 ⟨rfl, hb2⟩
          have HB2 := Lib.hid (HB1.out.trans (.of hb2 HL1.out.ix.hB))
          clear hlv2 hb2 m0 m1
          go_wp2_with fail
          go_ret2
          exact LpR.no (by decide) HB2.out
        | succ d' =>
          have hz : Z = andZ (growZ room m (k' : Int)) (fun m p => grownN room jn d' (t + 1) m p.toNat) := by rw [HZ.out]; exact if_pos HC.out
          have hne : ((L' : Int) == 42) = false := beq_eq_false_iff_ne.2 (by omega)
          have hne2 : ¬ (L' : Int) = 42 := by omega
          obtain ⟨e, he⟩ : ∃ e, L' = e + 1 := ⟨L' - 1, by omega⟩
          have hdn := grow_done HL1.out.right (e := e) (n := k') (by rw [← he]; exact HK.out) (by omega)
          obtain ⟨E, hE⟩ : ∃ E, E = growZ room m (k' : Int) := ⟨_, rfl⟩
          have hok : E.2.2 = 0 → ∃ p : Nat, E.2.1 = (p : Int) ∧ Grows m E.1 ∧ Right6 E.1 room ∧ Is E.1 (L' + 1) p := by
            intro h0
            rw [hE] at h0
            obtain ⟨gr, rr, p, hp, hq, _⟩ := Done.ok hdn h0
            rw [hE]
            refine ⟨p, hp, gr, rr, ?_⟩
            rw [he]
            exact hq.1
          have hgr := fun W hix => makerGrow_any room n0 g b m (k' : Int) W hix HL1.out.right
          rw [← hE] at hz
          simp only [← hE] at hgr
          have HOK := Lib.hid hok
          have HGR := Lib.hid hgr
          obtain ⟨em, ep, ee⟩ := E
          have HZ2 := Lib.hid hz
          clear hdn hE hok hz hgr HZ HC HH he
          go_wp2_with fail
          refine hlv2.mono ?_
          rintro r w2 ⟨rfl, hb2⟩
          have HL2 := Lib.hid (HL1.out.below hb2)
          have HB2 := Lib.hid (HB1.out.trans (.of hb2 HL1.out.ix.hB))
          have HM2 := Lib.hid (HM1.out.below hb2)
          have n0' := HM2.out.c0
          have hgw := HGR.out w2 HL2.out.ix
          clear hlv2 hb2 m0 m1 HGR
          by_cases h0 : ee = 0
          · subst h0
            obtain ⟨p, hp, gr, rr, hip⟩ := HOK.out rfl
            try dsimp only at hp
            subst hp
            have HG := Lib.hid (And.intro gr (And.intro rr hip))
            clear gr rr hip HOK
            go_wp2_with fail
            refine hgw.mono ?_
            rintro r w3 ⟨rfl, hi3, hb3⟩
            have HL3 := Lib.hid (HL2.out.base hb3 hi3 HG.out.2.1 HG.out.1)
            have HB3 := Lib.hid (HB2.out.trans hb3.l)
            have HM3 := Lib.hid (HM2.out.kp hb3.l.kp)
            clear hgw hi3 hb3 n0'
            go_wp2_with fail
            go_roundw
            case measure =>
              show 43 - levW _ g (.int .i64 (p : Int)) < 43 - levW _ g (.int .i64 (k' : Int))
              rw [levW_of HL3.out.ix HL3.out.right HG.out.2.2, levW_of HL.out.ix HL.out.right HK.out]
              omega
            case rel => exact ⟨t + 1, d', L' + 1, p, em, rfl, by go_num, (show Hid _ from ⟨by omega, by omega, by omega, HG.out.2.2, HL3.out, HM3.out, HB3.out, by rw [HZ2.out]; exact and_yes rfl⟩)⟩
          · have hz : Z = (em, 0, ee) := by rw [HZ2.out]; exact and_no h0
            subst hz
            have h0b : (ee != 0) = true := by rw [bne_iff_ne]; exact h0
            have HBB := Lib.hid (fun W (h : BelK n0 b w2 W) => HB2.out.trans h.l)
            clear HOK
            go_wp2_with fail
            refine hgw.mono ?_
            rintro r w3 ⟨rfl, hi3, hb3⟩
            have HB3 := Lib.hid (HBB.out _ hb3)
            clear hgw hi3 hb3 n0'
            go_wp2_with fail
            go_ret2
            exact ⟨rfl, fun h => absurd h h0, HB3.out⟩
      · have hlz : ¬ (L' : Int) < (jn : Int) + 3 := by omega
        have hz : Z = (m, (k' : Int), 0) := by rw [HZ.out]; exact grownN_no (by omega)
        subst hz
        go_wp2_with fail
        refine hlv.mono ?_
        rintro r w1 ⟨rfl, hb1⟩
        have HL1 := Lib.hid (HL.out.below hb1)
        have HB1 := Lib.hid (HB.out.trans (.of hb1 HL.out.ix.hB))
        clear hlv hb1 m0 m1
        go_wp2_with fail
        go_ret2
        exact ⟨rfl, fun _ => HL1.out, HB1.out⟩
end Go.Proofs.Ytklccoodfhejbaa
namespace Go.Proofs.Ytklccoodfhejbaa.Nq
open Go.Lib

/-! ### texts -/
/-! ### the order of texts -/
/-! ### exponents -/
def bitsTo (n k : Nat) : List Int := ((List.range k).filter fun i => n.testBit i).map fun i : Nat => (i : Int)
theorem bitsTo_succ (n k : Nat) : bitsTo n (k + 1) = bitsTo n k ++ if n.testBit k = true then [(k : Int)] else [] := by
  unfold bitsTo
  rw [List.range_succ, List.filter_append, List.map_append]
  congr 1
  by_cases h : n.testBit k = true <;> simp [h]
theorem bitsTo_len (n k : Nat) : (bitsTo n k).length ≤ k := by
  unfold bitsTo
  rw [List.length_map]
  exact Nat.le_trans (List.length_filter_le _ _) (by simp)
theorem bitsTo_bd (n k : Nat) : ∀ e ∈ bitsTo n k, 0 ≤ e ∧ e < k := by
  intro e he
  unfold bitsTo at he
  obtain ⟨i, hi, rfl⟩ := List.mem_map.1 he
  have := List.mem_range.1 (List.mem_filter.1 hi).1
  omega
def bitsL (n : Int) : List Int := if 0 ≤ n ∧ n ≤ 4611686018427387903 then bitsTo n.toNat 62 else []
theorem bitsL_nat {u : Nat} (h : u ≤ 4611686018427387903) : bitsL (u : Int) = bitsTo u 62 := by unfold bitsL; rw [if_pos (by omega)]; simp
theorem bitsL_len (n : Int) : (bitsL n).length ≤ 62 := by
  unfold bitsL
  split
  · exact bitsTo_len _ _
  · simp
theorem bitsL_bd (n : Int) : ∀ e ∈ bitsL n, 0 ≤ e ∧ e ≤ 61 := by
  intro e he
  unfold bitsL at he
  split at he
  · have := bitsTo_bd _ _ e he; omega
  · simp at he
end Go.Proofs.Ytklccoodfhejbaa.Nq
namespace Go.Proofs.Ytklccoodfhejbaa.Nq
open Go.RowKit Go.Sort

def I64 (n : Int) : Prop := -9223372036854775808 ≤ n ∧ n ≤ 9223372036854775807

/-- The table of powers of ten, that the library's Itoa looks into. -/
def tabName : String := Rows.leapTellsRow.named.getD 0 default
def Tab (w : World) : Prop := Lib.TabIs Try.prog w tabName .u64 Lib.pow10Tab
theorem Tab.below {w w' : World} (h : Tab w) (hb : Below w.heap.size w w') : Tab w' := Lib.tabBelow_of_tabIs h w' hb

def pickI (c n : Int) : Int := if c < 0 then (-(c + 1)) % n else c % n
theorem pickI_bd (c n : Int) (hn : 1 ≤ n) : 0 ≤ pickI c n ∧ pickI c n < n := by
  unfold pickI
  split
  · exact ⟨Int.emod_nonneg _ (by omega), Int.emod_lt_of_pos _ (by omega)⟩
  · exact ⟨Int.emod_nonneg _ (by omega), Int.emod_lt_of_pos _ (by omega)⟩

theorem counted_yes (n : Int) (w : World) (h0 : 0 ≤ n) (h1 : n ≤ 4611686018427387903) :
    Calls Try.prog 94 #[.int .i64 n] w fun e w' => e = .returned (.bool true) ∧ w = w' := by
  go_enter Try.func94, Try.ntmps94
  go_wp2
  all_goals go_ret
  all_goals exact ⟨by first | rfl | (simp [*]; done), rfl⟩
theorem counted_no (n : Int) (w : World) (h : n < 0 ∨ 4611686018427387903 < n) :
    Calls Try.prog 94 #[.int .i64 n] w fun e w' => e = .returned (.bool false) ∧ w = w' := by
  rcases h with h | h
  · have h' : ¬ 0 ≤ n := by omega
    go_enter Try.func94, Try.ntmps94
    go_wp2
    all_goals go_ret
    all_goals exact ⟨rfl, rfl⟩
  · have h' : 0 ≤ n := by omega
    have h2 : ¬ n ≤ 4611686018427387903 := by omega
    go_enter Try.func94, Try.ntmps94
    go_wp2
    all_goals go_ret
    all_goals exact ⟨by first | rfl | (simp [*]; done), rfl⟩

/-! ### slices of numbers -/

/-- The slice at A of l.length numbers reads as l, below block B. -/
def Rd (w : World) (B : Nat) (A : Option Addr) (l : List Int) : Prop :=
  ∀ j, j < l.length → ∃ b off, A = some ⟨b, off, none⟩ ∧ b < B ∧ w.cell? ⟨b, off + j, none⟩ = some (.int .i64 (l.getD j 0))

theorem Rd.below {w w' : World} {B B' : Nat} {A : Option Addr} {l : List Int} (h : Rd w B A l) (hb : Below B' w w') (hB : B ≤ B') : Rd w' B A l := fun j hj => by
  obtain ⟨b, off, e, hlt, h0⟩ := h j hj
  exact ⟨b, off, e, hlt, (hb.cell (p := ⟨b, off + j, none⟩) (Nat.lt_of_lt_of_le hlt hB)).trans h0⟩
theorem Rd.more {w : World} {B B' : Nat} {A : Option Addr} {l : List Int} (h : Rd w B A l) (hB : B ≤ B') : Rd w B' A l := fun j hj => by
  obtain ⟨b, off, e, hlt, h0⟩ := h j hj
  exact ⟨b, off, e, by omega, h0⟩
theorem Rd.nil (w : World) (B : Nat) (A : Option Addr) : Rd w B A [] := fun j hj => absurd hj (Nat.not_lt_zero j)
theorem Rd.at_ {w : World} {B : Nat} {A : Option Addr} {l : List Int} (h : Rd w B A l) (hn : 0 < l.length) :
    ∃ b off, A = some ⟨b, off, none⟩ ∧ b < B ∧ ∀ j, j < l.length → w.cell? ⟨b, off + j, none⟩ = some (.int .i64 (l.getD j 0)) := by
  obtain ⟨b, off, e, hlt, _⟩ := h 0 hn
  refine ⟨b, off, e, hlt, fun j hj => ?_⟩
  obtain ⟨b', off', e', _, h0⟩ := h j hj
  rw [e] at e'
  injection e' with e'
  injection e' with e1 e2
  subst e1 e2
  exact h0
/-- A slice whose cells read as a list, now. -/
def Now (w : World) (A : Option Addr) (l : List Int) : Prop := Rd w w.heap.size A l
theorem Now.below {w w' : World} {A : Option Addr} {l : List Int} (h : Now w A l) (hb : Below w.heap.size w w') : Now w' A l := (Rd.below h hb (Nat.le_refl _)).more hb.size
theorem now_nil (w : World) (A : Option Addr) : Now w A [] := Rd.nil _ _ _

/-- A slice that the call itself has made. -/
abbrev Own (w : World) (B : Nat) (v : Value) (l : List Int) : Prop := w.ownsRow B 3 1 v l.length (l.map (Value.int .i64))
/-- It reads as its list. -/
def Reads (w : World) (v : Value) (l : List Int) : Prop := ∃ A c, v = .slice A l.length c ∧ l.length ≤ c ∧ Now w A l
theorem Own.reads {w : World} {B : Nat} {v : Value} {l : List Int} (h : Own w B v l) : Reads w v l := by
  rcases h.2 with ⟨rfl, h0⟩ | ⟨g, cap, cur, rfl, hb, hh, hn, hcap, hsz, htake⟩
  · have : l = [] := by simpa using h0
    subst this
    exact ⟨none, 0, rfl, Nat.le_refl _, now_nil _ _⟩
  · refine ⟨some ⟨g, 0, none⟩, cap, rfl, hn, fun j hj => ⟨g, 0, rfl, (World.ownsRow.lt h g rfl).2, ?_⟩⟩
    have := World.ownsRow.cellAt h j (by simpa using hj)
    rw [Nat.zero_add]
    rw [this]
    simp [List.getD_eq_getElem?_getD, List.getElem?_eq_getElem hj]
theorem Reads.below {w w' : World} {v : Value} {l : List Int} (h : Reads w v l) (hb : Below w.heap.size w w') : Reads w' v l := by
  obtain ⟨A, c, e, hc, hR⟩ := h
  exact ⟨A, c, e, hc, hR.below hb⟩

end Go.Proofs.Ytklccoodfhejbaa.Nq
namespace Go.Proofs.Ytklccoodfhejbaa.Nq
set_option maxRecDepth 100000
open Go.RowKit Go.Sort

def fl (l : List Int) : List Value := l.map (Value.int .i64)
theorem length_fl (l : List Int) : (fl l).length = l.length * 1 := by simp [fl]
theorem fl_append (l m : List Int) : fl (l ++ m) = fl l ++ fl m := List.map_append
theorem fl_at {w : World} {m : List Int} {b off : Nat} (h : ∀ j, j < m.length → w.cell? ⟨b, off + j, none⟩ = some (.int .i64 (m.getD j 0))) : ∀ j u, (fl m)[j]? = some u → w.cell? ((⟨b, off, none⟩ : Addr).add j) = some u := by
  intro j u hj
  have hlt : j < m.length := by
    have := (List.getElem?_eq_some_iff.1 hj).1
    simpa [fl] using this
  have e : u = .int .i64 (m.getD j 0) := by
    simp only [fl, List.getElem?_map, List.getElem?_eq_getElem hlt, Option.map_some, Option.some.injEq] at hj
    rw [← hj, List.getD_eq_getElem?_getD, List.getElem?_eq_getElem hlt, Option.getD_some]
  rw [e]
  rw [Addr.add_lit]
  exact h j hlt
theorem fl_cell1 (m : List Int) : ∀ u ∈ fl m, u.oneCell' = true := by
  intro u hu
  obtain ⟨x, _, rfl⟩ := List.mem_map.1 hu
  rfl

theorem info_int : (Try.prog.info? 3).map (fun i => (i.zero, i.size, i.bytes)) = some (some (.int .i64 0), 1, 8) := by kernel_rfl

theorem append_none {w : World} {B : Nat} {v : Value} {out : List Int} (c : Nat) (ho : Own w B v out) :
    (Builtin.append_ #[32, 32] 32 #[v, .slice none 0 c]).run Try.prog w = .ok v w := by
  obtain ⟨i0, hi, hz0, hz1, hz2⟩ := info_parts info_int
  rcases ho.2 with ⟨rfl, _⟩ | ⟨g, cap, cur, rfl, _, _, hnc, _⟩
  · simp [Builtin.append_, run_underlying Try.underlying32, sizeOf, typeInfo, hi, Builtin.lenOf, Builtin.firstCells]
  · simp [Builtin.append_, run_underlying Try.underlying32, sizeOf, typeInfo, hi, Builtin.lenOf, Builtin.firstCells, storeCells, hnc]

theorem app_any {w : World} {B : Nat} {v : Value} {out m : List Int} {A : Option Addr} (c : Nat) (hB : B ≤ w.heap.size) (ho : Own w B v out) (hm : Now w A m) (hl : out.length + m.length ≤ 1000000) :
    ∃ v' w', (Builtin.append_ #[32, 32] 32 #[v, .slice A m.length c]).run Try.prog w = .ok v' w' ∧ Own w' B v' (out ++ m) ∧ w.grownBy w' v.ownBlock := by
  obtain ⟨i0, hi, hz0, hz1, hz2⟩ := info_parts info_int
  by_cases h0 : m.length = 0
  · have : m = [] := List.eq_nil_of_length_eq_zero h0
    subst this
    cases A with
    | none => exact ⟨v, w, append_none c ho, by rw [List.append_nil]; exact ho, ⟨rfl, rfl, rfl, Nat.le_refl _, fun _ _ _ => rfl⟩⟩
    | some a =>
      obtain ⟨v', w', hr, h2, h3, _⟩ := run_append_own (P := Try.prog) (w := w) B 32 32 3 i0 (.int .i64 0) 1 8 Try.underlying32 hi hz0 hz1 hz2 rfl (by decide) v out.length (fl out) ho a 0 c [] rfl (fun j u h => by simp at h) (fun u h => by cases h) (by unfold maxLen; omega) (by omega) hB
      exact ⟨v', w', hr, by rw [List.append_nil] at h2 ⊢; exact h2, h3⟩
  · obtain ⟨b, off, rfl, _, hcell⟩ := hm.at_ (by omega)
    obtain ⟨v', w', hr, h2, h3, _⟩ := run_append_own (P := Try.prog) (w := w) B 32 32 3 i0 (.int .i64 0) 1 8 Try.underlying32 hi hz0 hz1 hz2 rfl (by decide) v out.length (fl out) ho ⟨b, off, none⟩ m.length c (fl m) (length_fl m) (fl_at hcell) (fl_cell1 m) (by unfold maxLen; omega) (by omega) hB
    refine ⟨v', w', hr, ?_, h3⟩
    show World.ownsRow _ _ _ _ _ _ (fl (out ++ m))
    rw [fl_append, List.length_append]
    exact h2

/-- one number more, that lies in a new block -/
theorem push_any {w : World} {B : Nat} {v : Value} {out : List Int} (x : Int) (hB : B ≤ w.heap.size) (ho : Own w B v out) (hl : out.length ≤ 999999) :
    ∃ v' w', (Builtin.append_ #[32, 32] 32 #[v, .slice (some ⟨w.heap.size, 0, none⟩) 1 1]).run Try.prog (w.alloc (.cells #[.int .i64 x] 3)) = .ok v' w' ∧ Own w' B v' (out ++ [x]) ∧ Below B w w' := by
  have hm : Now (w.alloc (.cells #[.int .i64 x] 3)) (some ⟨w.heap.size, 0, none⟩) [x] := fun j hj => by
    have hj1 : j = 0 := by simp at hj; omega
    subst hj1
    exact ⟨w.heap.size, 0, rfl, by simp, by simp⟩
  have ho' : Own (w.alloc (.cells #[.int .i64 x] 3)) B v out := World.ownsRow.alloc ho _
  obtain ⟨v', w', hr, h1, h2⟩ := app_any (m := [x]) 1 (by simp; omega) ho' hm (by simp; omega)
  exact ⟨v', w', hr, h1, Below.grown ((Below.refl _ _).alloc hB _) h2 (by simp; omega) (fun k e => (World.ownsRow.lt ho' k e).1)⟩

def OutR (l : List Int) (w : World) (e : Ending) (w' : World) : Prop := ∃ v, e = .returned v ∧ Own w' w.heap.size v l ∧ Below w.heap.size w w'

/-! ### bit k of a number, as the two texts ask for it -/
theorem and_one (m : Nat) : bits .and .i64 (m : Int) 1 = ((m % 2 : Nat) : Int) := by
  have h1 : (BitVec.ofInt IntKind.i64.bits (m : Int) &&& BitVec.ofInt IntKind.i64.bits 1).toNat = m % 2 := by
    rw [BitVec.toNat_and]
    have e1 : (BitVec.ofInt IntKind.i64.bits (m : Int)).toNat = m % 2 ^ 64 := by
      rw [BitVec.toNat_ofInt]
      show ((m : Int) % ((2 ^ 64 : Nat) : Int)).toNat = m % 2 ^ 64
      omega
    have e2 : (BitVec.ofInt IntKind.i64.bits 1).toNat = 1 := by decide
    rw [e1, e2, Nat.and_one_is_mod]
    omega
  show IntKind.i64.wrap _ = _
  rw [h1, IntKind.wrap_i64]
  omega
theorem bit_of (u k : Nat) : ((u : Int) / 2 ^ k) = ((u / 2 ^ k : Nat) : Int) := by simp
theorem bit_yes {u k : Nat} (h : u.testBit k = true) : (bits BinOp.and IntKind.i64 ((u : Int) / 2 ^ k) 1 == 1) = true := by
  rw [Nat.testBit_eq_decide_div_mod_eq] at h
  rw [bit_of, and_one, of_decide_eq_true h]
  rfl
theorem bit_no {u k : Nat} (h : u.testBit k = false) : (bits BinOp.and IntKind.i64 ((u : Int) / 2 ^ k) 1 == 1) = false := by
  rw [Nat.testBit_eq_decide_div_mod_eq] at h
  have := of_decide_eq_false h
  rw [bit_of, and_one, beq_eq_false_iff_ne]
  omega

set_option maxHeartbeats 1000000 in
theorem bits_any (n : Int) (w : World) (hi : I64 n) :
    Calls Try.prog 72 #[.int .i64 n] w (OutR (bitsL n) w) := by
  by_cases h : 0 ≤ n ∧ n ≤ 4611686018427387903
  · obtain ⟨h0, h1⟩ := h
    obtain ⟨u, rfl⟩ : ∃ u : Nat, n = u := ⟨n.toNat, by omega⟩
    have hu : u ≤ 4611686018427387903 := by omega
    rw [bitsL_nat hu]
    go_enter Try.func72, Try.ntmps72
    go_wp2_with fail
    refine (counted_yes _ _ h0 h1).mono ?_
    rintro e w' ⟨rfl, rfl⟩
    clear h0 h1 hi
    go_wp2
    go_loopw [3, 8] (fun v i wr => ∃ k : Nat, k ≤ 62 ∧ i = .int .i64 k ∧ Hid (Own wr w.heap.size v (bitsTo u k)) ∧ Below w.heap.size w wr) (fun _ i _ => 62 - (intOf i).toNat)
    case atStart => exact ⟨0, Nat.zero_le _, rfl, World.ownsRow_nil _ _ _ _, Below.refl _ _⟩
    case round =>
      obtain ⟨k, hk, rfl, HO, hb⟩ := hrel
      by_cases hlt : k < 62
      · by_cases hbit : u.testBit k = true
        · have hs : bitsTo u (k + 1) = bitsTo u k ++ [(k : Int)] := by rw [bitsTo_succ, if_pos hbit]
          have hy := bit_yes hbit
          have hlen := bitsTo_len u k
          obtain ⟨v', w', hrun, hown, hb2⟩ := push_any (k : Int) hb.size HO.out (by omega)
          have HS := Lib.hid hs
          have HO2 := Lib.hid hown
          have HRUN := Lib.hid hrun
          clear hbit hs hown hrun hlen
          go_wp2_with (at_builtin; refine Lib.wpList_append_run _ rfl (.tmp 16) (.tmp 18) 32 32 rfl _ _ rfl rfl _ _ HRUN.out ?_)
          go_roundw
          case measure => simp [intOf]; omega
          case rel => exact ⟨k + 1, by omega, by go_num, (by rw [HS.out]; exact HO2.out), hb.trans hb2⟩
        · have hn : u.testBit k = false := by simpa using hbit
          have hs : bitsTo u (k + 1) = bitsTo u k := by rw [bitsTo_succ, if_neg hbit, List.append_nil]
          have hy := bit_no hn
          have HS := Lib.hid hs
          clear hbit hn hs
          go_wp2
          go_roundw
          case measure => simp [intOf]; omega
          case rel => exact ⟨k + 1, by omega, by go_num, (by rw [HS.out]; exact HO.out), hb⟩
      · obtain rfl : k = 62 := by omega
        go_wp2
        go_ret
        exact ⟨_, rfl, HO.out, hb⟩
  · have e : bitsL n = [] := by unfold bitsL; rw [if_neg h]
    rw [e]
    clear e
    go_enter Try.func72, Try.ntmps72
    go_wp2_with fail
    refine (counted_no n _ (by omega)).mono ?_
    rintro e w' ⟨rfl, rfl⟩
    go_wp2
    go_ret
    exact ⟨_, rfl, World.ownsRow_nil _ _ _ _, Below.refl _ _⟩

end Go.Proofs.Ytklccoodfhejbaa.Nq
namespace Go.Proofs.Ytklccoodfhejbaa
set_option maxRecDepth 100000
set_option linter.unusedVariables false
set_option linter.unusedSimpArgs false
open Go.RowKit Go.Sort

/-! ### what comes of it, plain maths -/
def trimZ (room : Int) (l : List Nd) (n : Int) : Zn := trimN room (levI l n - 2).toNat l n.toNat
def grownZ (room : Int) (jn : Nat) (l : List Nd) (n : Int) : Zn := grownN room jn (42 - (levI l n).toNat) 0 l n.toNat
def leapAtZ (room : Int) (jn : Nat) (l : List Nd) (n : Int) : Zn := leapN room (levI l n - 2).toNat jn l n
/-- a node run by the powers of two of a list -/
def runTo (room : Int) : List Int → List Nd → Int → Zn
  | [], l, n => trimZ room l n
  | j :: js, l, n => andZ (trimZ room l n) fun l1 n1 => andZ (grownZ room j.toNat l1 n1) fun l2 n2 => andZ (leapAtZ room j.toNat l2 n2) fun l3 n3 => runTo room js l3 n3
def runZ (room : Int) (l : List Nd) (n c : Int) : Zn := if 0 ≤ c ∧ c ≤ 4611686018427387903 then runTo room (Nq.bitsL c) l n else (l, 0, 1)
section
variable {room : Int} {l : List Nd} {k e : Nat}
theorem trimZ_is (hk : Is l (e + 2) k) : trimZ room l (k : Int) = trimN room e l k := by
  unfold trimZ
  rw [lev_at hk, show (((e + 2 : Nat) : Int) - 2).toNat = e by omega, Int.toNat_natCast]
theorem grownZ_is {L d jn : Nat} (hk : Is l L k) (h : L + d = 42) : grownZ room jn l (k : Int) = grownN room jn d 0 l k := by
  unfold grownZ
  rw [lev_at hk, show 42 - ((L : Nat) : Int).toNat = d by omega, Int.toNat_natCast]
theorem leapAtZ_is {jn : Nat} (hk : Is l (e + 2) k) : leapAtZ room jn l (k : Int) = leapN room e jn l (k : Int) := by
  unfold leapAtZ
  rw [lev_at hk, show (((e + 2 : Nat) : Int) - 2).toNat = e by omega]
end
theorem trim_ok (room : Int) : ∀ (e : Nat) (l : List Nd) (k : Nat), Right6 l room → Is l (e + 2) k → e ≤ 40 → (trimN room e l k).2.2 = 0 →
    ∃ p e' : Nat, (trimN room e l k).2.1 = (p : Int) ∧ Grows l (trimN room e l k).1 ∧ Right6 (trimN room e l k).1 room ∧ Is (trimN room e l k).1 (e' + 2) p ∧ e' ≤ e
  | 0, l, k, hr, hk, _, _ => ⟨k, 0, rfl, Grows.refl l, hr, hk, Nat.le_refl _⟩
  | e + 1, l, k, hr, hk, he, h0 => by
    by_cases hD : DeadB l k 4
    · have ht : trimN room (e + 1) l k = andZ (centreZ room l (k : Int)) (fun m p => trimN room e m p.toNat) := if_pos hD
      rw [ht] at h0 ⊢
      by_cases hc : (centreZ room l (k : Int)).2.2 = 0
      · rw [and_yes hc] at h0 ⊢
        obtain ⟨gr, rr, p, hp, hq, _⟩ := Done.ok (Sf.of hr (e := e + 2) (n := k) hk (by omega)).centre hc
        try dsimp only at gr rr hp hq
        rw [hp, Int.toNat_natCast] at h0 ⊢
        obtain ⟨p', e', h1, h2, h3, h4, h5⟩ := trim_ok room e _ p rr hq.is (by omega) h0
        exact ⟨p', e', h1, gr.trans h2, h3, h4, by omega⟩
      · rw [and_no hc] at h0
        exact absurd h0 hc
    · have ht : trimN room (e + 1) l k = (l, (k : Int), 0) := if_neg hD
      rw [ht]
      exact ⟨k, e + 1, rfl, Grows.refl l, hr, hk, Nat.le_refl _⟩
theorem grown_ok (room : Int) (jn : Nat) : ∀ (d t : Nat) (l : List Nd) (k L : Nat), Right6 l room → Is l L k → L + d = 42 → 2 ≤ L → (grownN room jn d t l k).2.2 = 0 →
    ∃ p e' : Nat, (grownN room jn d t l k).2.1 = (p : Int) ∧ Grows l (grownN room jn d t l k).1 ∧ Right6 (grownN room jn d t l k).1 room ∧ Is (grownN room jn d t l k).1 (e' + 2) p ∧ e' ≤ 40 ∧ jn + 1 ≤ e'
  | 0, t, l, k, L, hr, hk, hL, h2, h0 => by
    by_cases hc : t < 2 ∨ 42 < jn + 3 + 0
    · rw [show grownN room jn 0 t l k = (l, 0, 2) from if_pos hc] at h0
      exact absurd h0 (show ¬ (2 : Int) = 0 by decide)
    · rw [grownN_no hc]
      exact ⟨k, 40, rfl, Grows.refl l, hr, by rw [show 40 + 2 = L by omega]; exact hk, Nat.le_refl _, by omega⟩
  | d + 1, t, l, k, L, hr, hk, hL, h2, h0 => by
    by_cases hc : t < 2 ∨ 42 < jn + 3 + (d + 1)
    · have ht : grownN room jn (d + 1) t l k = andZ (growZ room l (k : Int)) (fun m p => grownN room jn d (t + 1) m p.toNat) := if_pos hc
      rw [ht] at h0 ⊢
      by_cases hg : (growZ room l (k : Int)).2.2 = 0
      · rw [and_yes hg] at h0 ⊢
        obtain ⟨e, rfl⟩ : ∃ e, L = e + 1 := ⟨L - 1, by omega⟩
        obtain ⟨gr, rr, p, hp, hq, _⟩ := Done.ok (grow_done hr hk (by omega)) hg
        try dsimp only at gr rr hp hq
        rw [hp, Int.toNat_natCast] at h0 ⊢
        obtain ⟨p', e', h1, h3, h4, h5, h6⟩ := grown_ok room jn d (t + 1) _ p (e + 2) rr hq.1 (by omega) (by omega) h0
        exact ⟨p', e', h1, gr.trans h3, h4, h5, h6⟩
      · rw [and_no hg] at h0
        exact absurd h0 hg
    · rw [grownN_no hc]
      exact ⟨k, L - 2, rfl, Grows.refl l, hr, by rw [show L - 2 + 2 = L by omega]; exact hk, by omega, by omega⟩
theorem leap_ok {room : Int} {e jn k : Nat} {l : List Nd} (hr : Right6 l room) (hk : Is l (e + 2) k) (he : e ≤ 40) (hj : jn ≤ e) (h0 : (leapN room e jn l (k : Int)).2.2 = 0) :
    ∃ p : Nat, (leapN room e jn l (k : Int)).2.1 = (p : Int) ∧ Grows l (leapN room e jn l (k : Int)).1 ∧ Right6 (leapN room e jn l (k : Int)).1 room ∧ Is (leapN room e jn l (k : Int)).1 (e + 1) p := by
  obtain ⟨gr, rr, p, hp, hq, _⟩ := Done.ok (leap_done room e jn k l _ (Sf.of hr hk (by omega)) hj) h0
  exact ⟨p, hp, gr, rr, hq.is⟩
theorem own_kp {w w' : World} {B : Nat} {v : Value} {l : List Int} (h : Nq.Own w B v l) (hk : Kp w w') : Nq.Own w' B v l := by
  refine ⟨h.1, ?_⟩
  rcases h.2 with h2 | ⟨g, cap, cur, e, hb, hh, h3⟩
  · exact .inl h2
  · exact .inr ⟨g, cap, cur, e, hb, hk _ _ _ _ hh ⟨.inl (by decide), by decide⟩, h3⟩
end Go.Proofs.Ytklccoodfhejbaa
namespace Go.Proofs.Ytklccoodfhejbaa
set_option maxRecDepth 100000
set_option linter.unusedVariables false
set_option linter.unusedSimpArgs false

theorem pop_dead {l : List Nd} {room : Int} (hr : Right6 l room) {k n : Nat} (h : Is l k n) (h0 : (l.getD n deadN).2.2 = 0) {c : Int × Int} (hc : InAt7 k (0, 0) c) : Go.Proofs.Ytklccoodfhejbaa.alive l k n c = false := by
  have h1 := flat_dead hr (0, 0) h h0
  cases ha : Go.Proofs.Ytklccoodfhejbaa.alive l k n c with
  | false => rfl
  | true =>
    have : c ∈ flat l k n (0, 0) := (mem_flat k n (0, 0) c).2 ⟨hc, by rw [Int.sub_zero, Int.sub_zero]; exact ha⟩
    rw [h1] at this
    cases this
theorem pop_alive {l : List Nd} {room : Int} (hr : Right6 l room) {k n : Nat} (h : Is l k n) (h0 : ¬ (l.getD n deadN).2.2 = 0) : ∃ c, InAt7 k (0, 0) c ∧ Go.Proofs.Ytklccoodfhejbaa.alive l k n c = true := by
  have h1 := flat_pop hr k n (0, 0) h
  cases hf : flat l k n (0, 0) with
  | nil =>
    rw [hf] at h1
    exact absurd h1 h0
  | cons c t =>
    have : c ∈ flat l k n (0, 0) := by rw [hf]; exact List.mem_cons_self
    obtain ⟨a, b⟩ := (mem_flat k n (0, 0) c).1 this
    rw [Int.sub_zero, Int.sub_zero] at b
    exact ⟨c, a, b⟩
theorem low_agree (e : Nat) (u : Int × Int) : Agree e (u.1 % 2 ^ e, u.2 % 2 ^ e) u := by
  have := agree_shift (u.1 % 2 ^ e, u.2 % 2 ^ e) (u.1 / 2 ^ e) (u.2 / 2 ^ e) e
  have e1 : u.1 % 2 ^ e + 2 ^ e * (u.1 / 2 ^ e) = u.1 := Int.emod_add_mul_ediv _ _
  have e2 : u.2 % 2 ^ e + 2 ^ e * (u.2 / 2 ^ e) = u.2 := Int.emod_add_mul_ediv _ _
  rw [e1, e2] at this
  exact fun i hi => (this i hi).symm
theorem low_in (e : Nat) (u : Int × Int) : InAt7 e (0, 0) (u.1 % 2 ^ e, u.2 % 2 ^ e) := by
  have hP := pow_pos7 e
  have a0 := Int.emod_nonneg u.1 (show (2 : Int) ^ e ≠ 0 by omega)
  have a1 := Int.emod_lt_of_pos u.1 hP
  have b0 := Int.emod_nonneg u.2 (show (2 : Int) ^ e ≠ 0 by omega)
  have b1 := Int.emod_lt_of_pos u.2 hP
  unfold InAt7
  simp only
  omega
theorem q7_of {e : Nat} {u : Int × Int} {a b : Int} (ha : u.1 / 2 ^ e % 2 = a) (hb : u.2 / 2 ^ e % 2 = b) : ((q7 e u : Nat) : Int) = a + b * 2 := by rw [q7_cast, ha, hb]
/-- each of the four times four has a cell of its own about it: low bits v, bits j, bits i -/
theorem cell_of {e i j : Nat} (hi : i < 4) (hj : j < 4) {v : Int × Int} (hv : InAt7 e (0, 0) v) : ∃ u : Int × Int, InSq (e + 2) u ∧ q7 (e + 1) u = i ∧ q7 e u = j ∧ Agree e u v := by
  have hP := pow_pos7 e
  have e1 : (2 : Int) ^ (e + 1) = 2 ^ e * 2 := Int.pow_succ _ _
  have e2 : (2 : Int) ^ (e + 2) = 2 ^ e * 4 := by rw [show e + 2 = e + 1 + 1 from rfl, Int.pow_succ, e1]; omega
  obtain ⟨h1, h2, h3, h4⟩ := hv
  simp only at h1 h2 h3 h4
  rw [Int.zero_add] at h2 h4
  have key : ∀ (x : Int) (s : Nat), 0 ≤ x → x < 2 ^ e → s < 4 → (x + 2 ^ e * (s : Int)) / 2 ^ e = (s : Int) ∧ (x + 2 ^ e * (s : Int)) / 2 ^ (e + 1) = ((s / 2 : Nat) : Int) ∧ 0 ≤ x + 2 ^ e * (s : Int) ∧ x + 2 ^ e * (s : Int) < 2 ^ e * 4 := by
    intro x s h0 hx hs
    have d1 : (x + 2 ^ e * (s : Int)) / 2 ^ e = (s : Int) := by rw [Int.add_mul_ediv_left _ _ (by omega), div_zero h0 hx]; omega
    rw [e1]
    rcases (by omega : s = 0 ∨ s = 1 ∨ s = 2 ∨ s = 3) with rfl | rfl | rfl | rfl
    · exact ⟨d1, div_zero (by omega) (by omega), by omega, by omega⟩
    · exact ⟨d1, div_zero (by omega) (by omega), by omega, by omega⟩
    · exact ⟨d1, div_one (by omega) (by omega) (by omega), by omega, by omega⟩
    · exact ⟨d1, div_one (by omega) (by omega) (by omega), by omega, by omega⟩
  obtain ⟨a1, a2, a3, a4⟩ := key v.1 (j % 2 + i % 2 * 2) h1 h2 (by omega)
  obtain ⟨b1, b2, b3, b4⟩ := key v.2 (j / 2 + i / 2 * 2) h3 h4 (by omega)
  refine ⟨(v.1 + 2 ^ e * ((j % 2 + i % 2 * 2 : Nat) : Int), v.2 + 2 ^ e * ((j / 2 + i / 2 * 2 : Nat) : Int)), ?_, ?_, ?_, agree_shift v _ _ e⟩
  · unfold InSq
    rw [e2]
    exact ⟨a3, a4, b3, b4⟩
  · have := q7_of (e := e + 1) (u := (v.1 + 2 ^ e * ((j % 2 + i % 2 * 2 : Nat) : Int), v.2 + 2 ^ e * ((j / 2 + i / 2 * 2 : Nat) : Int))) (a := ((i % 2 : Nat) : Int)) (b := ((i / 2 : Nat) : Int)) (by simp only; rw [a2]; omega) (by simp only; rw [b2]; omega)
    omega
  · have := q7_of (e := e) (u := (v.1 + 2 ^ e * ((j % 2 + i % 2 * 2 : Nat) : Int), v.2 + 2 ^ e * ((j / 2 + i / 2 * 2 : Nat) : Int))) (a := ((j % 2 : Nat) : Int)) (b := ((j / 2 : Nat) : Int)) (by simp only; rw [a1]; omega) (by simp only; rw [b1]; omega)
    omega
section
variable {l : List Nd} {room : Int} {e n : Nat} {F : Pic}
/-- what is dead about the middle, as a picture -/
theorem Sf.ring (h : Sf l room (e + 1) n F) (hD : DeadB l n 4) {c : Int × Int} (h1 : insideB (e + 1) c = true) (h2 : insideB e c = false) : F c = false := by
  have ho := out_bits h1 h2
  rw [← h.al c h1]
  obtain ⟨u, hu⟩ : ∃ u, u = inwardC (e + 1) c := ⟨_, rfl⟩
  rw [← hu] at ho ⊢
  have q1 := q7_lt (e + 1) u
  have q0 := q7_lt e u
  have hk1 := kid_is h.right h.is q1
  have hk0 := kid_is h.right hk1 q0
  show Go.Proofs.Ytklccoodfhejbaa.alive l e (kidN l (kidN l n (q7 (e + 1) u)) (q7 e u)) u = false
  rw [← alive_agree e _ (low_agree e u)]
  exact pop_dead h.right hk0 (hD _ q1 _ q0 (by omega)) (low_in e u)
/-- and the other way about -/
theorem Sf.ringed (h : Sf l room (e + 1) n F) (hF : ∀ c, insideB (e + 1) c = true → insideB e c = false → F c = false) : DeadB l n 4 := by
  intro i hi j hj hij
  have hk1 := kid_is h.right h.is hi
  have hk0 := kid_is h.right hk1 hj
  unfold popK
  by_cases h0 : (l.getD (kidN l (kidN l n i) j) deadN).2.2 = 0
  · exact h0
  · obtain ⟨v, hv, hva⟩ := pop_alive h.right hk0 h0
    obtain ⟨u, hu, q1, q0, hag⟩ := cell_of hi hj hv
    have e1 : (2 : Int) ^ (e + 2) = 2 ^ (e + 1) * 2 := Int.pow_succ _ _
    have hP := pow_pos7 (e + 1)
    unfold InSq at hu
    rw [e1] at hu
    obtain ⟨c, hc⟩ : ∃ c : Int × Int, c = (u.1 - 2 ^ (e + 1), u.2 - 2 ^ (e + 1)) := ⟨_, rfl⟩
    have hcu : inwardC (e + 1) c = u := by rw [hc]; unfold inwardC; exact Prod.ext (by simp only; omega) (by simp only; omega)
    have hin : insideB (e + 1) c = true := by rw [hc]; exact in_iff.2 (by omega)
    have hal : F c = true := by
      rw [← h.al c hin, hcu]
      show Go.Proofs.Ytklccoodfhejbaa.alive l e (kidN l (kidN l n (q7 (e + 1) u)) (q7 e u)) u = true
      rw [q1, q0, alive_agree e _ hag]
      exact hva
    cases hi2 : insideB e c with
    | false => rw [hF c hin hi2] at hal; cases hal
    | true =>
      obtain ⟨b1, b2, _⟩ := grow_bits hi2
      rw [hcu] at b1 b2
      have := q7_lt e (inwardC e c)
      omega
end
end Go.Proofs.Ytklccoodfhejbaa
namespace Go.Proofs.Ytklccoodfhejbaa
set_option maxRecDepth 100000
set_option linter.unusedVariables false
set_option linter.unusedSimpArgs false

/-- nothing outside a square of half a side R about the middle -/
def InP (R : Int) (F : Pic) : Prop := ∀ a b, ¬ (-R ≤ a ∧ a < R ∧ -R ≤ b ∧ b < R) → F (a, b) = false
theorem InP.more {R R' : Int} {F : Pic} (h : InP R F) (hR : R ≤ R') : InP R' F := fun a b hn => h a b (by omega)
theorem InP.next {R : Int} {F : Pic} (h : InP R F) : InP (R + 1) (nextF F) := fun a b hn => by
  have h0 := h a b (by omega)
  have c : ∀ x y : Int, a - 1 ≤ x → x ≤ a + 1 → b - 1 ≤ y → y ≤ b + 1 → cnt1 F x y = 0 := fun x y h1 h2 h3 h4 => by
    unfold cnt1
    rw [h x y (by omega)]
    rfl
  unfold nextF aboutF
  simp only
  rw [h0, c _ _ (by omega) (by omega) (by omega) (by omega), c _ _ (by omega) (by omega) (by omega) (by omega), c _ _ (by omega) (by omega) (by omega) (by omega), c _ _ (by omega) (by omega) (by omega) (by omega), c _ _ (by omega) (by omega) (by omega) (by omega), c _ _ (by omega) (by omega) (by omega) (by omega), c _ _ (by omega) (by omega) (by omega) (by omega), c _ _ (by omega) (by omega) (by omega) (by omega)]
  rfl
theorem InP.run : ∀ (t : Nat) {R : Int} {F : Pic}, InP R F → InP (R + t) (runF t F)
  | 0, R, F, h => by rw [show R + ((0 : Nat) : Int) = R by omega]; exact h
  | t + 1, R, F, h => by
    have := InP.run t h.next
    rw [show R + ((t + 1 : Nat) : Int) = R + 1 + (t : Int) by omega]
    exact this
/-- A node stands for a whole picture. -/
structure Sw (l : List Nd) (room : Int) (e n : Nat) (F : Pic) : Prop where
  sf : Sf l room e n F
  inp : InP (2 ^ e) F
/-- as DoneR, but it needn't be found again -/
def DoneS (room : Int) (l : List Nd) (z : Zn) (N : Nat) (Q : List Nd → Nat → Prop) : Prop :=
  (z.2.2 = 40 ∧ room < ((l.length + N : Nat) : Int)) ∨ ∃ (m : List Nd) (p : Nat), z = (m, (p : Int), 0) ∧ Grows l m ∧ Right6 m room ∧ m.length ≤ l.length + N ∧ Q m p
theorem DoneR.s {room : Int} {l : List Nd} {f : List Nd → Zn} {N : Nat} {Q : List Nd → Nat → Prop} (h : DoneR room l f N Q) : DoneS room l (f l) N Q := by
  rcases h with h1 | ⟨m, p, e, g, r, len, q, _⟩
  · exact .inl h1
  · exact .inr ⟨m, p, e, g, r, len, q⟩
theorem DoneS.mono {room : Int} {l : List Nd} {z : Zn} {N M : Nat} {Q Q' : List Nd → Nat → Prop} (h : DoneS room l z N Q) (hN : N ≤ M) (hQ : ∀ m p, Grows l m → Right6 m room → Q m p → Q' m p) : DoneS room l z M Q' := by
  rcases h with ⟨h1, h2⟩ | ⟨m, p, e, g, r, len, q⟩
  · exact .inl ⟨h1, by omega⟩
  · exact .inr ⟨m, p, e, g, r, by omega, hQ m p g r q⟩
theorem DoneS.and {room : Int} {l : List Nd} {z : Zn} {f : List Nd → Int → Zn} {N M : Nat} {Q Q' : List Nd → Nat → Prop} (h : DoneS room l z N Q) (hf : ∀ (m : List Nd) (p : Nat), Grows l m → Right6 m room → Q m p → DoneS room m (f m (p : Int)) M Q') : DoneS room l (andZ z f) (N + M) Q' := by
  rcases h with ⟨h1, h2⟩ | ⟨m, p, e, g, r, len, q⟩
  · left
    rw [and_no (by rw [h1]; decide)]
    exact ⟨h1, by omega⟩
  · subst e
    rw [and_yes rfl]
    rcases hf m p g r q with ⟨h1, h2⟩ | ⟨m', p', e', g', r', len', q'⟩
    · exact .inl ⟨h1, by omega⟩
    · exact .inr ⟨m', p', e', g.trans g', r', by omega, q'⟩
section
variable {l : List Nd} {room : Int} {e n : Nat} {F : Pic}
theorem Sw.shrink (h : Sw l room (e + 1) n F) (hD : DeadB l n 4) : InP (2 ^ e) F := fun a b hn => by
  by_cases hi : insideB (e + 1) (a, b) = true
  · refine h.sf.ring hD hi ?_
    cases h2 : insideB e (a, b) with
    | false => rfl
    | true => exact absurd (in_iff.1 h2) hn
  · exact h.inp a b fun h2 => hi (in_iff.2 h2)
/-- trimmed: the same picture; dead about the middle no more, or of the level 2 -/
theorem trim_done (room : Int) : ∀ (e n : Nat) (l : List Nd) (F : Pic), Sw l room (e + 1) n F → e ≤ 40 → DoneS room l (trimN room e l n) e (fun m p => ∃ e', e' ≤ e ∧ Sw m room (e' + 1) p F ∧ (e' = 0 ∨ ¬ DeadB m p 4))
  | 0, n, l, F, h, _ => .inr ⟨l, n, rfl, Grows.refl l, h.sf.right, by omega, 0, Nat.le_refl _, h, .inl rfl⟩
  | e + 1, n, l, F, h, he => by
    by_cases hD : DeadB l n 4
    · have ht : trimN room (e + 1) l n = andZ (centreZ room l (n : Int)) (fun m p => trimN room e m p.toNat) := if_pos hD
      rw [ht]
      have hc := (Sf.centre (e := e + 1) h.sf).s
      have := hc.and (f := fun m p => trimN room e m p.toNat) (M := e) (Q' := fun m p => ∃ e', e' ≤ e + 1 ∧ Sw m room (e' + 1) p F ∧ (e' = 0 ∨ ¬ DeadB m p 4)) (fun m p g r hq => by
        rw [Int.toNat_natCast]
        exact (trim_done room e p m F ⟨hq, h.shrink hD⟩ (by omega)).mono (Nat.le_refl _) fun m' p' _ _ ⟨e', h1, h2⟩ => ⟨e', by omega, h2⟩)
      exact this.mono (by omega) (fun _ _ _ _ h => h)
    · have ht : trimN room (e + 1) l n = (l, (n : Int), 0) := if_neg hD
      rw [ht]
      exact .inr ⟨l, n, rfl, Grows.refl l, h.sf.right, by omega, e + 1, Nat.le_refl _, h, .inr hD⟩
theorem Sw.grow (h : Sw l room e n F) (he : e + 1 ≤ 41) : DoneR room l (fun b => growZ room b (n : Int)) (e + 5) (fun m p => Sw m room (e + 1) p F) := by
  refine (h.sf.grow he).mono (Nat.le_refl _) fun m p g r hq => ⟨hq.congr fun a b h1 h2 h3 h4 => ?_, h.inp.more (by rw [Int.pow_succ]; have := pow_pos7 e; omega)⟩
  unfold boxP9
  cases hi : insideB e (a, b) with
  | true => rw [Bool.true_and]
  | false =>
    rw [Bool.false_and]
    exact (h.inp a b fun hc => by rw [in_iff.2 hc] at hi; cases hi).symm
/-- grown: the same picture, in a square twice as great at least twice -/
theorem grown_done (room : Int) (jn : Nat) : ∀ (d t e n : Nat) (l : List Nd) (F : Pic), Sw l room e n F → e + 1 + d = 42 → 2 ≤ d + t → jn + 3 ≤ 42 →
    DoneS room l (grownN room jn d t l n) (d * 46) (fun m p => ∃ e', e' ≤ 41 ∧ Sw m room e' p F ∧ e + 2 ≤ e' + t ∧ jn + 2 ≤ e' ∧ (e' ≤ e ∨ e' + t ≤ e + 2 ∨ e' ≤ jn + 2))
  | 0, t, e, n, l, F, h, hd, ht, hj => by
    rw [grownN_no (by omega)]
    exact .inr ⟨l, n, rfl, Grows.refl l, h.sf.right, by omega, e, by omega, h, by omega, by omega, .inl (Nat.le_refl _)⟩
  | d + 1, t, e, n, l, F, h, hd, ht, hj => by
    by_cases hc : t < 2 ∨ 42 < jn + 3 + (d + 1)
    · have hg : grownN room jn (d + 1) t l n = andZ (growZ room l (n : Int)) (fun m p => grownN room jn d (t + 1) m p.toNat) := if_pos hc
      rw [hg]
      have h1 := (h.grow (by omega)).s.mono (show e + 5 ≤ 46 by omega) (fun m p _ _ hq => hq)
      have := h1.and (f := fun m p => grownN room jn d (t + 1) m p.toNat) (M := d * 46) (Q' := fun m p => ∃ e', e' ≤ 41 ∧ Sw m room e' p F ∧ e + 2 ≤ e' + t ∧ jn + 2 ≤ e' ∧ (e' ≤ e ∨ e' + t ≤ e + 2 ∨ e' ≤ jn + 2)) (fun m p g r hq => by
        rw [Int.toNat_natCast]
        exact (grown_done room jn d (t + 1) (e + 1) p m F hq (by omega) (by omega) hj).mono (Nat.le_refl _) fun m' p' _ _ ⟨e', a, b, c, f, x⟩ => ⟨e', a, b, by omega, f, by omega⟩)
      exact this.mono (by omega) (fun _ _ _ _ h => h)
    · rw [grownN_no hc]
      exact .inr ⟨l, n, rfl, Grows.refl l, h.sf.right, by omega, e, by omega, h, by omega, by omega, .inl (Nat.le_refl _)⟩
end
end Go.Proofs.Ytklccoodfhejbaa
