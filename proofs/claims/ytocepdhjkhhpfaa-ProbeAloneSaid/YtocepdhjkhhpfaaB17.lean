/-
  Texts that the claims of this seat share, part 17.
-/
import Derived.Test.YtocepdhjkhhpfaaB16
import Derived.Test.YtocepdhjkhhpfaaB00
set_option linter.unusedVariables false
set_option linter.unusedSimpArgs false
namespace Go.Proofs.Ytocepdhjkhhpfaa
set_option maxRecDepth 100000
set_option linter.unusedVariables false
set_option linter.unusedSimpArgs false
open Go.RowKit Go.Sort

set_option maxHeartbeats 8000000 in
theorem pStep_none {S N : Int} (u : W8) (w : World) (h : TabS S N) : Calls Try.prog 46 #[tabV S N, .slice none 0 0, w8V u] w fun e w' => e = .returned (.tuple #[.slice none 0 0, w8V u, .int .i64 1]) ∧ Below w.heap.size w w' := by
  obtain ⟨t1, t2, t3, t4, t5⟩ := three_allocs w (.cells #[.int .i64 S, .int .i64 N] 50) (.cells (w8A u) 39) (.cells (w8A zeroW8) 39)
  have hfit := fun W => pFit_none (S := S) (N := N) W h
  have HT := Lib.hid (And.intro t1 (And.intro t2 (And.intro t3 (And.intro t4 t5))))
  clear h t1 t2 t3 t4 t5
  go_enter Try.func46, Try.ntmps46
  go_wp2_with fail
  refine (hfit _).mono ?_
  rintro e w1 ⟨rfl, hb1⟩
  clear hfit
  go_wp2_with fail
  obtain ⟨t1, t2, t3, t4, t5⟩ := HT.out
  have hs1 : w.heap.size + 1 + 1 + 1 ≤ w1.heap.size := by rw [← t2]; exact hb1.size
  have q1 := (hb1.block (w.heap.size + 1) (by rw [t2]; omega)).trans t4
  have q2 := (hb1.block (w.heap.size + 1 + 1) (by rw [t2]; omega)).trans t5
  have B1 := Lib.hid (Qt.more t1 t1.size hb1)
  have HQ := Lib.hid (And.intro q2 hs1)
  have hOld := fun (W : World) (hW : w1.grownBy W (some (w.heap.size + 1 + 1))) => (hW.block (w.heap.size + 1) (by omega) (fun e => by injection e with e; omega)).trans q1
  have M0 := fun (W : World) (hW : w1.grownBy W (some (w.heap.size + 1 + 1))) => (show W.cell? ⟨w.heap.size + 1, 0, none⟩ = some (.int .i64 u.pc) by rw [Lib.cell_of_heap (hOld W hW)]; rfl)
  have M1 := fun (W : World) (hW : w1.grownBy W (some (w.heap.size + 1 + 1))) => (show W.cell? ⟨w.heap.size + 1, 1, none⟩ = some (.int .i64 u.job) by rw [Lib.cell_of_heap (hOld W hW)]; rfl)
  have M2 := fun (W : World) (hW : w1.grownBy W (some (w.heap.size + 1 + 1))) => (show W.cell? ⟨w.heap.size + 1, 2, none⟩ = some (.int .i64 u.r0) by rw [Lib.cell_of_heap (hOld W hW)]; rfl)
  have M3 := fun (W : World) (hW : w1.grownBy W (some (w.heap.size + 1 + 1))) => (show W.cell? ⟨w.heap.size + 1, 3, none⟩ = some (.int .i64 u.r1) by rw [Lib.cell_of_heap (hOld W hW)]; rfl)
  have M4 := fun (W : World) (hW : w1.grownBy W (some (w.heap.size + 1 + 1))) => (show W.cell? ⟨w.heap.size + 1, 4, none⟩ = some (.int .i64 u.r2) by rw [Lib.cell_of_heap (hOld W hW)]; rfl)
  have M5 := fun (W : World) (hW : w1.grownBy W (some (w.heap.size + 1 + 1))) => (show W.cell? ⟨w.heap.size + 1, 5, none⟩ = some (.int .i64 u.r3) by rw [Lib.cell_of_heap (hOld W hW)]; rfl)
  have M6 := fun (W : World) (hW : w1.grownBy W (some (w.heap.size + 1 + 1))) => (show W.cell? ⟨w.heap.size + 1, 6, none⟩ = some (.int .i64 u.r4) by rw [Lib.cell_of_heap (hOld W hW)]; rfl)
  have M7 := fun (W : World) (hW : w1.grownBy W (some (w.heap.size + 1 + 1))) => (show W.cell? ⟨w.heap.size + 1, 7, none⟩ = some (.int .i64 u.r5) by rw [Lib.cell_of_heap (hOld W hW)]; rfl)
  have M8 := fun (W : World) (hW : w1.grownBy W (some (w.heap.size + 1 + 1))) => (show W.cell? ⟨w.heap.size + 1, 8, none⟩ = some (.int .i64 u.r6) by rw [Lib.cell_of_heap (hOld W hW)]; rfl)
  have M9 := fun (W : World) (hW : w1.grownBy W (some (w.heap.size + 1 + 1))) => (show W.cell? ⟨w.heap.size + 1, 9, none⟩ = some (.int .i64 u.r7) by rw [Lib.cell_of_heap (hOld W hW)]; rfl)
  have M10 := fun (W : World) (hW : w1.grownBy W (some (w.heap.size + 1 + 1))) => (show W.cell? ⟨w.heap.size + 1, 10, none⟩ = some (.bool u.done) by rw [Lib.cell_of_heap (hOld W hW)]; rfl)
  have M11 := fun (W : World) (hW : w1.grownBy W (some (w.heap.size + 1 + 1))) => (show W.cell? ⟨w.heap.size + 1, 11, none⟩ = some (.int .i64 u.out) by rw [Lib.cell_of_heap (hOld W hW)]; rfl)
  clear t1 t2 t3 t4 t5 hb1 q1 q2 hs1 HT hOld
  refine region_calm_to (fun W => w1.grownBy W (some (w.heap.size + 1 + 1))) (fun (a0 a9 : Act) (w9 : World) => a9 = ((((a0.put (some 16) (.slice none 0 0)).put (some 17) (w8V u)).put (some 6) (.slice none 0 0)).put (some 8) (.int .i64 1)) ∧ w9.heap[w.heap.size + 1 + 1]? = some (.cells (w8A u) 39 (0, 0)) ∧ Below w.heap.size w w9)
    (.calm 0 (.calm 1 (.only 2 (.only 3 (.only 4 .done))))) (by kernel_rfl) (by kernel_rfl) (by kernel_rfl) (by rfl) ⟨rfl, rfl, rfl, Nat.le_refl _, fun _ _ _ => rfl⟩ ?_ ?_
  · skip
    refine ⟨_, _, .slice none 0 0, rfl, rfl, ⟨rfl, fun W hW => by first | exact ⟨rfl, rfl⟩ | (simp only [Act.eval, execOp]; go_simp; try exact ⟨rfl, rfl⟩)⟩, ?_⟩
    simp only [Act.put, List.getElem_toArray, List.getElem_cons_zero, List.getElem_cons_succ, List.setIfInBounds_toArray, List.set_cons_succ, List.set_cons_zero]
    refine ⟨_, _, w8V u, rfl, rfl, ⟨rfl, fun W hW => by first | exact ⟨rfl, rfl⟩ | (have m0 := M0 W hW; have m1 := M1 W hW; have m2 := M2 W hW; have m3 := M3 W hW; have m4 := M4 W hW; have m5 := M5 W hW; have m6 := M6 W hW; have m7 := M7 W hW; have m8 := M8 W hW; have m9 := M9 W hW; have m10 := M10 W hW; have m11 := M11 W hW; simp only [Act.eval, execOp]; go_simp; try exact ⟨rfl, rfl⟩)⟩, ?_⟩
    simp only [Act.put, List.getElem_toArray, List.getElem_cons_zero, List.getElem_cons_succ, List.setIfInBounds_toArray, List.set_cons_succ, List.set_cons_zero]
    have hG0 : w1.grownBy w1.drew (some (w.heap.size + 1 + 1)) := ⟨rfl, rfl, rfl, Nat.le_refl _, fun _ _ _ => rfl⟩
    have hb0 := below_drewW w1
    clear M0 M1 M2 M3 M4 M5 M6 M7 M8 M9 M10 M11
    generalize w1.drew = x0 at *
    refine ⟨_, rfl, ?_⟩
    go_wp2_with fail
    refine ⟨rfl, hG0, ?_⟩
    refine ⟨_, rfl, ?_⟩
    obtain ⟨q2, hs1⟩ := HQ.out
    have z0 := (hb0.block _ (by omega)).trans q2
    have HZ := Lib.hid (And.intro z0 (And.intro hb0 hs1))
    have o0 : x0.cell? ⟨w.heap.size + 1 + 1, 0, none⟩ = some (.int .i64 0) := by rw [Lib.cell_of_heap z0]; rfl
    have o1 : x0.cell? ⟨w.heap.size + 1 + 1, 1, none⟩ = some (.int .i64 0) := by rw [Lib.cell_of_heap z0]; rfl
    have o2 : x0.cell? ⟨w.heap.size + 1 + 1, 2, none⟩ = some (.int .i64 0) := by rw [Lib.cell_of_heap z0]; rfl
    have o3 : x0.cell? ⟨w.heap.size + 1 + 1, 3, none⟩ = some (.int .i64 0) := by rw [Lib.cell_of_heap z0]; rfl
    have o4 : x0.cell? ⟨w.heap.size + 1 + 1, 4, none⟩ = some (.int .i64 0) := by rw [Lib.cell_of_heap z0]; rfl
    have o5 : x0.cell? ⟨w.heap.size + 1 + 1, 5, none⟩ = some (.int .i64 0) := by rw [Lib.cell_of_heap z0]; rfl
    have o6 : x0.cell? ⟨w.heap.size + 1 + 1, 6, none⟩ = some (.int .i64 0) := by rw [Lib.cell_of_heap z0]; rfl
    have o7 : x0.cell? ⟨w.heap.size + 1 + 1, 7, none⟩ = some (.int .i64 0) := by rw [Lib.cell_of_heap z0]; rfl
    have o8 : x0.cell? ⟨w.heap.size + 1 + 1, 8, none⟩ = some (.int .i64 0) := by rw [Lib.cell_of_heap z0]; rfl
    have o9 : x0.cell? ⟨w.heap.size + 1 + 1, 9, none⟩ = some (.int .i64 0) := by rw [Lib.cell_of_heap z0]; rfl
    have o10 : x0.cell? ⟨w.heap.size + 1 + 1, 10, none⟩ = some (.bool false) := by rw [Lib.cell_of_heap z0]; rfl
    have o11 : x0.cell? ⟨w.heap.size + 1 + 1, 11, none⟩ = some (.int .i64 0) := by rw [Lib.cell_of_heap z0]; rfl
    have fz : ∀ j, x0.frozen? ⟨w.heap.size + 1 + 1, j, none⟩ = false := fun j => Lib.frozen_of_heap z0 j
    clear q2 hs1 z0 hb0
    go_wp2_with fail
    clear o0 o1 o2 o3 o4 o5 o6 o7 o8 o9 o10 o11 fz
    obtain ⟨z0, hb0, hs1⟩ := HZ.out
    obtain ⟨x1, hx1, hr1, hg1⟩ := set12o x0 (w.heap.size + 1 + 1) zeroW8 u z0
    try rw [hx1]
    have hG1 := hG0.trans hg1
    have hBx := below_grown (B1.out.trans (hb0.mono (by omega))) hg1 (fun k e => by injection e with e; omega) (by have := hb0.size; omega)
    refine ⟨rfl, hG1, ?_⟩
    refine ⟨_, rfl, ?_⟩
    go_wp2_with fail
    exact ⟨rfl, hG1, rfl, hr1, hBx⟩
  · rintro a' w9 ⟨rfl, hr9, hb9⟩
    simp only [Act.put, List.setIfInBounds_toArray, List.set_cons_succ, List.set_cons_zero]
    go_wp2_with fail
    exact bodyPost_ret (results_tct rfl _ _ (w.heap.size + 1 + 1) _ _ _ _ rfl hr9 Try.underlying39 rfl (by kernel_rfl)) rfl ⟨rfl, hb9⟩
def RgA (M0 : List Int) (M1 : List Int) (U1 : W8) (V1 : W8) (q1 : Nat) (v0 : World) (a0 a9 : Act) (w9 : World) : Prop := ∃ (Am A9 : Option Addr) (cm c9 : Nat) (bb : Nat), a9 = (((((((((((((((a0.put (some 21) (.agg #[.int .i64 2, .int .i64 1])).put (some 22) (.agg #[.int .i64 2, .int .i64 1])).put (some 24) (.agg #[.int .i64 0, .int .i64 0, .int .i64 0, .int .i64 1])).put (some 23) (.slice Am M0.length cm)).put (some 25) (w8V U1)).put (some 26) (.tuple #[.slice A9 M1.length c9, w8V V1, .int .i64 q1, .bool true])).put (some 20) (.tuple #[.slice A9 M1.length c9, w8V V1, .int .i64 q1, .bool true])).put (some 27) (.slice A9 M1.length c9)).put (some 28) (w8V V1)).put (some 29) (.int .i64 q1)).put (some 30) (.bool true)).put (some 3) (.pointer (some ⟨bb, 0, none⟩))).put (some 2) (.slice A9 M1.length c9)).put (some 4) (.int .i64 q1)).put (some 5) (.bool true)) ∧ Own w9 v0.heap.size (.slice A9 M1.length c9) M1 ∧ w9.heap[bb]? = some (.cells (w8A V1) 39 (0, 0)) ∧ v0.heap.size ≤ bb ∧ Below v0.heap.size v0 w9
def RgB (M1 : List Int) (U1 : W8) (V2 : W8) (q2 : Nat) (A1 : Option Addr) (c1 : Nat) (v0 : World) (v1 : World) (a0 a9 : Act) (w9 : World) : Prop := ∃ (A9 : Option Addr) (c9 : Nat) (bb : Nat), a9 = ((((((((((((((a0.put (some 32) (.agg #[.int .i64 2, .int .i64 1])).put (some 33) (.slice A1 M1.length c1)).put (some 34) (.agg #[.int .i64 0, .int .i64 0, .int .i64 0, .int .i64 1])).put (some 35) (w8V U1)).put (some 36) (.tuple #[.slice A9 M1.length c9, w8V V2, .int .i64 q2, .bool true])).put (some 31) (.tuple #[.slice A9 M1.length c9, w8V V2, .int .i64 q2, .bool true])).put (some 37) (.slice A9 M1.length c9)).put (some 38) (w8V V2)).put (some 39) (.int .i64 q2)).put (some 40) (.bool true)).put (some 7) (.pointer (some ⟨bb, 0, none⟩))).put (some 6) (.slice A9 M1.length c9)).put (some 8) (.int .i64 q2)).put (some 9) (.bool true)) ∧ Own w9 v0.heap.size (.slice A9 M1.length c9) M1 ∧ w9.heap[bb]? = some (.cells (w8A V2) 39 (0, 0)) ∧ v1.heap.size ≤ bb ∧ Below v1.heap.size v1 w9
def RgC (M1 : List Int) (U2 : W8) (V3 : W8) (q3 : Nat) (A2 : Option Addr) (c2 : Nat) (v0 : World) (v2 : World) (a0 a9 : Act) (w9 : World) : Prop := ∃ (A9 : Option Addr) (c9 : Nat) (bb : Nat), a9 = ((((((((((((((a0.put (some 42) (.agg #[.int .i64 2, .int .i64 1])).put (some 43) (.slice A2 M1.length c2)).put (some 44) (.agg #[.int .i64 0, .int .i64 0, .int .i64 1, .int .i64 1])).put (some 45) (w8V U2)).put (some 46) (.tuple #[.slice A9 M1.length c9, w8V V3, .int .i64 q3, .bool true])).put (some 41) (.tuple #[.slice A9 M1.length c9, w8V V3, .int .i64 q3, .bool true])).put (some 47) (.slice A9 M1.length c9)).put (some 48) (w8V V3)).put (some 49) (.int .i64 q3)).put (some 50) (.bool true)).put (some 11) (.pointer (some ⟨bb, 0, none⟩))).put (some 10) (.slice A9 M1.length c9)).put (some 12) (.int .i64 q3)).put (some 13) (.bool true)) ∧ Own w9 v0.heap.size (.slice A9 M1.length c9) M1 ∧ w9.heap[bb]? = some (.cells (w8A V3) 39 (0, 0)) ∧ v2.heap.size ≤ bb ∧ Below v2.heap.size v2 w9
def RgD (U0 : W8) (v4 : World) (a0 a9 : Act) (w9 : World) : Prop := ∃  (bb : Nat), a9 = (((((((((((a0.put (some 58) (.agg #[.int .i64 2, .int .i64 1])).put (some 59) (.agg #[.int .i64 0, .int .i64 0, .int .i64 0, .int .i64 0])).put (some 60) (w8V U0)).put (some 61) (.tuple #[.slice none 0 0, w8V U0, .int .i64 1])).put (some 57) (.tuple #[.slice none 0 0, w8V U0, .int .i64 1])).put (some 62) (.slice none 0 0)).put (some 63) (w8V U0)).put (some 64) (.int .i64 1)).put (some 17) (.pointer (some ⟨bb, 0, none⟩))).put (some 16) (.slice none 0 0)).put (some 18) (.int .i64 1)) ∧ True ∧ w9.heap[bb]? = some (.cells (w8A U0) 39 (0, 0)) ∧ v4.heap.size ≤ bb ∧ Below v4.heap.size v4 w9
set_option maxHeartbeats 32000000 in
theorem awake14_any (w : World) : Calls Try.prog 26 #[] w fun e w' => e = .returned (.bool true) ∧ Below w.heap.size w w' := by
  obtain ⟨M1, q1, q2, q3, V1, V2, V3, a1, a2, a3, n1, n2, n3, d1, d2, d3, o1, o2, o3, hM1, hk, hn, hs⟩ := probe_example
  have hTS : TabS ((2 : Nat) : Int) ((1 : Nat) : Int) := ⟨by decide, by decide, by decide, by decide⟩
  have hnew := fun W => pNew_any (S := 2) (N := 1) W hTS
  have hint1 := fun W => pIntern_any (0, 0, 0, 1) W
  have hint2 := fun W => pIntern_any (0, 0, 1, 1) W
  have hint0 := fun W => pIntern_any (0, 0, 0, 0) W
  have hsn := fun W => pStep_none (internW (0, 0, 0, 0)) W hTS
  have hal1 := fun (W : World) (B : Nat) (A : Option Addr) (c : Nat) (hB : B ≤ W.heap.size) (hO : Own W B (.slice A (newT 2 1).length c) (newT 2 1)) => alone14_any (most := 19) W hTS (newT_len 2 1) a1 d1 n1 (by decide) hB hO
  have hal2 := fun (W : World) (B : Nat) (A : Option Addr) (c : Nat) (hB : B ≤ W.heap.size) (hO : Own W B (.slice A M1.length c) M1) => alone14_any (most := 19) W hTS hM1 a2 d2 n2 (by decide) hB hO
  have hal3 := fun (W : World) (B : Nat) (A : Option Addr) (c : Nat) (hB : B ≤ W.heap.size) (hO : Own W B (.slice A M1.length c) M1) => alone14_any (most := 19) W hTS hM1 a3 d3 n3 (by decide) hB hO
  have hkd := fun (W : World) (B : Nat) (A : Option Addr) (c : Nat) (hB : B ≤ W.heap.size) (hO : Own W B (.slice A M1.length c) M1) => pKids_any (n := 0) W hTS hM1 (by decide) hB hO
  have hno := fun (W : World) (B : Nat) (A : Option Addr) (c : Nat) (hB : B ≤ W.heap.size) (hO : Own W B (.slice A M1.length c) M1) => pNodes_any W hTS hM1 hB hO hs
  rw [hk] at hkd
  rw [hn] at hno
  obtain ⟨M0, hM0⟩ : ∃ M0, M0 = newT 2 1 := ⟨_, rfl⟩
  obtain ⟨U1, hU1⟩ : ∃ U1, U1 = internW (0, 0, 0, 1) := ⟨_, rfl⟩
  obtain ⟨U2, hU2⟩ : ∃ U2, U2 = internW (0, 0, 1, 1) := ⟨_, rfl⟩
  obtain ⟨U0, hU0⟩ : ∃ U0, U0 = internW (0, 0, 0, 0) := ⟨_, rfl⟩
  rw [← hM0] at hnew hal1
  rw [← hU1] at hint1 hal1 hal2
  rw [← hU2] at hint2 hal3
  rw [← hU0] at hint0 hsn
  replace hsn : ∀ W, Calls Try.prog 46 #[.agg #[.int .i64 2, .int .i64 1], .slice none 0 0, w8V U0] W fun e w' => e = .returned (.tuple #[.slice none 0 0, w8V U0, .int .i64 1]) ∧ Below W.heap.size W w' := hsn
  replace hnew : ∀ W, Calls Try.prog 28 #[.agg #[.int .i64 2, .int .i64 1]] W (NumsR M0 W) := hnew
  replace hint1 : ∀ W, Calls Try.prog 31 #[.agg #[.int .i64 0, .int .i64 0, .int .i64 0, .int .i64 1]] W fun e w' => e = .returned (w8V U1) ∧ Below W.heap.size W w' := hint1
  replace hint2 : ∀ W, Calls Try.prog 31 #[.agg #[.int .i64 0, .int .i64 0, .int .i64 1, .int .i64 1]] W fun e w' => e = .returned (w8V U2) ∧ Below W.heap.size W w' := hint2
  replace hint0 : ∀ W, Calls Try.prog 31 #[.agg #[.int .i64 0, .int .i64 0, .int .i64 0, .int .i64 0]] W fun e w' => e = .returned (w8V U0) ∧ Below W.heap.size W w' := hint0
  replace hal1 : ∀ (W : World) (B : Nat) (A : Option Addr) (c : Nat), B ≤ W.heap.size → Own W B (.slice A M0.length c) M0 → Calls Try.prog 30 #[.agg #[.int .i64 2, .int .i64 1], .slice A M0.length c, w8V U1, .int .i64 19] W (AloneR B M1 V1 q1 W) := hal1
  replace hal2 : ∀ (W : World) (B : Nat) (A : Option Addr) (c : Nat), B ≤ W.heap.size → Own W B (.slice A M1.length c) M1 → Calls Try.prog 30 #[.agg #[.int .i64 2, .int .i64 1], .slice A M1.length c, w8V U1, .int .i64 19] W (AloneR B M1 V2 q2 W) := hal2
  replace hal3 : ∀ (W : World) (B : Nat) (A : Option Addr) (c : Nat), B ≤ W.heap.size → Own W B (.slice A M1.length c) M1 → Calls Try.prog 30 #[.agg #[.int .i64 2, .int .i64 1], .slice A M1.length c, w8V U2, .int .i64 19] W (AloneR B M1 V3 q3 W) := hal3
  replace hkd : ∀ (W : World) (B : Nat) (A : Option Addr) (c : Nat), B ≤ W.heap.size → Own W B (.slice A M1.length c) M1 → Calls Try.prog 32 #[.agg #[.int .i64 2, .int .i64 1], .slice A M1.length c, .int .i64 0] W fun e w' => e = .returned (.tuple #[.agg #[.int .i64 0, .int .i64 0, .int .i64 0, .int .i64 1], .bool true]) ∧ Below W.heap.size W w' := hkd
  replace hno : ∀ (W : World) (B : Nat) (A : Option Addr) (c : Nat), B ≤ W.heap.size → Own W B (.slice A M1.length c) M1 → Calls Try.prog 33 #[.agg #[.int .i64 2, .int .i64 1], .slice A M1.length c] W (NumsR [0] W) := hno
  clear hM0 hM1 hU1 hU2 hU0 hk hn hs a1 a2 a3 n1 n2 n3 d1 d2 d3 hTS
  have HO := Lib.hid (And.intro o1 (And.intro o2 o3))
  clear o1 o2 o3
  go_enter Try.func26, Try.ntmps26
  go_wp2_with fail
  have hT0 := heap_alloc_new w (.cells #[.int .i64 2, .int .i64 1] 50)
  have hB0 := (Below.refl w.heap.size w).alloc (Nat.le_refl _) (.cells #[.int .i64 2, .int .i64 1] 50)
  generalize w.alloc (.cells #[.int .i64 2, .int .i64 1] 50) = v0 at *
  have L0 := fun (W : World) (hW : Below v0.heap.size v0 W) => (hW.cell (p := ⟨w.heap.size, 0, none⟩) (lt_heap6' hT0)).trans (show v0.cell? ⟨w.heap.size, 0, none⟩ = some (.int .i64 2) by rw [Lib.cell_of_heap hT0]; rfl)
  have L1 := fun (W : World) (hW : Below v0.heap.size v0 W) => (hW.cell (p := ⟨w.heap.size, 1, none⟩) (lt_heap6' hT0)).trans (show v0.cell? ⟨w.heap.size, 1, none⟩ = some (.int .i64 1) by rw [Lib.cell_of_heap hT0]; rfl)
  have HT0 := Lib.hid (And.intro hT0 hB0)
  clear hT0 hB0
  refine region_calm_to (fun W => Below v0.heap.size v0 W) (RgA M0 M1 U1 V1 q1 v0)
    (.calm 0 (.calm 1 (.calm 3 (.two 2 11 (.two 4 11 (.two 5 11 (.calm 6 (.calm 7 (.calm 8 (.calm 9 (.calm 10 (.only 11 (.only 12 (.only 13 (.only 14 (.only 15 .done)))))))))) (.only 5 (.calm 6 (.calm 7 (.calm 8 (.calm 9 (.calm 10 (.only 12 (.only 13 (.only 14 (.only 15 .done))))))))))) (.only 4 (.only 5 (.calm 6 (.calm 7 (.calm 8 (.calm 9 (.calm 10 (.only 12 (.only 13 (.only 14 (.only 15 .done)))))))))))) (.only 2 (.only 4 (.only 5 (.calm 6 (.calm 7 (.calm 8 (.calm 9 (.calm 10 (.only 12 (.only 13 (.only 14 (.only 15 .done)))))))))))))))) (by kernel_rfl) (by kernel_rfl) (by kernel_rfl) (by rfl) (below_drewW _) ?_ ?_
  · skip
    refine ⟨_, _, .agg #[.int .i64 2, .int .i64 1], rfl, rfl, ⟨rfl, fun W hW => by first | exact ⟨rfl, rfl⟩ | (have l0 := L0 W hW; have l1 := L1 W hW; simp only [Act.eval, execOp]; go_simp; try exact ⟨rfl, rfl⟩)⟩, ?_⟩
    simp only [Act.put, List.getElem_toArray, List.getElem_cons_zero, List.getElem_cons_succ, List.setIfInBounds_toArray, List.set_cons_succ, List.set_cons_zero]
    refine ⟨_, _, .agg #[.int .i64 2, .int .i64 1], rfl, rfl, ⟨rfl, fun W hW => by first | exact ⟨rfl, rfl⟩ | (have l0 := L0 W hW; have l1 := L1 W hW; simp only [Act.eval, execOp]; go_simp; try exact ⟨rfl, rfl⟩)⟩, ?_⟩
    simp only [Act.put, List.getElem_toArray, List.getElem_cons_zero, List.getElem_cons_succ, List.setIfInBounds_toArray, List.set_cons_succ, List.set_cons_zero]
    refine ⟨_, _, .agg #[.int .i64 0, .int .i64 0, .int .i64 0, .int .i64 1], rfl, rfl, ⟨rfl, fun W hW => by first | exact ⟨rfl, rfl⟩ | (simp only [Act.eval, execOp]; go_simp; try exact ⟨rfl, rfl⟩)⟩, ?_⟩
    simp only [Act.put, List.getElem_toArray, List.getElem_cons_zero, List.getElem_cons_succ, List.setIfInBounds_toArray, List.set_cons_succ, List.set_cons_zero]
    have hb_0 := below_drewW v0
    generalize v0.drew = y_0 at *
    refine ⟨?_, ?_⟩
    · skip
      refine ⟨_, rfl, ?_⟩
      go_wp2_with fail
      refine (hnew y_0).mono ?_
      rintro e y_1 ⟨v, rfl, hO, hbx⟩
      replace hO := own_mono hO hb_0.size
      obtain ⟨Am, cm, rfl, -, -⟩ := own_slice hO
      go_wp2_with fail
      have hb_1 := Qt.more hb_0 hb_0.size hbx
      clear hbx
      refine ⟨rfl, hb_1, ?_⟩
      refine ⟨?_, ?_⟩
      · skip
        refine ⟨_, rfl, ?_⟩
        go_wp2_with fail
        refine (hint1 y_1).mono ?_
        rintro e y_2 ⟨rfl, hbx⟩
        replace hO := own_next hO hbx
        go_wp2_with fail
        have hb_2 := Qt.more hb_1 hb_1.size hbx
        clear hbx
        refine ⟨rfl, hb_2, ?_⟩
        refine ⟨?_, ?_⟩
        · skip
          refine ⟨_, rfl, ?_⟩
          go_wp2_with fail
          refine (hal1 y_2 _ _ _ hb_2.size hO).mono ?_
          rintro e y_3 ⟨A9, c9, rfl, hO9, hbx⟩
          clear hO
          have hO := hO9
          clear hO9
          go_wp2_with fail
          have hb_3 := Qt.more hb_2 hb_2.size hbx
          clear hbx
          refine ⟨rfl, hb_3, ?_⟩
          refine ⟨_, _, .tuple #[.slice A9 M1.length c9, w8V V1, .int .i64 q1, .bool true], rfl, rfl, ⟨rfl, fun W hW => by first | exact ⟨rfl, rfl⟩ | (simp only [Act.eval, execOp]; go_simp; try exact ⟨rfl, rfl⟩)⟩, ?_⟩
          simp only [Act.put, List.getElem_toArray, List.getElem_cons_zero, List.getElem_cons_succ, List.setIfInBounds_toArray, List.set_cons_succ, List.set_cons_zero]
          refine ⟨_, _, .slice A9 M1.length c9, rfl, rfl, ⟨rfl, fun W hW => by first | exact ⟨rfl, rfl⟩ | (simp only [Act.eval, execOp]; go_simp; try exact ⟨rfl, rfl⟩)⟩, ?_⟩
          simp only [Act.put, List.getElem_toArray, List.getElem_cons_zero, List.getElem_cons_succ, List.setIfInBounds_toArray, List.set_cons_succ, List.set_cons_zero]
          refine ⟨_, _, w8V V1, rfl, rfl, ⟨rfl, fun W hW => by first | exact ⟨rfl, rfl⟩ | (simp only [Act.eval, execOp]; go_simp; try exact ⟨rfl, rfl⟩)⟩, ?_⟩
          simp only [Act.put, List.getElem_toArray, List.getElem_cons_zero, List.getElem_cons_succ, List.setIfInBounds_toArray, List.set_cons_succ, List.set_cons_zero]
          refine ⟨_, _, .int .i64 q1, rfl, rfl, ⟨rfl, fun W hW => by first | exact ⟨rfl, rfl⟩ | (simp only [Act.eval, execOp]; go_simp; try exact ⟨rfl, rfl⟩)⟩, ?_⟩
          simp only [Act.put, List.getElem_toArray, List.getElem_cons_zero, List.getElem_cons_succ, List.setIfInBounds_toArray, List.set_cons_succ, List.set_cons_zero]
          refine ⟨_, _, .bool true, rfl, rfl, ⟨rfl, fun W hW => by first | exact ⟨rfl, rfl⟩ | (simp only [Act.eval, execOp]; go_simp; try exact ⟨rfl, rfl⟩)⟩, ?_⟩
          simp only [Act.put, List.getElem_toArray, List.getElem_cons_zero, List.getElem_cons_succ, List.setIfInBounds_toArray, List.set_cons_succ, List.set_cons_zero]
          refine ⟨_, rfl, ?_⟩
          go_wp2_with fail
          have hbx := (Below.refl y_3.heap.size y_3).alloc (Nat.le_refl _) (.cells #[.int .i64 0, .int .i64 0, .int .i64 0, .int .i64 0, .int .i64 0, .int .i64 0, .int .i64 0, .int .i64 0, .int .i64 0, .int .i64 0, .bool false, .int .i64 0] 39)
          have hbox_4 := heap_alloc_new y_3 (.cells #[.int .i64 0, .int .i64 0, .int .i64 0, .int .i64 0, .int .i64 0, .int .i64 0, .int .i64 0, .int .i64 0, .int .i64 0, .int .i64 0, .bool false, .int .i64 0] 39)
          generalize y_3.alloc (.cells #[.int .i64 0, .int .i64 0, .int .i64 0, .int .i64 0, .int .i64 0, .int .i64 0, .int .i64 0, .int .i64 0, .int .i64 0, .int .i64 0, .bool false, .int .i64 0] 39) = y_4 at *
          have hb_4 := Qt.more hb_3 hb_3.size hbx
          have hbl := hb_3.size
          obtain ⟨bb, hbb⟩ : ∃ bb, bb = y_3.heap.size := ⟨_, rfl⟩
          rw [← hbb] at hbl hbox_4 ⊢
          replace hO := own_next hO hbx
          clear hbx hbb
          refine ⟨rfl, hb_4, ?_⟩
          refine ⟨_, rfl, ?_⟩
          go_wp2_with fail
          refine ⟨rfl, hb_4, ?_⟩
          refine ⟨_, rfl, ?_⟩
          have o0 : y_4.cell? ⟨bb, 0, none⟩ = some (.int .i64 0) := by rw [Lib.cell_of_heap hbox_4]; rfl
          have o1 : y_4.cell? ⟨bb, 1, none⟩ = some (.int .i64 0) := by rw [Lib.cell_of_heap hbox_4]; rfl
          have o2 : y_4.cell? ⟨bb, 2, none⟩ = some (.int .i64 0) := by rw [Lib.cell_of_heap hbox_4]; rfl
          have o3 : y_4.cell? ⟨bb, 3, none⟩ = some (.int .i64 0) := by rw [Lib.cell_of_heap hbox_4]; rfl
          have o4 : y_4.cell? ⟨bb, 4, none⟩ = some (.int .i64 0) := by rw [Lib.cell_of_heap hbox_4]; rfl
          have o5 : y_4.cell? ⟨bb, 5, none⟩ = some (.int .i64 0) := by rw [Lib.cell_of_heap hbox_4]; rfl
          have o6 : y_4.cell? ⟨bb, 6, none⟩ = some (.int .i64 0) := by rw [Lib.cell_of_heap hbox_4]; rfl
          have o7 : y_4.cell? ⟨bb, 7, none⟩ = some (.int .i64 0) := by rw [Lib.cell_of_heap hbox_4]; rfl
          have o8 : y_4.cell? ⟨bb, 8, none⟩ = some (.int .i64 0) := by rw [Lib.cell_of_heap hbox_4]; rfl
          have o9 : y_4.cell? ⟨bb, 9, none⟩ = some (.int .i64 0) := by rw [Lib.cell_of_heap hbox_4]; rfl
          have o10 : y_4.cell? ⟨bb, 10, none⟩ = some (.bool false) := by rw [Lib.cell_of_heap hbox_4]; rfl
          have o11 : y_4.cell? ⟨bb, 11, none⟩ = some (.int .i64 0) := by rw [Lib.cell_of_heap hbox_4]; rfl
          have fz : ∀ j, y_4.frozen? ⟨bb, j, none⟩ = false := fun j => Lib.frozen_of_heap hbox_4 j
          go_wp2_with fail
          clear o0 o1 o2 o3 o4 o5 o6 o7 o8 o9 o10 o11 fz
          obtain ⟨y_5, hy, hbox_5, hg⟩ := set12o y_4 bb zeroW8 V1 hbox_4
          try rw [hy]
          have hb_5 := below_grown hb_4 hg (fun k e => by injection e with e; omega) hb_4.size
          replace hO := hO.kept hg (.inr (own_type hO hbox_4 (by decide)))
          clear hy hg
          refine ⟨rfl, hb_5, ?_⟩
          refine ⟨_, rfl, ?_⟩
          go_wp2_with fail
          refine ⟨rfl, hb_5, ?_⟩
          refine ⟨_, rfl, ?_⟩
          go_wp2_with fail
          refine ⟨rfl, hb_5, ?_⟩
          exact ⟨Am, A9, cm, c9, bb, (by simp only [Act.put, List.setIfInBounds_toArray, List.set_cons_succ, List.set_cons_zero]), hO, hbox_5, hbl, hb_5⟩
        · skip
          refine ⟨_, rfl, ?_⟩
          go_wp2_with fail
          have hbx := (Below.refl y_2.heap.size y_2).alloc (Nat.le_refl _) (.cells #[.int .i64 0, .int .i64 0, .int .i64 0, .int .i64 0, .int .i64 0, .int .i64 0, .int .i64 0, .int .i64 0, .int .i64 0, .int .i64 0, .bool false, .int .i64 0] 39)
          have hbox_3 := heap_alloc_new y_2 (.cells #[.int .i64 0, .int .i64 0, .int .i64 0, .int .i64 0, .int .i64 0, .int .i64 0, .int .i64 0, .int .i64 0, .int .i64 0, .int .i64 0, .bool false, .int .i64 0] 39)
          generalize y_2.alloc (.cells #[.int .i64 0, .int .i64 0, .int .i64 0, .int .i64 0, .int .i64 0, .int .i64 0, .int .i64 0, .int .i64 0, .int .i64 0, .int .i64 0, .bool false, .int .i64 0] 39) = y_3 at *
          have hb_3 := Qt.more hb_2 hb_2.size hbx
          have hbl := hb_2.size
          obtain ⟨bb, hbb⟩ : ∃ bb, bb = y_2.heap.size := ⟨_, rfl⟩
          rw [← hbb] at hbl hbox_3 ⊢
          replace hO := own_next hO hbx
          clear hbx hbb
          refine ⟨rfl, hb_3, ?_⟩
          refine ⟨_, rfl, ?_⟩
          go_wp2_with fail
          refine (hal1 y_3 _ _ _ hb_3.size hO).mono ?_
          rintro e y_4 ⟨A9, c9, rfl, hO9, hbx⟩
          clear hO
          have hO := hO9
          clear hO9
          go_wp2_with fail
          have hb_4 := Qt.more hb_3 hb_3.size hbx
          have hbox_4 := (hbx.block _ (lt_heap6' hbox_3)).trans hbox_3
          clear hbx
          refine ⟨rfl, hb_4, ?_⟩
          refine ⟨_, _, .tuple #[.slice A9 M1.length c9, w8V V1, .int .i64 q1, .bool true], rfl, rfl, ⟨rfl, fun W hW => by first | exact ⟨rfl, rfl⟩ | (simp only [Act.eval, execOp]; go_simp; try exact ⟨rfl, rfl⟩)⟩, ?_⟩
          simp only [Act.put, List.getElem_toArray, List.getElem_cons_zero, List.getElem_cons_succ, List.setIfInBounds_toArray, List.set_cons_succ, List.set_cons_zero]
          refine ⟨_, _, .slice A9 M1.length c9, rfl, rfl, ⟨rfl, fun W hW => by first | exact ⟨rfl, rfl⟩ | (simp only [Act.eval, execOp]; go_simp; try exact ⟨rfl, rfl⟩)⟩, ?_⟩
          simp only [Act.put, List.getElem_toArray, List.getElem_cons_zero, List.getElem_cons_succ, List.setIfInBounds_toArray, List.set_cons_succ, List.set_cons_zero]
          refine ⟨_, _, w8V V1, rfl, rfl, ⟨rfl, fun W hW => by first | exact ⟨rfl, rfl⟩ | (simp only [Act.eval, execOp]; go_simp; try exact ⟨rfl, rfl⟩)⟩, ?_⟩
          simp only [Act.put, List.getElem_toArray, List.getElem_cons_zero, List.getElem_cons_succ, List.setIfInBounds_toArray, List.set_cons_succ, List.set_cons_zero]
          refine ⟨_, _, .int .i64 q1, rfl, rfl, ⟨rfl, fun W hW => by first | exact ⟨rfl, rfl⟩ | (simp only [Act.eval, execOp]; go_simp; try exact ⟨rfl, rfl⟩)⟩, ?_⟩
          simp only [Act.put, List.getElem_toArray, List.getElem_cons_zero, List.getElem_cons_succ, List.setIfInBounds_toArray, List.set_cons_succ, List.set_cons_zero]
          refine ⟨_, _, .bool true, rfl, rfl, ⟨rfl, fun W hW => by first | exact ⟨rfl, rfl⟩ | (simp only [Act.eval, execOp]; go_simp; try exact ⟨rfl, rfl⟩)⟩, ?_⟩
          simp only [Act.put, List.getElem_toArray, List.getElem_cons_zero, List.getElem_cons_succ, List.setIfInBounds_toArray, List.set_cons_succ, List.set_cons_zero]
          refine ⟨_, rfl, ?_⟩
          go_wp2_with fail
          refine ⟨rfl, hb_4, ?_⟩
          refine ⟨_, rfl, ?_⟩
          have o0 : y_4.cell? ⟨bb, 0, none⟩ = some (.int .i64 0) := by rw [Lib.cell_of_heap hbox_4]; rfl
          have o1 : y_4.cell? ⟨bb, 1, none⟩ = some (.int .i64 0) := by rw [Lib.cell_of_heap hbox_4]; rfl
          have o2 : y_4.cell? ⟨bb, 2, none⟩ = some (.int .i64 0) := by rw [Lib.cell_of_heap hbox_4]; rfl
          have o3 : y_4.cell? ⟨bb, 3, none⟩ = some (.int .i64 0) := by rw [Lib.cell_of_heap hbox_4]; rfl
          have o4 : y_4.cell? ⟨bb, 4, none⟩ = some (.int .i64 0) := by rw [Lib.cell_of_heap hbox_4]; rfl
          have o5 : y_4.cell? ⟨bb, 5, none⟩ = some (.int .i64 0) := by rw [Lib.cell_of_heap hbox_4]; rfl
          have o6 : y_4.cell? ⟨bb, 6, none⟩ = some (.int .i64 0) := by rw [Lib.cell_of_heap hbox_4]; rfl
          have o7 : y_4.cell? ⟨bb, 7, none⟩ = some (.int .i64 0) := by rw [Lib.cell_of_heap hbox_4]; rfl
          have o8 : y_4.cell? ⟨bb, 8, none⟩ = some (.int .i64 0) := by rw [Lib.cell_of_heap hbox_4]; rfl
          have o9 : y_4.cell? ⟨bb, 9, none⟩ = some (.int .i64 0) := by rw [Lib.cell_of_heap hbox_4]; rfl
          have o10 : y_4.cell? ⟨bb, 10, none⟩ = some (.bool false) := by rw [Lib.cell_of_heap hbox_4]; rfl
          have o11 : y_4.cell? ⟨bb, 11, none⟩ = some (.int .i64 0) := by rw [Lib.cell_of_heap hbox_4]; rfl
          have fz : ∀ j, y_4.frozen? ⟨bb, j, none⟩ = false := fun j => Lib.frozen_of_heap hbox_4 j
          go_wp2_with fail
          clear o0 o1 o2 o3 o4 o5 o6 o7 o8 o9 o10 o11 fz
          obtain ⟨y_5, hy, hbox_5, hg⟩ := set12o y_4 bb zeroW8 V1 hbox_4
          try rw [hy]
          have hb_5 := below_grown hb_4 hg (fun k e => by injection e with e; omega) hb_4.size
          replace hO := hO.kept hg (.inr (own_type hO hbox_4 (by decide)))
          clear hy hg
          refine ⟨rfl, hb_5, ?_⟩
          refine ⟨_, rfl, ?_⟩
          go_wp2_with fail
          refine ⟨rfl, hb_5, ?_⟩
          refine ⟨_, rfl, ?_⟩
          go_wp2_with fail
          refine ⟨rfl, hb_5, ?_⟩
          exact ⟨Am, A9, cm, c9, bb, (by simp only [Act.put, List.setIfInBounds_toArray, List.set_cons_succ, List.set_cons_zero]), hO, hbox_5, hbl, hb_5⟩
      · skip
        refine ⟨_, rfl, ?_⟩
        go_wp2_with fail
        have hbx := (Below.refl y_1.heap.size y_1).alloc (Nat.le_refl _) (.cells #[.int .i64 0, .int .i64 0, .int .i64 0, .int .i64 0, .int .i64 0, .int .i64 0, .int .i64 0, .int .i64 0, .int .i64 0, .int .i64 0, .bool false, .int .i64 0] 39)
        have hbox_2 := heap_alloc_new y_1 (.cells #[.int .i64 0, .int .i64 0, .int .i64 0, .int .i64 0, .int .i64 0, .int .i64 0, .int .i64 0, .int .i64 0, .int .i64 0, .int .i64 0, .bool false, .int .i64 0] 39)
        generalize y_1.alloc (.cells #[.int .i64 0, .int .i64 0, .int .i64 0, .int .i64 0, .int .i64 0, .int .i64 0, .int .i64 0, .int .i64 0, .int .i64 0, .int .i64 0, .bool false, .int .i64 0] 39) = y_2 at *
        have hb_2 := Qt.more hb_1 hb_1.size hbx
        have hbl := hb_1.size
        obtain ⟨bb, hbb⟩ : ∃ bb, bb = y_1.heap.size := ⟨_, rfl⟩
        rw [← hbb] at hbl hbox_2 ⊢
        replace hO := own_next hO hbx
        clear hbx hbb
        refine ⟨rfl, hb_2, ?_⟩
        refine ⟨_, rfl, ?_⟩
        go_wp2_with fail
        refine (hint1 y_2).mono ?_
        rintro e y_3 ⟨rfl, hbx⟩
        replace hO := own_next hO hbx
        go_wp2_with fail
        have hb_3 := Qt.more hb_2 hb_2.size hbx
        have hbox_3 := (hbx.block _ (lt_heap6' hbox_2)).trans hbox_2
        clear hbx
        refine ⟨rfl, hb_3, ?_⟩
        refine ⟨_, rfl, ?_⟩
        go_wp2_with fail
        refine (hal1 y_3 _ _ _ hb_3.size hO).mono ?_
        rintro e y_4 ⟨A9, c9, rfl, hO9, hbx⟩
        clear hO
        have hO := hO9
        clear hO9
        go_wp2_with fail
        have hb_4 := Qt.more hb_3 hb_3.size hbx
        have hbox_4 := (hbx.block _ (lt_heap6' hbox_3)).trans hbox_3
        clear hbx
        refine ⟨rfl, hb_4, ?_⟩
        refine ⟨_, _, .tuple #[.slice A9 M1.length c9, w8V V1, .int .i64 q1, .bool true], rfl, rfl, ⟨rfl, fun W hW => by first | exact ⟨rfl, rfl⟩ | (simp only [Act.eval, execOp]; go_simp; try exact ⟨rfl, rfl⟩)⟩, ?_⟩
        simp only [Act.put, List.getElem_toArray, List.getElem_cons_zero, List.getElem_cons_succ, List.setIfInBounds_toArray, List.set_cons_succ, List.set_cons_zero]
        refine ⟨_, _, .slice A9 M1.length c9, rfl, rfl, ⟨rfl, fun W hW => by first | exact ⟨rfl, rfl⟩ | (simp only [Act.eval, execOp]; go_simp; try exact ⟨rfl, rfl⟩)⟩, ?_⟩
        simp only [Act.put, List.getElem_toArray, List.getElem_cons_zero, List.getElem_cons_succ, List.setIfInBounds_toArray, List.set_cons_succ, List.set_cons_zero]
        refine ⟨_, _, w8V V1, rfl, rfl, ⟨rfl, fun W hW => by first | exact ⟨rfl, rfl⟩ | (simp only [Act.eval, execOp]; go_simp; try exact ⟨rfl, rfl⟩)⟩, ?_⟩
        simp only [Act.put, List.getElem_toArray, List.getElem_cons_zero, List.getElem_cons_succ, List.setIfInBounds_toArray, List.set_cons_succ, List.set_cons_zero]
        refine ⟨_, _, .int .i64 q1, rfl, rfl, ⟨rfl, fun W hW => by first | exact ⟨rfl, rfl⟩ | (simp only [Act.eval, execOp]; go_simp; try exact ⟨rfl, rfl⟩)⟩, ?_⟩
        simp only [Act.put, List.getElem_toArray, List.getElem_cons_zero, List.getElem_cons_succ, List.setIfInBounds_toArray, List.set_cons_succ, List.set_cons_zero]
        refine ⟨_, _, .bool true, rfl, rfl, ⟨rfl, fun W hW => by first | exact ⟨rfl, rfl⟩ | (simp only [Act.eval, execOp]; go_simp; try exact ⟨rfl, rfl⟩)⟩, ?_⟩
        simp only [Act.put, List.getElem_toArray, List.getElem_cons_zero, List.getElem_cons_succ, List.setIfInBounds_toArray, List.set_cons_succ, List.set_cons_zero]
        refine ⟨_, rfl, ?_⟩
        go_wp2_with fail
        refine ⟨rfl, hb_4, ?_⟩
        refine ⟨_, rfl, ?_⟩
        have o0 : y_4.cell? ⟨bb, 0, none⟩ = some (.int .i64 0) := by rw [Lib.cell_of_heap hbox_4]; rfl
        have o1 : y_4.cell? ⟨bb, 1, none⟩ = some (.int .i64 0) := by rw [Lib.cell_of_heap hbox_4]; rfl
        have o2 : y_4.cell? ⟨bb, 2, none⟩ = some (.int .i64 0) := by rw [Lib.cell_of_heap hbox_4]; rfl
        have o3 : y_4.cell? ⟨bb, 3, none⟩ = some (.int .i64 0) := by rw [Lib.cell_of_heap hbox_4]; rfl
        have o4 : y_4.cell? ⟨bb, 4, none⟩ = some (.int .i64 0) := by rw [Lib.cell_of_heap hbox_4]; rfl
        have o5 : y_4.cell? ⟨bb, 5, none⟩ = some (.int .i64 0) := by rw [Lib.cell_of_heap hbox_4]; rfl
        have o6 : y_4.cell? ⟨bb, 6, none⟩ = some (.int .i64 0) := by rw [Lib.cell_of_heap hbox_4]; rfl
        have o7 : y_4.cell? ⟨bb, 7, none⟩ = some (.int .i64 0) := by rw [Lib.cell_of_heap hbox_4]; rfl
        have o8 : y_4.cell? ⟨bb, 8, none⟩ = some (.int .i64 0) := by rw [Lib.cell_of_heap hbox_4]; rfl
        have o9 : y_4.cell? ⟨bb, 9, none⟩ = some (.int .i64 0) := by rw [Lib.cell_of_heap hbox_4]; rfl
        have o10 : y_4.cell? ⟨bb, 10, none⟩ = some (.bool false) := by rw [Lib.cell_of_heap hbox_4]; rfl
        have o11 : y_4.cell? ⟨bb, 11, none⟩ = some (.int .i64 0) := by rw [Lib.cell_of_heap hbox_4]; rfl
        have fz : ∀ j, y_4.frozen? ⟨bb, j, none⟩ = false := fun j => Lib.frozen_of_heap hbox_4 j
        go_wp2_with fail
        clear o0 o1 o2 o3 o4 o5 o6 o7 o8 o9 o10 o11 fz
        obtain ⟨y_5, hy, hbox_5, hg⟩ := set12o y_4 bb zeroW8 V1 hbox_4
        try rw [hy]
        have hb_5 := below_grown hb_4 hg (fun k e => by injection e with e; omega) hb_4.size
        replace hO := hO.kept hg (.inr (own_type hO hbox_4 (by decide)))
        clear hy hg
        refine ⟨rfl, hb_5, ?_⟩
        refine ⟨_, rfl, ?_⟩
        go_wp2_with fail
        refine ⟨rfl, hb_5, ?_⟩
        refine ⟨_, rfl, ?_⟩
        go_wp2_with fail
        refine ⟨rfl, hb_5, ?_⟩
        exact ⟨Am, A9, cm, c9, bb, (by simp only [Act.put, List.setIfInBounds_toArray, List.set_cons_succ, List.set_cons_zero]), hO, hbox_5, hbl, hb_5⟩
    · skip
      refine ⟨_, rfl, ?_⟩
      go_wp2_with fail
      have hbx := (Below.refl y_0.heap.size y_0).alloc (Nat.le_refl _) (.cells #[.int .i64 0, .int .i64 0, .int .i64 0, .int .i64 0, .int .i64 0, .int .i64 0, .int .i64 0, .int .i64 0, .int .i64 0, .int .i64 0, .bool false, .int .i64 0] 39)
      have hbox_1 := heap_alloc_new y_0 (.cells #[.int .i64 0, .int .i64 0, .int .i64 0, .int .i64 0, .int .i64 0, .int .i64 0, .int .i64 0, .int .i64 0, .int .i64 0, .int .i64 0, .bool false, .int .i64 0] 39)
      generalize y_0.alloc (.cells #[.int .i64 0, .int .i64 0, .int .i64 0, .int .i64 0, .int .i64 0, .int .i64 0, .int .i64 0, .int .i64 0, .int .i64 0, .int .i64 0, .bool false, .int .i64 0] 39) = y_1 at *
      have hb_1 := Qt.more hb_0 hb_0.size hbx
      have hbl := hb_0.size
      obtain ⟨bb, hbb⟩ : ∃ bb, bb = y_0.heap.size := ⟨_, rfl⟩
      rw [← hbb] at hbl hbox_1 ⊢
      clear hbx hbb
      refine ⟨rfl, hb_1, ?_⟩
      refine ⟨_, rfl, ?_⟩
      go_wp2_with fail
      refine (hnew y_1).mono ?_
      rintro e y_2 ⟨v, rfl, hO, hbx⟩
      replace hO := own_mono hO hb_1.size
      obtain ⟨Am, cm, rfl, -, -⟩ := own_slice hO
      go_wp2_with fail
      have hb_2 := Qt.more hb_1 hb_1.size hbx
      have hbox_2 := (hbx.block _ (lt_heap6' hbox_1)).trans hbox_1
      clear hbx
      refine ⟨rfl, hb_2, ?_⟩
      refine ⟨_, rfl, ?_⟩
      go_wp2_with fail
      refine (hint1 y_2).mono ?_
      rintro e y_3 ⟨rfl, hbx⟩
      replace hO := own_next hO hbx
      go_wp2_with fail
      have hb_3 := Qt.more hb_2 hb_2.size hbx
      have hbox_3 := (hbx.block _ (lt_heap6' hbox_2)).trans hbox_2
      clear hbx
      refine ⟨rfl, hb_3, ?_⟩
      refine ⟨_, rfl, ?_⟩
      go_wp2_with fail
      refine (hal1 y_3 _ _ _ hb_3.size hO).mono ?_
      rintro e y_4 ⟨A9, c9, rfl, hO9, hbx⟩
      clear hO
      have hO := hO9
      clear hO9
      go_wp2_with fail
      have hb_4 := Qt.more hb_3 hb_3.size hbx
      have hbox_4 := (hbx.block _ (lt_heap6' hbox_3)).trans hbox_3
      clear hbx
      refine ⟨rfl, hb_4, ?_⟩
      refine ⟨_, _, .tuple #[.slice A9 M1.length c9, w8V V1, .int .i64 q1, .bool true], rfl, rfl, ⟨rfl, fun W hW => by first | exact ⟨rfl, rfl⟩ | (simp only [Act.eval, execOp]; go_simp; try exact ⟨rfl, rfl⟩)⟩, ?_⟩
      simp only [Act.put, List.getElem_toArray, List.getElem_cons_zero, List.getElem_cons_succ, List.setIfInBounds_toArray, List.set_cons_succ, List.set_cons_zero]
      refine ⟨_, _, .slice A9 M1.length c9, rfl, rfl, ⟨rfl, fun W hW => by first | exact ⟨rfl, rfl⟩ | (simp only [Act.eval, execOp]; go_simp; try exact ⟨rfl, rfl⟩)⟩, ?_⟩
      simp only [Act.put, List.getElem_toArray, List.getElem_cons_zero, List.getElem_cons_succ, List.setIfInBounds_toArray, List.set_cons_succ, List.set_cons_zero]
      refine ⟨_, _, w8V V1, rfl, rfl, ⟨rfl, fun W hW => by first | exact ⟨rfl, rfl⟩ | (simp only [Act.eval, execOp]; go_simp; try exact ⟨rfl, rfl⟩)⟩, ?_⟩
      simp only [Act.put, List.getElem_toArray, List.getElem_cons_zero, List.getElem_cons_succ, List.setIfInBounds_toArray, List.set_cons_succ, List.set_cons_zero]
      refine ⟨_, _, .int .i64 q1, rfl, rfl, ⟨rfl, fun W hW => by first | exact ⟨rfl, rfl⟩ | (simp only [Act.eval, execOp]; go_simp; try exact ⟨rfl, rfl⟩)⟩, ?_⟩
      simp only [Act.put, List.getElem_toArray, List.getElem_cons_zero, List.getElem_cons_succ, List.setIfInBounds_toArray, List.set_cons_succ, List.set_cons_zero]
      refine ⟨_, _, .bool true, rfl, rfl, ⟨rfl, fun W hW => by first | exact ⟨rfl, rfl⟩ | (simp only [Act.eval, execOp]; go_simp; try exact ⟨rfl, rfl⟩)⟩, ?_⟩
      simp only [Act.put, List.getElem_toArray, List.getElem_cons_zero, List.getElem_cons_succ, List.setIfInBounds_toArray, List.set_cons_succ, List.set_cons_zero]
      refine ⟨_, rfl, ?_⟩
      go_wp2_with fail
      refine ⟨rfl, hb_4, ?_⟩
      refine ⟨_, rfl, ?_⟩
      have o0 : y_4.cell? ⟨bb, 0, none⟩ = some (.int .i64 0) := by rw [Lib.cell_of_heap hbox_4]; rfl
      have o1 : y_4.cell? ⟨bb, 1, none⟩ = some (.int .i64 0) := by rw [Lib.cell_of_heap hbox_4]; rfl
      have o2 : y_4.cell? ⟨bb, 2, none⟩ = some (.int .i64 0) := by rw [Lib.cell_of_heap hbox_4]; rfl
      have o3 : y_4.cell? ⟨bb, 3, none⟩ = some (.int .i64 0) := by rw [Lib.cell_of_heap hbox_4]; rfl
      have o4 : y_4.cell? ⟨bb, 4, none⟩ = some (.int .i64 0) := by rw [Lib.cell_of_heap hbox_4]; rfl
      have o5 : y_4.cell? ⟨bb, 5, none⟩ = some (.int .i64 0) := by rw [Lib.cell_of_heap hbox_4]; rfl
      have o6 : y_4.cell? ⟨bb, 6, none⟩ = some (.int .i64 0) := by rw [Lib.cell_of_heap hbox_4]; rfl
      have o7 : y_4.cell? ⟨bb, 7, none⟩ = some (.int .i64 0) := by rw [Lib.cell_of_heap hbox_4]; rfl
      have o8 : y_4.cell? ⟨bb, 8, none⟩ = some (.int .i64 0) := by rw [Lib.cell_of_heap hbox_4]; rfl
      have o9 : y_4.cell? ⟨bb, 9, none⟩ = some (.int .i64 0) := by rw [Lib.cell_of_heap hbox_4]; rfl
      have o10 : y_4.cell? ⟨bb, 10, none⟩ = some (.bool false) := by rw [Lib.cell_of_heap hbox_4]; rfl
      have o11 : y_4.cell? ⟨bb, 11, none⟩ = some (.int .i64 0) := by rw [Lib.cell_of_heap hbox_4]; rfl
      have fz : ∀ j, y_4.frozen? ⟨bb, j, none⟩ = false := fun j => Lib.frozen_of_heap hbox_4 j
      go_wp2_with fail
      clear o0 o1 o2 o3 o4 o5 o6 o7 o8 o9 o10 o11 fz
      obtain ⟨y_5, hy, hbox_5, hg⟩ := set12o y_4 bb zeroW8 V1 hbox_4
      try rw [hy]
      have hb_5 := below_grown hb_4 hg (fun k e => by injection e with e; omega) hb_4.size
      replace hO := hO.kept hg (.inr (own_type hO hbox_4 (by decide)))
      clear hy hg
      refine ⟨rfl, hb_5, ?_⟩
      refine ⟨_, rfl, ?_⟩
      go_wp2_with fail
      refine ⟨rfl, hb_5, ?_⟩
      refine ⟨_, rfl, ?_⟩
      go_wp2_with fail
      refine ⟨rfl, hb_5, ?_⟩
      exact ⟨Am, A9, cm, c9, bb, (by simp only [Act.put, List.setIfInBounds_toArray, List.set_cons_succ, List.set_cons_zero]), hO, hbox_5, hbl, hb_5⟩
  · rintro a' v1 ⟨Am, A1, cm, c1, b1, rfl, hO1, hx1, hl1, hb1⟩
    simp only [Act.put, List.setIfInBounds_toArray, List.set_cons_succ, List.set_cons_zero]
    clear L0 L1
    obtain ⟨hT0, hB0⟩ := HT0.out
    have hT1 := (hb1.block _ (lt_heap6' hT0)).trans hT0
    have hs1 := hb1.size
    have B1 := Lib.hid (hB0.trans (hb1.mono hB0.size))
    have X1 := Lib.hid hx1
    clear hx1 hb1 hT0 hB0 hnew hal1
    go_wp2_with fail
    have L0 := fun (W : World) (hW : Below v1.heap.size v1 W) => (hW.cell (p := ⟨w.heap.size, 0, none⟩) (lt_heap6' hT1)).trans (show v1.cell? ⟨w.heap.size, 0, none⟩ = some (.int .i64 2) by rw [Lib.cell_of_heap hT1]; rfl)
    have L1 := fun (W : World) (hW : Below v1.heap.size v1 W) => (hW.cell (p := ⟨w.heap.size, 1, none⟩) (lt_heap6' hT1)).trans (show v1.cell? ⟨w.heap.size, 1, none⟩ = some (.int .i64 1) by rw [Lib.cell_of_heap hT1]; rfl)
    have T1 := Lib.hid hT1
    clear hT1
    refine region_calm_to (fun W => Below v1.heap.size v1 W) (RgB M1 U1 V2 q2 A1 c1 v0 v1)
      (.calm 0 (.calm 1 (.calm 2 (.two 3 10 (.two 4 10 (.calm 5 (.calm 6 (.calm 7 (.calm 8 (.calm 9 (.only 10 (.only 11 (.only 12 (.only 13 (.only 14 .done)))))))))) (.only 4 (.calm 5 (.calm 6 (.calm 7 (.calm 8 (.calm 9 (.only 11 (.only 12 (.only 13 (.only 14 .done))))))))))) (.only 3 (.only 4 (.calm 5 (.calm 6 (.calm 7 (.calm 8 (.calm 9 (.only 11 (.only 12 (.only 13 (.only 14 .done))))))))))))))) (by kernel_rfl) (by kernel_rfl) (by kernel_rfl) (by rfl) (below_drewW _) ?_ ?_
    · skip
      refine ⟨_, _, .agg #[.int .i64 2, .int .i64 1], rfl, rfl, ⟨rfl, fun W hW => by first | exact ⟨rfl, rfl⟩ | (have l0 := L0 W hW; have l1 := L1 W hW; simp only [Act.eval, execOp]; go_simp; try exact ⟨rfl, rfl⟩)⟩, ?_⟩
      simp only [Act.put, List.getElem_toArray, List.getElem_cons_zero, List.getElem_cons_succ, List.setIfInBounds_toArray, List.set_cons_succ, List.set_cons_zero]
      refine ⟨_, _, .slice A1 M1.length c1, rfl, rfl, ⟨rfl, fun W hW => by first | exact ⟨rfl, rfl⟩ | (simp only [Act.eval, execOp]; go_simp; try exact ⟨rfl, rfl⟩)⟩, ?_⟩
      simp only [Act.put, List.getElem_toArray, List.getElem_cons_zero, List.getElem_cons_succ, List.setIfInBounds_toArray, List.set_cons_succ, List.set_cons_zero]
      refine ⟨_, _, .agg #[.int .i64 0, .int .i64 0, .int .i64 0, .int .i64 1], rfl, rfl, ⟨rfl, fun W hW => by first | exact ⟨rfl, rfl⟩ | (simp only [Act.eval, execOp]; go_simp; try exact ⟨rfl, rfl⟩)⟩, ?_⟩
      simp only [Act.put, List.getElem_toArray, List.getElem_cons_zero, List.getElem_cons_succ, List.setIfInBounds_toArray, List.set_cons_succ, List.set_cons_zero]
      have hb_0 := below_drewW v1
      generalize v1.drew = y_0 at *
      have hO := own_next hO1 hb_0
      refine ⟨?_, ?_⟩
      · skip
        refine ⟨_, rfl, ?_⟩
        go_wp2_with fail
        refine (hint1 y_0).mono ?_
        rintro e y_1 ⟨rfl, hbx⟩
        replace hO := own_next hO hbx
        go_wp2_with fail
        have hb_1 := Qt.more hb_0 hb_0.size hbx
        clear hbx
        refine ⟨rfl, hb_1, ?_⟩
        refine ⟨?_, ?_⟩
        · skip
          refine ⟨_, rfl, ?_⟩
          go_wp2_with fail
          refine (hal2 y_1 v0.heap.size _ _ (by have := hb_1.size; omega) hO).mono ?_
          rintro e y_2 ⟨A9, c9, rfl, hO9, hbx⟩
          clear hO
          have hO := hO9
          clear hO9
          go_wp2_with fail
          have hb_2 := Qt.more hb_1 hb_1.size hbx
          clear hbx
          refine ⟨rfl, hb_2, ?_⟩
          refine ⟨_, _, .tuple #[.slice A9 M1.length c9, w8V V2, .int .i64 q2, .bool true], rfl, rfl, ⟨rfl, fun W hW => by first | exact ⟨rfl, rfl⟩ | (simp only [Act.eval, execOp]; go_simp; try exact ⟨rfl, rfl⟩)⟩, ?_⟩
          simp only [Act.put, List.getElem_toArray, List.getElem_cons_zero, List.getElem_cons_succ, List.setIfInBounds_toArray, List.set_cons_succ, List.set_cons_zero]
          refine ⟨_, _, .slice A9 M1.length c9, rfl, rfl, ⟨rfl, fun W hW => by first | exact ⟨rfl, rfl⟩ | (simp only [Act.eval, execOp]; go_simp; try exact ⟨rfl, rfl⟩)⟩, ?_⟩
          simp only [Act.put, List.getElem_toArray, List.getElem_cons_zero, List.getElem_cons_succ, List.setIfInBounds_toArray, List.set_cons_succ, List.set_cons_zero]
          refine ⟨_, _, w8V V2, rfl, rfl, ⟨rfl, fun W hW => by first | exact ⟨rfl, rfl⟩ | (simp only [Act.eval, execOp]; go_simp; try exact ⟨rfl, rfl⟩)⟩, ?_⟩
          simp only [Act.put, List.getElem_toArray, List.getElem_cons_zero, List.getElem_cons_succ, List.setIfInBounds_toArray, List.set_cons_succ, List.set_cons_zero]
          refine ⟨_, _, .int .i64 q2, rfl, rfl, ⟨rfl, fun W hW => by first | exact ⟨rfl, rfl⟩ | (simp only [Act.eval, execOp]; go_simp; try exact ⟨rfl, rfl⟩)⟩, ?_⟩
          simp only [Act.put, List.getElem_toArray, List.getElem_cons_zero, List.getElem_cons_succ, List.setIfInBounds_toArray, List.set_cons_succ, List.set_cons_zero]
          refine ⟨_, _, .bool true, rfl, rfl, ⟨rfl, fun W hW => by first | exact ⟨rfl, rfl⟩ | (simp only [Act.eval, execOp]; go_simp; try exact ⟨rfl, rfl⟩)⟩, ?_⟩
          simp only [Act.put, List.getElem_toArray, List.getElem_cons_zero, List.getElem_cons_succ, List.setIfInBounds_toArray, List.set_cons_succ, List.set_cons_zero]
          refine ⟨_, rfl, ?_⟩
          go_wp2_with fail
          have hbx := (Below.refl y_2.heap.size y_2).alloc (Nat.le_refl _) (.cells #[.int .i64 0, .int .i64 0, .int .i64 0, .int .i64 0, .int .i64 0, .int .i64 0, .int .i64 0, .int .i64 0, .int .i64 0, .int .i64 0, .bool false, .int .i64 0] 39)
          have hbox_3 := heap_alloc_new y_2 (.cells #[.int .i64 0, .int .i64 0, .int .i64 0, .int .i64 0, .int .i64 0, .int .i64 0, .int .i64 0, .int .i64 0, .int .i64 0, .int .i64 0, .bool false, .int .i64 0] 39)
          generalize y_2.alloc (.cells #[.int .i64 0, .int .i64 0, .int .i64 0, .int .i64 0, .int .i64 0, .int .i64 0, .int .i64 0, .int .i64 0, .int .i64 0, .int .i64 0, .bool false, .int .i64 0] 39) = y_3 at *
          have hb_3 := Qt.more hb_2 hb_2.size hbx
          have hbl := hb_2.size
          obtain ⟨bb, hbb⟩ : ∃ bb, bb = y_2.heap.size := ⟨_, rfl⟩
          rw [← hbb] at hbl hbox_3 ⊢
          replace hO := own_next hO hbx
          clear hbx hbb
          refine ⟨rfl, hb_3, ?_⟩
          refine ⟨_, rfl, ?_⟩
          go_wp2_with fail
          refine ⟨rfl, hb_3, ?_⟩
          refine ⟨_, rfl, ?_⟩
          have o0 : y_3.cell? ⟨bb, 0, none⟩ = some (.int .i64 0) := by rw [Lib.cell_of_heap hbox_3]; rfl
          have o1 : y_3.cell? ⟨bb, 1, none⟩ = some (.int .i64 0) := by rw [Lib.cell_of_heap hbox_3]; rfl
          have o2 : y_3.cell? ⟨bb, 2, none⟩ = some (.int .i64 0) := by rw [Lib.cell_of_heap hbox_3]; rfl
          have o3 : y_3.cell? ⟨bb, 3, none⟩ = some (.int .i64 0) := by rw [Lib.cell_of_heap hbox_3]; rfl
          have o4 : y_3.cell? ⟨bb, 4, none⟩ = some (.int .i64 0) := by rw [Lib.cell_of_heap hbox_3]; rfl
          have o5 : y_3.cell? ⟨bb, 5, none⟩ = some (.int .i64 0) := by rw [Lib.cell_of_heap hbox_3]; rfl
          have o6 : y_3.cell? ⟨bb, 6, none⟩ = some (.int .i64 0) := by rw [Lib.cell_of_heap hbox_3]; rfl
          have o7 : y_3.cell? ⟨bb, 7, none⟩ = some (.int .i64 0) := by rw [Lib.cell_of_heap hbox_3]; rfl
          have o8 : y_3.cell? ⟨bb, 8, none⟩ = some (.int .i64 0) := by rw [Lib.cell_of_heap hbox_3]; rfl
          have o9 : y_3.cell? ⟨bb, 9, none⟩ = some (.int .i64 0) := by rw [Lib.cell_of_heap hbox_3]; rfl
          have o10 : y_3.cell? ⟨bb, 10, none⟩ = some (.bool false) := by rw [Lib.cell_of_heap hbox_3]; rfl
          have o11 : y_3.cell? ⟨bb, 11, none⟩ = some (.int .i64 0) := by rw [Lib.cell_of_heap hbox_3]; rfl
          have fz : ∀ j, y_3.frozen? ⟨bb, j, none⟩ = false := fun j => Lib.frozen_of_heap hbox_3 j
          go_wp2_with fail
          clear o0 o1 o2 o3 o4 o5 o6 o7 o8 o9 o10 o11 fz
          obtain ⟨y_4, hy, hbox_4, hg⟩ := set12o y_3 bb zeroW8 V2 hbox_3
          try rw [hy]
          have hb_4 := below_grown hb_3 hg (fun k e => by injection e with e; omega) hb_3.size
          replace hO := hO.kept hg (.inr (own_type hO hbox_3 (by decide)))
          clear hy hg
          refine ⟨rfl, hb_4, ?_⟩
          refine ⟨_, rfl, ?_⟩
          go_wp2_with fail
          refine ⟨rfl, hb_4, ?_⟩
          refine ⟨_, rfl, ?_⟩
          go_wp2_with fail
          refine ⟨rfl, hb_4, ?_⟩
          exact ⟨A9, c9, bb, (by simp only [Act.put, List.setIfInBounds_toArray, List.set_cons_succ, List.set_cons_zero]), hO, hbox_4, hbl, hb_4⟩
        · skip
          refine ⟨_, rfl, ?_⟩
          go_wp2_with fail
          have hbx := (Below.refl y_1.heap.size y_1).alloc (Nat.le_refl _) (.cells #[.int .i64 0, .int .i64 0, .int .i64 0, .int .i64 0, .int .i64 0, .int .i64 0, .int .i64 0, .int .i64 0, .int .i64 0, .int .i64 0, .bool false, .int .i64 0] 39)
          have hbox_2 := heap_alloc_new y_1 (.cells #[.int .i64 0, .int .i64 0, .int .i64 0, .int .i64 0, .int .i64 0, .int .i64 0, .int .i64 0, .int .i64 0, .int .i64 0, .int .i64 0, .bool false, .int .i64 0] 39)
          generalize y_1.alloc (.cells #[.int .i64 0, .int .i64 0, .int .i64 0, .int .i64 0, .int .i64 0, .int .i64 0, .int .i64 0, .int .i64 0, .int .i64 0, .int .i64 0, .bool false, .int .i64 0] 39) = y_2 at *
          have hb_2 := Qt.more hb_1 hb_1.size hbx
          have hbl := hb_1.size
          obtain ⟨bb, hbb⟩ : ∃ bb, bb = y_1.heap.size := ⟨_, rfl⟩
          rw [← hbb] at hbl hbox_2 ⊢
          replace hO := own_next hO hbx
          clear hbx hbb
          refine ⟨rfl, hb_2, ?_⟩
          refine ⟨_, rfl, ?_⟩
          go_wp2_with fail
          refine (hal2 y_2 v0.heap.size _ _ (by have := hb_2.size; omega) hO).mono ?_
          rintro e y_3 ⟨A9, c9, rfl, hO9, hbx⟩
          clear hO
          have hO := hO9
          clear hO9
          go_wp2_with fail
          have hb_3 := Qt.more hb_2 hb_2.size hbx
          have hbox_3 := (hbx.block _ (lt_heap6' hbox_2)).trans hbox_2
          clear hbx
          refine ⟨rfl, hb_3, ?_⟩
          refine ⟨_, _, .tuple #[.slice A9 M1.length c9, w8V V2, .int .i64 q2, .bool true], rfl, rfl, ⟨rfl, fun W hW => by first | exact ⟨rfl, rfl⟩ | (simp only [Act.eval, execOp]; go_simp; try exact ⟨rfl, rfl⟩)⟩, ?_⟩
          simp only [Act.put, List.getElem_toArray, List.getElem_cons_zero, List.getElem_cons_succ, List.setIfInBounds_toArray, List.set_cons_succ, List.set_cons_zero]
          refine ⟨_, _, .slice A9 M1.length c9, rfl, rfl, ⟨rfl, fun W hW => by first | exact ⟨rfl, rfl⟩ | (simp only [Act.eval, execOp]; go_simp; try exact ⟨rfl, rfl⟩)⟩, ?_⟩
          simp only [Act.put, List.getElem_toArray, List.getElem_cons_zero, List.getElem_cons_succ, List.setIfInBounds_toArray, List.set_cons_succ, List.set_cons_zero]
          refine ⟨_, _, w8V V2, rfl, rfl, ⟨rfl, fun W hW => by first | exact ⟨rfl, rfl⟩ | (simp only [Act.eval, execOp]; go_simp; try exact ⟨rfl, rfl⟩)⟩, ?_⟩
          simp only [Act.put, List.getElem_toArray, List.getElem_cons_zero, List.getElem_cons_succ, List.setIfInBounds_toArray, List.set_cons_succ, List.set_cons_zero]
          refine ⟨_, _, .int .i64 q2, rfl, rfl, ⟨rfl, fun W hW => by first | exact ⟨rfl, rfl⟩ | (simp only [Act.eval, execOp]; go_simp; try exact ⟨rfl, rfl⟩)⟩, ?_⟩
          simp only [Act.put, List.getElem_toArray, List.getElem_cons_zero, List.getElem_cons_succ, List.setIfInBounds_toArray, List.set_cons_succ, List.set_cons_zero]
          refine ⟨_, _, .bool true, rfl, rfl, ⟨rfl, fun W hW => by first | exact ⟨rfl, rfl⟩ | (simp only [Act.eval, execOp]; go_simp; try exact ⟨rfl, rfl⟩)⟩, ?_⟩
          simp only [Act.put, List.getElem_toArray, List.getElem_cons_zero, List.getElem_cons_succ, List.setIfInBounds_toArray, List.set_cons_succ, List.set_cons_zero]
          refine ⟨_, rfl, ?_⟩
          go_wp2_with fail
          refine ⟨rfl, hb_3, ?_⟩
          refine ⟨_, rfl, ?_⟩
          have o0 : y_3.cell? ⟨bb, 0, none⟩ = some (.int .i64 0) := by rw [Lib.cell_of_heap hbox_3]; rfl
          have o1 : y_3.cell? ⟨bb, 1, none⟩ = some (.int .i64 0) := by rw [Lib.cell_of_heap hbox_3]; rfl
          have o2 : y_3.cell? ⟨bb, 2, none⟩ = some (.int .i64 0) := by rw [Lib.cell_of_heap hbox_3]; rfl
          have o3 : y_3.cell? ⟨bb, 3, none⟩ = some (.int .i64 0) := by rw [Lib.cell_of_heap hbox_3]; rfl
          have o4 : y_3.cell? ⟨bb, 4, none⟩ = some (.int .i64 0) := by rw [Lib.cell_of_heap hbox_3]; rfl
          have o5 : y_3.cell? ⟨bb, 5, none⟩ = some (.int .i64 0) := by rw [Lib.cell_of_heap hbox_3]; rfl
          have o6 : y_3.cell? ⟨bb, 6, none⟩ = some (.int .i64 0) := by rw [Lib.cell_of_heap hbox_3]; rfl
          have o7 : y_3.cell? ⟨bb, 7, none⟩ = some (.int .i64 0) := by rw [Lib.cell_of_heap hbox_3]; rfl
          have o8 : y_3.cell? ⟨bb, 8, none⟩ = some (.int .i64 0) := by rw [Lib.cell_of_heap hbox_3]; rfl
          have o9 : y_3.cell? ⟨bb, 9, none⟩ = some (.int .i64 0) := by rw [Lib.cell_of_heap hbox_3]; rfl
          have o10 : y_3.cell? ⟨bb, 10, none⟩ = some (.bool false) := by rw [Lib.cell_of_heap hbox_3]; rfl
          have o11 : y_3.cell? ⟨bb, 11, none⟩ = some (.int .i64 0) := by rw [Lib.cell_of_heap hbox_3]; rfl
          have fz : ∀ j, y_3.frozen? ⟨bb, j, none⟩ = false := fun j => Lib.frozen_of_heap hbox_3 j
          go_wp2_with fail
          clear o0 o1 o2 o3 o4 o5 o6 o7 o8 o9 o10 o11 fz
          obtain ⟨y_4, hy, hbox_4, hg⟩ := set12o y_3 bb zeroW8 V2 hbox_3
          try rw [hy]
          have hb_4 := below_grown hb_3 hg (fun k e => by injection e with e; omega) hb_3.size
          replace hO := hO.kept hg (.inr (own_type hO hbox_3 (by decide)))
          clear hy hg
          refine ⟨rfl, hb_4, ?_⟩
          refine ⟨_, rfl, ?_⟩
          go_wp2_with fail
          refine ⟨rfl, hb_4, ?_⟩
          refine ⟨_, rfl, ?_⟩
          go_wp2_with fail
          refine ⟨rfl, hb_4, ?_⟩
          exact ⟨A9, c9, bb, (by simp only [Act.put, List.setIfInBounds_toArray, List.set_cons_succ, List.set_cons_zero]), hO, hbox_4, hbl, hb_4⟩
      · skip
        refine ⟨_, rfl, ?_⟩
        go_wp2_with fail
        have hbx := (Below.refl y_0.heap.size y_0).alloc (Nat.le_refl _) (.cells #[.int .i64 0, .int .i64 0, .int .i64 0, .int .i64 0, .int .i64 0, .int .i64 0, .int .i64 0, .int .i64 0, .int .i64 0, .int .i64 0, .bool false, .int .i64 0] 39)
        have hbox_1 := heap_alloc_new y_0 (.cells #[.int .i64 0, .int .i64 0, .int .i64 0, .int .i64 0, .int .i64 0, .int .i64 0, .int .i64 0, .int .i64 0, .int .i64 0, .int .i64 0, .bool false, .int .i64 0] 39)
        generalize y_0.alloc (.cells #[.int .i64 0, .int .i64 0, .int .i64 0, .int .i64 0, .int .i64 0, .int .i64 0, .int .i64 0, .int .i64 0, .int .i64 0, .int .i64 0, .bool false, .int .i64 0] 39) = y_1 at *
        have hb_1 := Qt.more hb_0 hb_0.size hbx
        have hbl := hb_0.size
        obtain ⟨bb, hbb⟩ : ∃ bb, bb = y_0.heap.size := ⟨_, rfl⟩
        rw [← hbb] at hbl hbox_1 ⊢
        replace hO := own_next hO hbx
        clear hbx hbb
        refine ⟨rfl, hb_1, ?_⟩
        refine ⟨_, rfl, ?_⟩
        go_wp2_with fail
        refine (hint1 y_1).mono ?_
        rintro e y_2 ⟨rfl, hbx⟩
        replace hO := own_next hO hbx
        go_wp2_with fail
        have hb_2 := Qt.more hb_1 hb_1.size hbx
        have hbox_2 := (hbx.block _ (lt_heap6' hbox_1)).trans hbox_1
        clear hbx
        refine ⟨rfl, hb_2, ?_⟩
        refine ⟨_, rfl, ?_⟩
        go_wp2_with fail
        refine (hal2 y_2 v0.heap.size _ _ (by have := hb_2.size; omega) hO).mono ?_
        rintro e y_3 ⟨A9, c9, rfl, hO9, hbx⟩
        clear hO
        have hO := hO9
        clear hO9
        go_wp2_with fail
        have hb_3 := Qt.more hb_2 hb_2.size hbx
        have hbox_3 := (hbx.block _ (lt_heap6' hbox_2)).trans hbox_2
        clear hbx
        refine ⟨rfl, hb_3, ?_⟩
        refine ⟨_, _, .tuple #[.slice A9 M1.length c9, w8V V2, .int .i64 q2, .bool true], rfl, rfl, ⟨rfl, fun W hW => by first | exact ⟨rfl, rfl⟩ | (simp only [Act.eval, execOp]; go_simp; try exact ⟨rfl, rfl⟩)⟩, ?_⟩
        simp only [Act.put, List.getElem_toArray, List.getElem_cons_zero, List.getElem_cons_succ, List.setIfInBounds_toArray, List.set_cons_succ, List.set_cons_zero]
        refine ⟨_, _, .slice A9 M1.length c9, rfl, rfl, ⟨rfl, fun W hW => by first | exact ⟨rfl, rfl⟩ | (simp only [Act.eval, execOp]; go_simp; try exact ⟨rfl, rfl⟩)⟩, ?_⟩
        simp only [Act.put, List.getElem_toArray, List.getElem_cons_zero, List.getElem_cons_succ, List.setIfInBounds_toArray, List.set_cons_succ, List.set_cons_zero]
        refine ⟨_, _, w8V V2, rfl, rfl, ⟨rfl, fun W hW => by first | exact ⟨rfl, rfl⟩ | (simp only [Act.eval, execOp]; go_simp; try exact ⟨rfl, rfl⟩)⟩, ?_⟩
        simp only [Act.put, List.getElem_toArray, List.getElem_cons_zero, List.getElem_cons_succ, List.setIfInBounds_toArray, List.set_cons_succ, List.set_cons_zero]
        refine ⟨_, _, .int .i64 q2, rfl, rfl, ⟨rfl, fun W hW => by first | exact ⟨rfl, rfl⟩ | (simp only [Act.eval, execOp]; go_simp; try exact ⟨rfl, rfl⟩)⟩, ?_⟩
        simp only [Act.put, List.getElem_toArray, List.getElem_cons_zero, List.getElem_cons_succ, List.setIfInBounds_toArray, List.set_cons_succ, List.set_cons_zero]
        refine ⟨_, _, .bool true, rfl, rfl, ⟨rfl, fun W hW => by first | exact ⟨rfl, rfl⟩ | (simp only [Act.eval, execOp]; go_simp; try exact ⟨rfl, rfl⟩)⟩, ?_⟩
        simp only [Act.put, List.getElem_toArray, List.getElem_cons_zero, List.getElem_cons_succ, List.setIfInBounds_toArray, List.set_cons_succ, List.set_cons_zero]
        refine ⟨_, rfl, ?_⟩
        go_wp2_with fail
        refine ⟨rfl, hb_3, ?_⟩
        refine ⟨_, rfl, ?_⟩
        have o0 : y_3.cell? ⟨bb, 0, none⟩ = some (.int .i64 0) := by rw [Lib.cell_of_heap hbox_3]; rfl
        have o1 : y_3.cell? ⟨bb, 1, none⟩ = some (.int .i64 0) := by rw [Lib.cell_of_heap hbox_3]; rfl
        have o2 : y_3.cell? ⟨bb, 2, none⟩ = some (.int .i64 0) := by rw [Lib.cell_of_heap hbox_3]; rfl
        have o3 : y_3.cell? ⟨bb, 3, none⟩ = some (.int .i64 0) := by rw [Lib.cell_of_heap hbox_3]; rfl
        have o4 : y_3.cell? ⟨bb, 4, none⟩ = some (.int .i64 0) := by rw [Lib.cell_of_heap hbox_3]; rfl
        have o5 : y_3.cell? ⟨bb, 5, none⟩ = some (.int .i64 0) := by rw [Lib.cell_of_heap hbox_3]; rfl
        have o6 : y_3.cell? ⟨bb, 6, none⟩ = some (.int .i64 0) := by rw [Lib.cell_of_heap hbox_3]; rfl
        have o7 : y_3.cell? ⟨bb, 7, none⟩ = some (.int .i64 0) := by rw [Lib.cell_of_heap hbox_3]; rfl
        have o8 : y_3.cell? ⟨bb, 8, none⟩ = some (.int .i64 0) := by rw [Lib.cell_of_heap hbox_3]; rfl
        have o9 : y_3.cell? ⟨bb, 9, none⟩ = some (.int .i64 0) := by rw [Lib.cell_of_heap hbox_3]; rfl
        have o10 : y_3.cell? ⟨bb, 10, none⟩ = some (.bool false) := by rw [Lib.cell_of_heap hbox_3]; rfl
        have o11 : y_3.cell? ⟨bb, 11, none⟩ = some (.int .i64 0) := by rw [Lib.cell_of_heap hbox_3]; rfl
        have fz : ∀ j, y_3.frozen? ⟨bb, j, none⟩ = false := fun j => Lib.frozen_of_heap hbox_3 j
        go_wp2_with fail
        clear o0 o1 o2 o3 o4 o5 o6 o7 o8 o9 o10 o11 fz
        obtain ⟨y_4, hy, hbox_4, hg⟩ := set12o y_3 bb zeroW8 V2 hbox_3
        try rw [hy]
        have hb_4 := below_grown hb_3 hg (fun k e => by injection e with e; omega) hb_3.size
        replace hO := hO.kept hg (.inr (own_type hO hbox_3 (by decide)))
        clear hy hg
        refine ⟨rfl, hb_4, ?_⟩
        refine ⟨_, rfl, ?_⟩
        go_wp2_with fail
        refine ⟨rfl, hb_4, ?_⟩
        refine ⟨_, rfl, ?_⟩
        go_wp2_with fail
        refine ⟨rfl, hb_4, ?_⟩
        exact ⟨A9, c9, bb, (by simp only [Act.put, List.setIfInBounds_toArray, List.set_cons_succ, List.set_cons_zero]), hO, hbox_4, hbl, hb_4⟩
    · rintro a' v2 ⟨A2, c2, b2, rfl, hO2, hx2, hl2, hb2⟩
      simp only [Act.put, List.setIfInBounds_toArray, List.set_cons_succ, List.set_cons_zero]
      clear L0 L1
      have hT2 := (hb2.block _ (lt_heap6' T1.out)).trans T1.out
      have hs2 := hb2.size
      have B2 := Lib.hid (B1.out.trans (hb2.mono B1.out.size))
      have X2 := Lib.hid (And.intro ((hb2.block _ (lt_heap6' X1.out)).trans X1.out) hx2)
      clear hx2 hb2 X1 B1 T1 hO1 hal2
      go_wp2_with fail
      have L0 := fun (W : World) (hW : Below v2.heap.size v2 W) => (hW.cell (p := ⟨w.heap.size, 0, none⟩) (lt_heap6' hT2)).trans (show v2.cell? ⟨w.heap.size, 0, none⟩ = some (.int .i64 2) by rw [Lib.cell_of_heap hT2]; rfl)
      have L1 := fun (W : World) (hW : Below v2.heap.size v2 W) => (hW.cell (p := ⟨w.heap.size, 1, none⟩) (lt_heap6' hT2)).trans (show v2.cell? ⟨w.heap.size, 1, none⟩ = some (.int .i64 1) by rw [Lib.cell_of_heap hT2]; rfl)
      have T2 := Lib.hid hT2
      clear hT2
      refine region_calm_to (fun W => Below v2.heap.size v2 W) (RgC M1 U2 V3 q3 A2 c2 v0 v2)
        (.calm 0 (.calm 1 (.calm 2 (.two 3 10 (.two 4 10 (.calm 5 (.calm 6 (.calm 7 (.calm 8 (.calm 9 (.only 10 (.only 11 (.only 12 (.only 13 (.only 14 .done)))))))))) (.only 4 (.calm 5 (.calm 6 (.calm 7 (.calm 8 (.calm 9 (.only 11 (.only 12 (.only 13 (.only 14 .done))))))))))) (.only 3 (.only 4 (.calm 5 (.calm 6 (.calm 7 (.calm 8 (.calm 9 (.only 11 (.only 12 (.only 13 (.only 14 .done))))))))))))))) (by kernel_rfl) (by kernel_rfl) (by kernel_rfl) (by rfl) (below_drewW _) ?_ ?_
      · skip
        refine ⟨_, _, .agg #[.int .i64 2, .int .i64 1], rfl, rfl, ⟨rfl, fun W hW => by first | exact ⟨rfl, rfl⟩ | (have l0 := L0 W hW; have l1 := L1 W hW; simp only [Act.eval, execOp]; go_simp; try exact ⟨rfl, rfl⟩)⟩, ?_⟩
        simp only [Act.put, List.getElem_toArray, List.getElem_cons_zero, List.getElem_cons_succ, List.setIfInBounds_toArray, List.set_cons_succ, List.set_cons_zero]
        refine ⟨_, _, .slice A2 M1.length c2, rfl, rfl, ⟨rfl, fun W hW => by first | exact ⟨rfl, rfl⟩ | (simp only [Act.eval, execOp]; go_simp; try exact ⟨rfl, rfl⟩)⟩, ?_⟩
        simp only [Act.put, List.getElem_toArray, List.getElem_cons_zero, List.getElem_cons_succ, List.setIfInBounds_toArray, List.set_cons_succ, List.set_cons_zero]
        refine ⟨_, _, .agg #[.int .i64 0, .int .i64 0, .int .i64 1, .int .i64 1], rfl, rfl, ⟨rfl, fun W hW => by first | exact ⟨rfl, rfl⟩ | (simp only [Act.eval, execOp]; go_simp; try exact ⟨rfl, rfl⟩)⟩, ?_⟩
        simp only [Act.put, List.getElem_toArray, List.getElem_cons_zero, List.getElem_cons_succ, List.setIfInBounds_toArray, List.set_cons_succ, List.set_cons_zero]
        have hb_0 := below_drewW v2
        generalize v2.drew = y_0 at *
        have hO := own_next hO2 hb_0
        refine ⟨?_, ?_⟩
        · skip
          refine ⟨_, rfl, ?_⟩
          go_wp2_with fail
          refine (hint2 y_0).mono ?_
          rintro e y_1 ⟨rfl, hbx⟩
          replace hO := own_next hO hbx
          go_wp2_with fail
          have hb_1 := Qt.more hb_0 hb_0.size hbx
          clear hbx
          refine ⟨rfl, hb_1, ?_⟩
          refine ⟨?_, ?_⟩
          · skip
            refine ⟨_, rfl, ?_⟩
            go_wp2_with fail
            refine (hal3 y_1 v0.heap.size _ _ (by have := hb_1.size; omega) hO).mono ?_
            rintro e y_2 ⟨A9, c9, rfl, hO9, hbx⟩
            clear hO
            have hO := hO9
            clear hO9
            go_wp2_with fail
            have hb_2 := Qt.more hb_1 hb_1.size hbx
            clear hbx
            refine ⟨rfl, hb_2, ?_⟩
            refine ⟨_, _, .tuple #[.slice A9 M1.length c9, w8V V3, .int .i64 q3, .bool true], rfl, rfl, ⟨rfl, fun W hW => by first | exact ⟨rfl, rfl⟩ | (simp only [Act.eval, execOp]; go_simp; try exact ⟨rfl, rfl⟩)⟩, ?_⟩
            simp only [Act.put, List.getElem_toArray, List.getElem_cons_zero, List.getElem_cons_succ, List.setIfInBounds_toArray, List.set_cons_succ, List.set_cons_zero]
            refine ⟨_, _, .slice A9 M1.length c9, rfl, rfl, ⟨rfl, fun W hW => by first | exact ⟨rfl, rfl⟩ | (simp only [Act.eval, execOp]; go_simp; try exact ⟨rfl, rfl⟩)⟩, ?_⟩
            simp only [Act.put, List.getElem_toArray, List.getElem_cons_zero, List.getElem_cons_succ, List.setIfInBounds_toArray, List.set_cons_succ, List.set_cons_zero]
            refine ⟨_, _, w8V V3, rfl, rfl, ⟨rfl, fun W hW => by first | exact ⟨rfl, rfl⟩ | (simp only [Act.eval, execOp]; go_simp; try exact ⟨rfl, rfl⟩)⟩, ?_⟩
            simp only [Act.put, List.getElem_toArray, List.getElem_cons_zero, List.getElem_cons_succ, List.setIfInBounds_toArray, List.set_cons_succ, List.set_cons_zero]
            refine ⟨_, _, .int .i64 q3, rfl, rfl, ⟨rfl, fun W hW => by first | exact ⟨rfl, rfl⟩ | (simp only [Act.eval, execOp]; go_simp; try exact ⟨rfl, rfl⟩)⟩, ?_⟩
            simp only [Act.put, List.getElem_toArray, List.getElem_cons_zero, List.getElem_cons_succ, List.setIfInBounds_toArray, List.set_cons_succ, List.set_cons_zero]
            refine ⟨_, _, .bool true, rfl, rfl, ⟨rfl, fun W hW => by first | exact ⟨rfl, rfl⟩ | (simp only [Act.eval, execOp]; go_simp; try exact ⟨rfl, rfl⟩)⟩, ?_⟩
            simp only [Act.put, List.getElem_toArray, List.getElem_cons_zero, List.getElem_cons_succ, List.setIfInBounds_toArray, List.set_cons_succ, List.set_cons_zero]
            refine ⟨_, rfl, ?_⟩
            go_wp2_with fail
            have hbx := (Below.refl y_2.heap.size y_2).alloc (Nat.le_refl _) (.cells #[.int .i64 0, .int .i64 0, .int .i64 0, .int .i64 0, .int .i64 0, .int .i64 0, .int .i64 0, .int .i64 0, .int .i64 0, .int .i64 0, .bool false, .int .i64 0] 39)
            have hbox_3 := heap_alloc_new y_2 (.cells #[.int .i64 0, .int .i64 0, .int .i64 0, .int .i64 0, .int .i64 0, .int .i64 0, .int .i64 0, .int .i64 0, .int .i64 0, .int .i64 0, .bool false, .int .i64 0] 39)
            generalize y_2.alloc (.cells #[.int .i64 0, .int .i64 0, .int .i64 0, .int .i64 0, .int .i64 0, .int .i64 0, .int .i64 0, .int .i64 0, .int .i64 0, .int .i64 0, .bool false, .int .i64 0] 39) = y_3 at *
            have hb_3 := Qt.more hb_2 hb_2.size hbx
            have hbl := hb_2.size
            obtain ⟨bb, hbb⟩ : ∃ bb, bb = y_2.heap.size := ⟨_, rfl⟩
            rw [← hbb] at hbl hbox_3 ⊢
            replace hO := own_next hO hbx
            clear hbx hbb
            refine ⟨rfl, hb_3, ?_⟩
            refine ⟨_, rfl, ?_⟩
            go_wp2_with fail
            refine ⟨rfl, hb_3, ?_⟩
            refine ⟨_, rfl, ?_⟩
            have o0 : y_3.cell? ⟨bb, 0, none⟩ = some (.int .i64 0) := by rw [Lib.cell_of_heap hbox_3]; rfl
            have o1 : y_3.cell? ⟨bb, 1, none⟩ = some (.int .i64 0) := by rw [Lib.cell_of_heap hbox_3]; rfl
            have o2 : y_3.cell? ⟨bb, 2, none⟩ = some (.int .i64 0) := by rw [Lib.cell_of_heap hbox_3]; rfl
            have o3 : y_3.cell? ⟨bb, 3, none⟩ = some (.int .i64 0) := by rw [Lib.cell_of_heap hbox_3]; rfl
            have o4 : y_3.cell? ⟨bb, 4, none⟩ = some (.int .i64 0) := by rw [Lib.cell_of_heap hbox_3]; rfl
            have o5 : y_3.cell? ⟨bb, 5, none⟩ = some (.int .i64 0) := by rw [Lib.cell_of_heap hbox_3]; rfl
            have o6 : y_3.cell? ⟨bb, 6, none⟩ = some (.int .i64 0) := by rw [Lib.cell_of_heap hbox_3]; rfl
            have o7 : y_3.cell? ⟨bb, 7, none⟩ = some (.int .i64 0) := by rw [Lib.cell_of_heap hbox_3]; rfl
            have o8 : y_3.cell? ⟨bb, 8, none⟩ = some (.int .i64 0) := by rw [Lib.cell_of_heap hbox_3]; rfl
            have o9 : y_3.cell? ⟨bb, 9, none⟩ = some (.int .i64 0) := by rw [Lib.cell_of_heap hbox_3]; rfl
            have o10 : y_3.cell? ⟨bb, 10, none⟩ = some (.bool false) := by rw [Lib.cell_of_heap hbox_3]; rfl
            have o11 : y_3.cell? ⟨bb, 11, none⟩ = some (.int .i64 0) := by rw [Lib.cell_of_heap hbox_3]; rfl
            have fz : ∀ j, y_3.frozen? ⟨bb, j, none⟩ = false := fun j => Lib.frozen_of_heap hbox_3 j
            go_wp2_with fail
            clear o0 o1 o2 o3 o4 o5 o6 o7 o8 o9 o10 o11 fz
            obtain ⟨y_4, hy, hbox_4, hg⟩ := set12o y_3 bb zeroW8 V3 hbox_3
            try rw [hy]
            have hb_4 := below_grown hb_3 hg (fun k e => by injection e with e; omega) hb_3.size
            replace hO := hO.kept hg (.inr (own_type hO hbox_3 (by decide)))
            clear hy hg
            refine ⟨rfl, hb_4, ?_⟩
            refine ⟨_, rfl, ?_⟩
            go_wp2_with fail
            refine ⟨rfl, hb_4, ?_⟩
            refine ⟨_, rfl, ?_⟩
            go_wp2_with fail
            refine ⟨rfl, hb_4, ?_⟩
            exact ⟨A9, c9, bb, (by simp only [Act.put, List.setIfInBounds_toArray, List.set_cons_succ, List.set_cons_zero]), hO, hbox_4, hbl, hb_4⟩
          · skip
            refine ⟨_, rfl, ?_⟩
            go_wp2_with fail
            have hbx := (Below.refl y_1.heap.size y_1).alloc (Nat.le_refl _) (.cells #[.int .i64 0, .int .i64 0, .int .i64 0, .int .i64 0, .int .i64 0, .int .i64 0, .int .i64 0, .int .i64 0, .int .i64 0, .int .i64 0, .bool false, .int .i64 0] 39)
            have hbox_2 := heap_alloc_new y_1 (.cells #[.int .i64 0, .int .i64 0, .int .i64 0, .int .i64 0, .int .i64 0, .int .i64 0, .int .i64 0, .int .i64 0, .int .i64 0, .int .i64 0, .bool false, .int .i64 0] 39)
            generalize y_1.alloc (.cells #[.int .i64 0, .int .i64 0, .int .i64 0, .int .i64 0, .int .i64 0, .int .i64 0, .int .i64 0, .int .i64 0, .int .i64 0, .int .i64 0, .bool false, .int .i64 0] 39) = y_2 at *
            have hb_2 := Qt.more hb_1 hb_1.size hbx
            have hbl := hb_1.size
            obtain ⟨bb, hbb⟩ : ∃ bb, bb = y_1.heap.size := ⟨_, rfl⟩
            rw [← hbb] at hbl hbox_2 ⊢
            replace hO := own_next hO hbx
            clear hbx hbb
            refine ⟨rfl, hb_2, ?_⟩
            refine ⟨_, rfl, ?_⟩
            go_wp2_with fail
            refine (hal3 y_2 v0.heap.size _ _ (by have := hb_2.size; omega) hO).mono ?_
            rintro e y_3 ⟨A9, c9, rfl, hO9, hbx⟩
            clear hO
            have hO := hO9
            clear hO9
            go_wp2_with fail
            have hb_3 := Qt.more hb_2 hb_2.size hbx
            have hbox_3 := (hbx.block _ (lt_heap6' hbox_2)).trans hbox_2
            clear hbx
            refine ⟨rfl, hb_3, ?_⟩
            refine ⟨_, _, .tuple #[.slice A9 M1.length c9, w8V V3, .int .i64 q3, .bool true], rfl, rfl, ⟨rfl, fun W hW => by first | exact ⟨rfl, rfl⟩ | (simp only [Act.eval, execOp]; go_simp; try exact ⟨rfl, rfl⟩)⟩, ?_⟩
            simp only [Act.put, List.getElem_toArray, List.getElem_cons_zero, List.getElem_cons_succ, List.setIfInBounds_toArray, List.set_cons_succ, List.set_cons_zero]
            refine ⟨_, _, .slice A9 M1.length c9, rfl, rfl, ⟨rfl, fun W hW => by first | exact ⟨rfl, rfl⟩ | (simp only [Act.eval, execOp]; go_simp; try exact ⟨rfl, rfl⟩)⟩, ?_⟩
            simp only [Act.put, List.getElem_toArray, List.getElem_cons_zero, List.getElem_cons_succ, List.setIfInBounds_toArray, List.set_cons_succ, List.set_cons_zero]
            refine ⟨_, _, w8V V3, rfl, rfl, ⟨rfl, fun W hW => by first | exact ⟨rfl, rfl⟩ | (simp only [Act.eval, execOp]; go_simp; try exact ⟨rfl, rfl⟩)⟩, ?_⟩
            simp only [Act.put, List.getElem_toArray, List.getElem_cons_zero, List.getElem_cons_succ, List.setIfInBounds_toArray, List.set_cons_succ, List.set_cons_zero]
            refine ⟨_, _, .int .i64 q3, rfl, rfl, ⟨rfl, fun W hW => by first | exact ⟨rfl, rfl⟩ | (simp only [Act.eval, execOp]; go_simp; try exact ⟨rfl, rfl⟩)⟩, ?_⟩
            simp only [Act.put, List.getElem_toArray, List.getElem_cons_zero, List.getElem_cons_succ, List.setIfInBounds_toArray, List.set_cons_succ, List.set_cons_zero]
            refine ⟨_, _, .bool true, rfl, rfl, ⟨rfl, fun W hW => by first | exact ⟨rfl, rfl⟩ | (simp only [Act.eval, execOp]; go_simp; try exact ⟨rfl, rfl⟩)⟩, ?_⟩
            simp only [Act.put, List.getElem_toArray, List.getElem_cons_zero, List.getElem_cons_succ, List.setIfInBounds_toArray, List.set_cons_succ, List.set_cons_zero]
            refine ⟨_, rfl, ?_⟩
            go_wp2_with fail
            refine ⟨rfl, hb_3, ?_⟩
            refine ⟨_, rfl, ?_⟩
            have o0 : y_3.cell? ⟨bb, 0, none⟩ = some (.int .i64 0) := by rw [Lib.cell_of_heap hbox_3]; rfl
            have o1 : y_3.cell? ⟨bb, 1, none⟩ = some (.int .i64 0) := by rw [Lib.cell_of_heap hbox_3]; rfl
            have o2 : y_3.cell? ⟨bb, 2, none⟩ = some (.int .i64 0) := by rw [Lib.cell_of_heap hbox_3]; rfl
            have o3 : y_3.cell? ⟨bb, 3, none⟩ = some (.int .i64 0) := by rw [Lib.cell_of_heap hbox_3]; rfl
            have o4 : y_3.cell? ⟨bb, 4, none⟩ = some (.int .i64 0) := by rw [Lib.cell_of_heap hbox_3]; rfl
            have o5 : y_3.cell? ⟨bb, 5, none⟩ = some (.int .i64 0) := by rw [Lib.cell_of_heap hbox_3]; rfl
            have o6 : y_3.cell? ⟨bb, 6, none⟩ = some (.int .i64 0) := by rw [Lib.cell_of_heap hbox_3]; rfl
            have o7 : y_3.cell? ⟨bb, 7, none⟩ = some (.int .i64 0) := by rw [Lib.cell_of_heap hbox_3]; rfl
            have o8 : y_3.cell? ⟨bb, 8, none⟩ = some (.int .i64 0) := by rw [Lib.cell_of_heap hbox_3]; rfl
            have o9 : y_3.cell? ⟨bb, 9, none⟩ = some (.int .i64 0) := by rw [Lib.cell_of_heap hbox_3]; rfl
            have o10 : y_3.cell? ⟨bb, 10, none⟩ = some (.bool false) := by rw [Lib.cell_of_heap hbox_3]; rfl
            have o11 : y_3.cell? ⟨bb, 11, none⟩ = some (.int .i64 0) := by rw [Lib.cell_of_heap hbox_3]; rfl
            have fz : ∀ j, y_3.frozen? ⟨bb, j, none⟩ = false := fun j => Lib.frozen_of_heap hbox_3 j
            go_wp2_with fail
            clear o0 o1 o2 o3 o4 o5 o6 o7 o8 o9 o10 o11 fz
            obtain ⟨y_4, hy, hbox_4, hg⟩ := set12o y_3 bb zeroW8 V3 hbox_3
            try rw [hy]
            have hb_4 := below_grown hb_3 hg (fun k e => by injection e with e; omega) hb_3.size
            replace hO := hO.kept hg (.inr (own_type hO hbox_3 (by decide)))
            clear hy hg
            refine ⟨rfl, hb_4, ?_⟩
            refine ⟨_, rfl, ?_⟩
            go_wp2_with fail
            refine ⟨rfl, hb_4, ?_⟩
            refine ⟨_, rfl, ?_⟩
            go_wp2_with fail
            refine ⟨rfl, hb_4, ?_⟩
            exact ⟨A9, c9, bb, (by simp only [Act.put, List.setIfInBounds_toArray, List.set_cons_succ, List.set_cons_zero]), hO, hbox_4, hbl, hb_4⟩
        · skip
          refine ⟨_, rfl, ?_⟩
          go_wp2_with fail
          have hbx := (Below.refl y_0.heap.size y_0).alloc (Nat.le_refl _) (.cells #[.int .i64 0, .int .i64 0, .int .i64 0, .int .i64 0, .int .i64 0, .int .i64 0, .int .i64 0, .int .i64 0, .int .i64 0, .int .i64 0, .bool false, .int .i64 0] 39)
          have hbox_1 := heap_alloc_new y_0 (.cells #[.int .i64 0, .int .i64 0, .int .i64 0, .int .i64 0, .int .i64 0, .int .i64 0, .int .i64 0, .int .i64 0, .int .i64 0, .int .i64 0, .bool false, .int .i64 0] 39)
          generalize y_0.alloc (.cells #[.int .i64 0, .int .i64 0, .int .i64 0, .int .i64 0, .int .i64 0, .int .i64 0, .int .i64 0, .int .i64 0, .int .i64 0, .int .i64 0, .bool false, .int .i64 0] 39) = y_1 at *
          have hb_1 := Qt.more hb_0 hb_0.size hbx
          have hbl := hb_0.size
          obtain ⟨bb, hbb⟩ : ∃ bb, bb = y_0.heap.size := ⟨_, rfl⟩
          rw [← hbb] at hbl hbox_1 ⊢
          replace hO := own_next hO hbx
          clear hbx hbb
          refine ⟨rfl, hb_1, ?_⟩
          refine ⟨_, rfl, ?_⟩
          go_wp2_with fail
          refine (hint2 y_1).mono ?_
          rintro e y_2 ⟨rfl, hbx⟩
          replace hO := own_next hO hbx
          go_wp2_with fail
          have hb_2 := Qt.more hb_1 hb_1.size hbx
          have hbox_2 := (hbx.block _ (lt_heap6' hbox_1)).trans hbox_1
          clear hbx
          refine ⟨rfl, hb_2, ?_⟩
          refine ⟨_, rfl, ?_⟩
          go_wp2_with fail
          refine (hal3 y_2 v0.heap.size _ _ (by have := hb_2.size; omega) hO).mono ?_
          rintro e y_3 ⟨A9, c9, rfl, hO9, hbx⟩
          clear hO
          have hO := hO9
          clear hO9
          go_wp2_with fail
          have hb_3 := Qt.more hb_2 hb_2.size hbx
          have hbox_3 := (hbx.block _ (lt_heap6' hbox_2)).trans hbox_2
          clear hbx
          refine ⟨rfl, hb_3, ?_⟩
          refine ⟨_, _, .tuple #[.slice A9 M1.length c9, w8V V3, .int .i64 q3, .bool true], rfl, rfl, ⟨rfl, fun W hW => by first | exact ⟨rfl, rfl⟩ | (simp only [Act.eval, execOp]; go_simp; try exact ⟨rfl, rfl⟩)⟩, ?_⟩
          simp only [Act.put, List.getElem_toArray, List.getElem_cons_zero, List.getElem_cons_succ, List.setIfInBounds_toArray, List.set_cons_succ, List.set_cons_zero]
          refine ⟨_, _, .slice A9 M1.length c9, rfl, rfl, ⟨rfl, fun W hW => by first | exact ⟨rfl, rfl⟩ | (simp only [Act.eval, execOp]; go_simp; try exact ⟨rfl, rfl⟩)⟩, ?_⟩
          simp only [Act.put, List.getElem_toArray, List.getElem_cons_zero, List.getElem_cons_succ, List.setIfInBounds_toArray, List.set_cons_succ, List.set_cons_zero]
          refine ⟨_, _, w8V V3, rfl, rfl, ⟨rfl, fun W hW => by first | exact ⟨rfl, rfl⟩ | (simp only [Act.eval, execOp]; go_simp; try exact ⟨rfl, rfl⟩)⟩, ?_⟩
          simp only [Act.put, List.getElem_toArray, List.getElem_cons_zero, List.getElem_cons_succ, List.setIfInBounds_toArray, List.set_cons_succ, List.set_cons_zero]
          refine ⟨_, _, .int .i64 q3, rfl, rfl, ⟨rfl, fun W hW => by first | exact ⟨rfl, rfl⟩ | (simp only [Act.eval, execOp]; go_simp; try exact ⟨rfl, rfl⟩)⟩, ?_⟩
          simp only [Act.put, List.getElem_toArray, List.getElem_cons_zero, List.getElem_cons_succ, List.setIfInBounds_toArray, List.set_cons_succ, List.set_cons_zero]
          refine ⟨_, _, .bool true, rfl, rfl, ⟨rfl, fun W hW => by first | exact ⟨rfl, rfl⟩ | (simp only [Act.eval, execOp]; go_simp; try exact ⟨rfl, rfl⟩)⟩, ?_⟩
          simp only [Act.put, List.getElem_toArray, List.getElem_cons_zero, List.getElem_cons_succ, List.setIfInBounds_toArray, List.set_cons_succ, List.set_cons_zero]
          refine ⟨_, rfl, ?_⟩
          go_wp2_with fail
          refine ⟨rfl, hb_3, ?_⟩
          refine ⟨_, rfl, ?_⟩
          have o0 : y_3.cell? ⟨bb, 0, none⟩ = some (.int .i64 0) := by rw [Lib.cell_of_heap hbox_3]; rfl
          have o1 : y_3.cell? ⟨bb, 1, none⟩ = some (.int .i64 0) := by rw [Lib.cell_of_heap hbox_3]; rfl
          have o2 : y_3.cell? ⟨bb, 2, none⟩ = some (.int .i64 0) := by rw [Lib.cell_of_heap hbox_3]; rfl
          have o3 : y_3.cell? ⟨bb, 3, none⟩ = some (.int .i64 0) := by rw [Lib.cell_of_heap hbox_3]; rfl
          have o4 : y_3.cell? ⟨bb, 4, none⟩ = some (.int .i64 0) := by rw [Lib.cell_of_heap hbox_3]; rfl
          have o5 : y_3.cell? ⟨bb, 5, none⟩ = some (.int .i64 0) := by rw [Lib.cell_of_heap hbox_3]; rfl
          have o6 : y_3.cell? ⟨bb, 6, none⟩ = some (.int .i64 0) := by rw [Lib.cell_of_heap hbox_3]; rfl
          have o7 : y_3.cell? ⟨bb, 7, none⟩ = some (.int .i64 0) := by rw [Lib.cell_of_heap hbox_3]; rfl
          have o8 : y_3.cell? ⟨bb, 8, none⟩ = some (.int .i64 0) := by rw [Lib.cell_of_heap hbox_3]; rfl
          have o9 : y_3.cell? ⟨bb, 9, none⟩ = some (.int .i64 0) := by rw [Lib.cell_of_heap hbox_3]; rfl
          have o10 : y_3.cell? ⟨bb, 10, none⟩ = some (.bool false) := by rw [Lib.cell_of_heap hbox_3]; rfl
          have o11 : y_3.cell? ⟨bb, 11, none⟩ = some (.int .i64 0) := by rw [Lib.cell_of_heap hbox_3]; rfl
          have fz : ∀ j, y_3.frozen? ⟨bb, j, none⟩ = false := fun j => Lib.frozen_of_heap hbox_3 j
          go_wp2_with fail
          clear o0 o1 o2 o3 o4 o5 o6 o7 o8 o9 o10 o11 fz
          obtain ⟨y_4, hy, hbox_4, hg⟩ := set12o y_3 bb zeroW8 V3 hbox_3
          try rw [hy]
          have hb_4 := below_grown hb_3 hg (fun k e => by injection e with e; omega) hb_3.size
          replace hO := hO.kept hg (.inr (own_type hO hbox_3 (by decide)))
          clear hy hg
          refine ⟨rfl, hb_4, ?_⟩
          refine ⟨_, rfl, ?_⟩
          go_wp2_with fail
          refine ⟨rfl, hb_4, ?_⟩
          refine ⟨_, rfl, ?_⟩
          go_wp2_with fail
          refine ⟨rfl, hb_4, ?_⟩
          exact ⟨A9, c9, bb, (by simp only [Act.put, List.setIfInBounds_toArray, List.set_cons_succ, List.set_cons_zero]), hO, hbox_4, hbl, hb_4⟩
      · rintro a' v3 ⟨A3, c3, b3, rfl, hO3, hx3, hl3, hb3⟩
        simp only [Act.put, List.setIfInBounds_toArray, List.set_cons_succ, List.set_cons_zero]
        clear L0 L1
        have hT3 := (hb3.block _ (lt_heap6' T2.out)).trans T2.out
        have hs3 := hb3.size
        have B3 := Lib.hid (B2.out.trans (hb3.mono B2.out.size))
        have X3 := Lib.hid (And.intro ((hb3.block _ (lt_heap6' X2.out.1)).trans X2.out.1) (And.intro ((hb3.block _ (lt_heap6' X2.out.2)).trans X2.out.2) hx3))
        have T3 := Lib.hid hT3
        have hOb := own_next hO2 hb3
        have hq := hkd v3 v0.heap.size A2 c2 (by omega) hOb
        have HOb := Lib.hid hOb
        have e0 : v3.cell? ⟨w.heap.size, 0, none⟩ = some (.int .i64 2) := by rw [Lib.cell_of_heap hT3]; rfl
        have e1 : v3.cell? ⟨w.heap.size, 1, none⟩ = some (.int .i64 1) := by rw [Lib.cell_of_heap hT3]; rfl
        clear hx3 hb3 X2 B2 T2 hT3 hO2 hO3 hOb hal3 hkd
        go_wp2_with fail
        refine hq.mono ?_
        rintro e v3' ⟨rfl, hb3'⟩
        clear hq e0 e1
        go_wp2_with fail
        have h4 := heap_alloc_new v3' (.cells #[.int .i64 0, .int .i64 0, .int .i64 0, .int .i64 1] 53)
        have h34 := (Below.refl v3'.heap.size v3').alloc (Nat.le_refl _) (.cells #[.int .i64 0, .int .i64 0, .int .i64 0, .int .i64 1] 53)
        generalize v3'.alloc (.cells #[.int .i64 0, .int .i64 0, .int .i64 0, .int .i64 1] 53) = v4 at *
        have hb4 : Below v3.heap.size v3 v4 := hb3'.trans (h34.mono hb3'.size)
        obtain ⟨b4, hb4'⟩ : ∃ b4, b4 = v3'.heap.size := ⟨_, rfl⟩
        rw [← hb4'] at h4 ⊢
        have hT4 := (hb4.block _ (lt_heap6' T3.out)).trans T3.out
        have hs4 := hb4.size
        have B4 := Lib.hid (B3.out.trans (hb4.mono B3.out.size))
        have X4 := Lib.hid (And.intro ((hb4.block _ (lt_heap6' X3.out.1)).trans X3.out.1) (And.intro ((hb4.block _ (lt_heap6' X3.out.2.1)).trans X3.out.2.1) (And.intro ((hb4.block _ (lt_heap6' X3.out.2.2)).trans X3.out.2.2) h4)))
        have O4 := Lib.hid (own_next HOb.out hb4)
        have T4 := Lib.hid hT4
        clear h4 h34 hb3' hb4 hb4' B3 T3 X3 HOb
        have L0 := fun (W : World) (hW : Below v4.heap.size v4 W) => (hW.cell (p := ⟨w.heap.size, 0, none⟩) (lt_heap6' hT4)).trans (show v4.cell? ⟨w.heap.size, 0, none⟩ = some (.int .i64 2) by rw [Lib.cell_of_heap hT4]; rfl)
        have L1 := fun (W : World) (hW : Below v4.heap.size v4 W) => (hW.cell (p := ⟨w.heap.size, 1, none⟩) (lt_heap6' hT4)).trans (show v4.cell? ⟨w.heap.size, 1, none⟩ = some (.int .i64 1) by rw [Lib.cell_of_heap hT4]; rfl)
        clear hT4
        refine region_calm_to (fun W => Below v4.heap.size v4 W) (RgD U0 v4)
          (.calm 0 (.calm 1 (.two 2 8 (.two 3 8 (.calm 4 (.calm 5 (.calm 6 (.calm 7 (.only 8 (.only 9 (.only 10 (.only 11 .done)))))))) (.only 3 (.calm 4 (.calm 5 (.calm 6 (.calm 7 (.only 9 (.only 10 (.only 11 .done))))))))) (.only 2 (.only 3 (.calm 4 (.calm 5 (.calm 6 (.calm 7 (.only 9 (.only 10 (.only 11 .done)))))))))))) (by kernel_rfl) (by kernel_rfl) (by kernel_rfl) (by rfl) (below_drewW _) ?_ ?_
        · skip
          refine ⟨_, _, .agg #[.int .i64 2, .int .i64 1], rfl, rfl, ⟨rfl, fun W hW => by first | exact ⟨rfl, rfl⟩ | (have l0 := L0 W hW; have l1 := L1 W hW; simp only [Act.eval, execOp]; go_simp; try exact ⟨rfl, rfl⟩)⟩, ?_⟩
          simp only [Act.put, List.getElem_toArray, List.getElem_cons_zero, List.getElem_cons_succ, List.setIfInBounds_toArray, List.set_cons_succ, List.set_cons_zero]
          refine ⟨_, _, .agg #[.int .i64 0, .int .i64 0, .int .i64 0, .int .i64 0], rfl, rfl, ⟨rfl, fun W hW => by first | exact ⟨rfl, rfl⟩ | (simp only [Act.eval, execOp]; go_simp; try exact ⟨rfl, rfl⟩)⟩, ?_⟩
          simp only [Act.put, List.getElem_toArray, List.getElem_cons_zero, List.getElem_cons_succ, List.setIfInBounds_toArray, List.set_cons_succ, List.set_cons_zero]
          have hb_0 := below_drewW v4
          generalize v4.drew = y_0 at *
          refine ⟨?_, ?_⟩
          · skip
            refine ⟨_, rfl, ?_⟩
            go_wp2_with fail
            refine (hint0 y_0).mono ?_
            rintro e y_1 ⟨rfl, hbx⟩
            go_wp2_with fail
            have hb_1 := Qt.more hb_0 hb_0.size hbx
            clear hbx
            refine ⟨rfl, hb_1, ?_⟩
            refine ⟨?_, ?_⟩
            · skip
              refine ⟨_, rfl, ?_⟩
              go_wp2_with fail
              refine (hsn y_1).mono ?_
              rintro e y_2 ⟨rfl, hbx⟩
              go_wp2_with fail
              have hb_2 := Qt.more hb_1 hb_1.size hbx
              clear hbx
              refine ⟨rfl, hb_2, ?_⟩
              refine ⟨_, _, .tuple #[.slice none 0 0, w8V U0, .int .i64 1], rfl, rfl, ⟨rfl, fun W hW => by first | exact ⟨rfl, rfl⟩ | (simp only [Act.eval, execOp]; go_simp; try exact ⟨rfl, rfl⟩)⟩, ?_⟩
              simp only [Act.put, List.getElem_toArray, List.getElem_cons_zero, List.getElem_cons_succ, List.setIfInBounds_toArray, List.set_cons_succ, List.set_cons_zero]
              refine ⟨_, _, .slice none 0 0, rfl, rfl, ⟨rfl, fun W hW => by first | exact ⟨rfl, rfl⟩ | (simp only [Act.eval, execOp]; go_simp; try exact ⟨rfl, rfl⟩)⟩, ?_⟩
              simp only [Act.put, List.getElem_toArray, List.getElem_cons_zero, List.getElem_cons_succ, List.setIfInBounds_toArray, List.set_cons_succ, List.set_cons_zero]
              refine ⟨_, _, w8V U0, rfl, rfl, ⟨rfl, fun W hW => by first | exact ⟨rfl, rfl⟩ | (simp only [Act.eval, execOp]; go_simp; try exact ⟨rfl, rfl⟩)⟩, ?_⟩
              simp only [Act.put, List.getElem_toArray, List.getElem_cons_zero, List.getElem_cons_succ, List.setIfInBounds_toArray, List.set_cons_succ, List.set_cons_zero]
              refine ⟨_, _, .int .i64 1, rfl, rfl, ⟨rfl, fun W hW => by first | exact ⟨rfl, rfl⟩ | (simp only [Act.eval, execOp]; go_simp; try exact ⟨rfl, rfl⟩)⟩, ?_⟩
              simp only [Act.put, List.getElem_toArray, List.getElem_cons_zero, List.getElem_cons_succ, List.setIfInBounds_toArray, List.set_cons_succ, List.set_cons_zero]
              refine ⟨_, rfl, ?_⟩
              go_wp2_with fail
              have hbx := (Below.refl y_2.heap.size y_2).alloc (Nat.le_refl _) (.cells #[.int .i64 0, .int .i64 0, .int .i64 0, .int .i64 0, .int .i64 0, .int .i64 0, .int .i64 0, .int .i64 0, .int .i64 0, .int .i64 0, .bool false, .int .i64 0] 39)
              have hbox_3 := heap_alloc_new y_2 (.cells #[.int .i64 0, .int .i64 0, .int .i64 0, .int .i64 0, .int .i64 0, .int .i64 0, .int .i64 0, .int .i64 0, .int .i64 0, .int .i64 0, .bool false, .int .i64 0] 39)
              generalize y_2.alloc (.cells #[.int .i64 0, .int .i64 0, .int .i64 0, .int .i64 0, .int .i64 0, .int .i64 0, .int .i64 0, .int .i64 0, .int .i64 0, .int .i64 0, .bool false, .int .i64 0] 39) = y_3 at *
              have hb_3 := Qt.more hb_2 hb_2.size hbx
              have hbl := hb_2.size
              obtain ⟨bb, hbb⟩ : ∃ bb, bb = y_2.heap.size := ⟨_, rfl⟩
              rw [← hbb] at hbl hbox_3 ⊢
              clear hbx hbb
              refine ⟨rfl, hb_3, ?_⟩
              refine ⟨_, rfl, ?_⟩
              go_wp2_with fail
              refine ⟨rfl, hb_3, ?_⟩
              refine ⟨_, rfl, ?_⟩
              have o0 : y_3.cell? ⟨bb, 0, none⟩ = some (.int .i64 0) := by rw [Lib.cell_of_heap hbox_3]; rfl
              have o1 : y_3.cell? ⟨bb, 1, none⟩ = some (.int .i64 0) := by rw [Lib.cell_of_heap hbox_3]; rfl
              have o2 : y_3.cell? ⟨bb, 2, none⟩ = some (.int .i64 0) := by rw [Lib.cell_of_heap hbox_3]; rfl
              have o3 : y_3.cell? ⟨bb, 3, none⟩ = some (.int .i64 0) := by rw [Lib.cell_of_heap hbox_3]; rfl
              have o4 : y_3.cell? ⟨bb, 4, none⟩ = some (.int .i64 0) := by rw [Lib.cell_of_heap hbox_3]; rfl
              have o5 : y_3.cell? ⟨bb, 5, none⟩ = some (.int .i64 0) := by rw [Lib.cell_of_heap hbox_3]; rfl
              have o6 : y_3.cell? ⟨bb, 6, none⟩ = some (.int .i64 0) := by rw [Lib.cell_of_heap hbox_3]; rfl
              have o7 : y_3.cell? ⟨bb, 7, none⟩ = some (.int .i64 0) := by rw [Lib.cell_of_heap hbox_3]; rfl
              have o8 : y_3.cell? ⟨bb, 8, none⟩ = some (.int .i64 0) := by rw [Lib.cell_of_heap hbox_3]; rfl
              have o9 : y_3.cell? ⟨bb, 9, none⟩ = some (.int .i64 0) := by rw [Lib.cell_of_heap hbox_3]; rfl
              have o10 : y_3.cell? ⟨bb, 10, none⟩ = some (.bool false) := by rw [Lib.cell_of_heap hbox_3]; rfl
              have o11 : y_3.cell? ⟨bb, 11, none⟩ = some (.int .i64 0) := by rw [Lib.cell_of_heap hbox_3]; rfl
              have fz : ∀ j, y_3.frozen? ⟨bb, j, none⟩ = false := fun j => Lib.frozen_of_heap hbox_3 j
              go_wp2_with fail
              clear o0 o1 o2 o3 o4 o5 o6 o7 o8 o9 o10 o11 fz
              obtain ⟨y_4, hy, hbox_4, hg⟩ := set12o y_3 bb zeroW8 U0 hbox_3
              try rw [hy]
              have hb_4 := below_grown hb_3 hg (fun k e => by injection e with e; omega) hb_3.size
              clear hy hg
              refine ⟨rfl, hb_4, ?_⟩
              refine ⟨_, rfl, ?_⟩
              go_wp2_with fail
              refine ⟨rfl, hb_4, ?_⟩
              exact ⟨bb, (by simp only [Act.put, List.setIfInBounds_toArray, List.set_cons_succ, List.set_cons_zero]), trivial, hbox_4, hbl, hb_4⟩
            · skip
              refine ⟨_, rfl, ?_⟩
              go_wp2_with fail
              have hbx := (Below.refl y_1.heap.size y_1).alloc (Nat.le_refl _) (.cells #[.int .i64 0, .int .i64 0, .int .i64 0, .int .i64 0, .int .i64 0, .int .i64 0, .int .i64 0, .int .i64 0, .int .i64 0, .int .i64 0, .bool false, .int .i64 0] 39)
              have hbox_2 := heap_alloc_new y_1 (.cells #[.int .i64 0, .int .i64 0, .int .i64 0, .int .i64 0, .int .i64 0, .int .i64 0, .int .i64 0, .int .i64 0, .int .i64 0, .int .i64 0, .bool false, .int .i64 0] 39)
              generalize y_1.alloc (.cells #[.int .i64 0, .int .i64 0, .int .i64 0, .int .i64 0, .int .i64 0, .int .i64 0, .int .i64 0, .int .i64 0, .int .i64 0, .int .i64 0, .bool false, .int .i64 0] 39) = y_2 at *
              have hb_2 := Qt.more hb_1 hb_1.size hbx
              have hbl := hb_1.size
              obtain ⟨bb, hbb⟩ : ∃ bb, bb = y_1.heap.size := ⟨_, rfl⟩
              rw [← hbb] at hbl hbox_2 ⊢
              clear hbx hbb
              refine ⟨rfl, hb_2, ?_⟩
              refine ⟨_, rfl, ?_⟩
              go_wp2_with fail
              refine (hsn y_2).mono ?_
              rintro e y_3 ⟨rfl, hbx⟩
              go_wp2_with fail
              have hb_3 := Qt.more hb_2 hb_2.size hbx
              have hbox_3 := (hbx.block _ (lt_heap6' hbox_2)).trans hbox_2
              clear hbx
              refine ⟨rfl, hb_3, ?_⟩
              refine ⟨_, _, .tuple #[.slice none 0 0, w8V U0, .int .i64 1], rfl, rfl, ⟨rfl, fun W hW => by first | exact ⟨rfl, rfl⟩ | (simp only [Act.eval, execOp]; go_simp; try exact ⟨rfl, rfl⟩)⟩, ?_⟩
              simp only [Act.put, List.getElem_toArray, List.getElem_cons_zero, List.getElem_cons_succ, List.setIfInBounds_toArray, List.set_cons_succ, List.set_cons_zero]
              refine ⟨_, _, .slice none 0 0, rfl, rfl, ⟨rfl, fun W hW => by first | exact ⟨rfl, rfl⟩ | (simp only [Act.eval, execOp]; go_simp; try exact ⟨rfl, rfl⟩)⟩, ?_⟩
              simp only [Act.put, List.getElem_toArray, List.getElem_cons_zero, List.getElem_cons_succ, List.setIfInBounds_toArray, List.set_cons_succ, List.set_cons_zero]
              refine ⟨_, _, w8V U0, rfl, rfl, ⟨rfl, fun W hW => by first | exact ⟨rfl, rfl⟩ | (simp only [Act.eval, execOp]; go_simp; try exact ⟨rfl, rfl⟩)⟩, ?_⟩
              simp only [Act.put, List.getElem_toArray, List.getElem_cons_zero, List.getElem_cons_succ, List.setIfInBounds_toArray, List.set_cons_succ, List.set_cons_zero]
              refine ⟨_, _, .int .i64 1, rfl, rfl, ⟨rfl, fun W hW => by first | exact ⟨rfl, rfl⟩ | (simp only [Act.eval, execOp]; go_simp; try exact ⟨rfl, rfl⟩)⟩, ?_⟩
              simp only [Act.put, List.getElem_toArray, List.getElem_cons_zero, List.getElem_cons_succ, List.setIfInBounds_toArray, List.set_cons_succ, List.set_cons_zero]
              refine ⟨_, rfl, ?_⟩
              go_wp2_with fail
              refine ⟨rfl, hb_3, ?_⟩
              refine ⟨_, rfl, ?_⟩
              have o0 : y_3.cell? ⟨bb, 0, none⟩ = some (.int .i64 0) := by rw [Lib.cell_of_heap hbox_3]; rfl
              have o1 : y_3.cell? ⟨bb, 1, none⟩ = some (.int .i64 0) := by rw [Lib.cell_of_heap hbox_3]; rfl
              have o2 : y_3.cell? ⟨bb, 2, none⟩ = some (.int .i64 0) := by rw [Lib.cell_of_heap hbox_3]; rfl
              have o3 : y_3.cell? ⟨bb, 3, none⟩ = some (.int .i64 0) := by rw [Lib.cell_of_heap hbox_3]; rfl
              have o4 : y_3.cell? ⟨bb, 4, none⟩ = some (.int .i64 0) := by rw [Lib.cell_of_heap hbox_3]; rfl
              have o5 : y_3.cell? ⟨bb, 5, none⟩ = some (.int .i64 0) := by rw [Lib.cell_of_heap hbox_3]; rfl
              have o6 : y_3.cell? ⟨bb, 6, none⟩ = some (.int .i64 0) := by rw [Lib.cell_of_heap hbox_3]; rfl
              have o7 : y_3.cell? ⟨bb, 7, none⟩ = some (.int .i64 0) := by rw [Lib.cell_of_heap hbox_3]; rfl
              have o8 : y_3.cell? ⟨bb, 8, none⟩ = some (.int .i64 0) := by rw [Lib.cell_of_heap hbox_3]; rfl
              have o9 : y_3.cell? ⟨bb, 9, none⟩ = some (.int .i64 0) := by rw [Lib.cell_of_heap hbox_3]; rfl
              have o10 : y_3.cell? ⟨bb, 10, none⟩ = some (.bool false) := by rw [Lib.cell_of_heap hbox_3]; rfl
              have o11 : y_3.cell? ⟨bb, 11, none⟩ = some (.int .i64 0) := by rw [Lib.cell_of_heap hbox_3]; rfl
              have fz : ∀ j, y_3.frozen? ⟨bb, j, none⟩ = false := fun j => Lib.frozen_of_heap hbox_3 j
              go_wp2_with fail
              clear o0 o1 o2 o3 o4 o5 o6 o7 o8 o9 o10 o11 fz
              obtain ⟨y_4, hy, hbox_4, hg⟩ := set12o y_3 bb zeroW8 U0 hbox_3
              try rw [hy]
              have hb_4 := below_grown hb_3 hg (fun k e => by injection e with e; omega) hb_3.size
              clear hy hg
              refine ⟨rfl, hb_4, ?_⟩
              refine ⟨_, rfl, ?_⟩
              go_wp2_with fail
              refine ⟨rfl, hb_4, ?_⟩
              exact ⟨bb, (by simp only [Act.put, List.setIfInBounds_toArray, List.set_cons_succ, List.set_cons_zero]), trivial, hbox_4, hbl, hb_4⟩
          · skip
            refine ⟨_, rfl, ?_⟩
            go_wp2_with fail
            have hbx := (Below.refl y_0.heap.size y_0).alloc (Nat.le_refl _) (.cells #[.int .i64 0, .int .i64 0, .int .i64 0, .int .i64 0, .int .i64 0, .int .i64 0, .int .i64 0, .int .i64 0, .int .i64 0, .int .i64 0, .bool false, .int .i64 0] 39)
            have hbox_1 := heap_alloc_new y_0 (.cells #[.int .i64 0, .int .i64 0, .int .i64 0, .int .i64 0, .int .i64 0, .int .i64 0, .int .i64 0, .int .i64 0, .int .i64 0, .int .i64 0, .bool false, .int .i64 0] 39)
            generalize y_0.alloc (.cells #[.int .i64 0, .int .i64 0, .int .i64 0, .int .i64 0, .int .i64 0, .int .i64 0, .int .i64 0, .int .i64 0, .int .i64 0, .int .i64 0, .bool false, .int .i64 0] 39) = y_1 at *
            have hb_1 := Qt.more hb_0 hb_0.size hbx
            have hbl := hb_0.size
            obtain ⟨bb, hbb⟩ : ∃ bb, bb = y_0.heap.size := ⟨_, rfl⟩
            rw [← hbb] at hbl hbox_1 ⊢
            clear hbx hbb
            refine ⟨rfl, hb_1, ?_⟩
            refine ⟨_, rfl, ?_⟩
            go_wp2_with fail
            refine (hint0 y_1).mono ?_
            rintro e y_2 ⟨rfl, hbx⟩
            go_wp2_with fail
            have hb_2 := Qt.more hb_1 hb_1.size hbx
            have hbox_2 := (hbx.block _ (lt_heap6' hbox_1)).trans hbox_1
            clear hbx
            refine ⟨rfl, hb_2, ?_⟩
            refine ⟨_, rfl, ?_⟩
            go_wp2_with fail
            refine (hsn y_2).mono ?_
            rintro e y_3 ⟨rfl, hbx⟩
            go_wp2_with fail
            have hb_3 := Qt.more hb_2 hb_2.size hbx
            have hbox_3 := (hbx.block _ (lt_heap6' hbox_2)).trans hbox_2
            clear hbx
            refine ⟨rfl, hb_3, ?_⟩
            refine ⟨_, _, .tuple #[.slice none 0 0, w8V U0, .int .i64 1], rfl, rfl, ⟨rfl, fun W hW => by first | exact ⟨rfl, rfl⟩ | (simp only [Act.eval, execOp]; go_simp; try exact ⟨rfl, rfl⟩)⟩, ?_⟩
            simp only [Act.put, List.getElem_toArray, List.getElem_cons_zero, List.getElem_cons_succ, List.setIfInBounds_toArray, List.set_cons_succ, List.set_cons_zero]
            refine ⟨_, _, .slice none 0 0, rfl, rfl, ⟨rfl, fun W hW => by first | exact ⟨rfl, rfl⟩ | (simp only [Act.eval, execOp]; go_simp; try exact ⟨rfl, rfl⟩)⟩, ?_⟩
            simp only [Act.put, List.getElem_toArray, List.getElem_cons_zero, List.getElem_cons_succ, List.setIfInBounds_toArray, List.set_cons_succ, List.set_cons_zero]
            refine ⟨_, _, w8V U0, rfl, rfl, ⟨rfl, fun W hW => by first | exact ⟨rfl, rfl⟩ | (simp only [Act.eval, execOp]; go_simp; try exact ⟨rfl, rfl⟩)⟩, ?_⟩
            simp only [Act.put, List.getElem_toArray, List.getElem_cons_zero, List.getElem_cons_succ, List.setIfInBounds_toArray, List.set_cons_succ, List.set_cons_zero]
            refine ⟨_, _, .int .i64 1, rfl, rfl, ⟨rfl, fun W hW => by first | exact ⟨rfl, rfl⟩ | (simp only [Act.eval, execOp]; go_simp; try exact ⟨rfl, rfl⟩)⟩, ?_⟩
            simp only [Act.put, List.getElem_toArray, List.getElem_cons_zero, List.getElem_cons_succ, List.setIfInBounds_toArray, List.set_cons_succ, List.set_cons_zero]
            refine ⟨_, rfl, ?_⟩
            go_wp2_with fail
            refine ⟨rfl, hb_3, ?_⟩
            refine ⟨_, rfl, ?_⟩
            have o0 : y_3.cell? ⟨bb, 0, none⟩ = some (.int .i64 0) := by rw [Lib.cell_of_heap hbox_3]; rfl
            have o1 : y_3.cell? ⟨bb, 1, none⟩ = some (.int .i64 0) := by rw [Lib.cell_of_heap hbox_3]; rfl
            have o2 : y_3.cell? ⟨bb, 2, none⟩ = some (.int .i64 0) := by rw [Lib.cell_of_heap hbox_3]; rfl
            have o3 : y_3.cell? ⟨bb, 3, none⟩ = some (.int .i64 0) := by rw [Lib.cell_of_heap hbox_3]; rfl
            have o4 : y_3.cell? ⟨bb, 4, none⟩ = some (.int .i64 0) := by rw [Lib.cell_of_heap hbox_3]; rfl
            have o5 : y_3.cell? ⟨bb, 5, none⟩ = some (.int .i64 0) := by rw [Lib.cell_of_heap hbox_3]; rfl
            have o6 : y_3.cell? ⟨bb, 6, none⟩ = some (.int .i64 0) := by rw [Lib.cell_of_heap hbox_3]; rfl
            have o7 : y_3.cell? ⟨bb, 7, none⟩ = some (.int .i64 0) := by rw [Lib.cell_of_heap hbox_3]; rfl
            have o8 : y_3.cell? ⟨bb, 8, none⟩ = some (.int .i64 0) := by rw [Lib.cell_of_heap hbox_3]; rfl
            have o9 : y_3.cell? ⟨bb, 9, none⟩ = some (.int .i64 0) := by rw [Lib.cell_of_heap hbox_3]; rfl
            have o10 : y_3.cell? ⟨bb, 10, none⟩ = some (.bool false) := by rw [Lib.cell_of_heap hbox_3]; rfl
            have o11 : y_3.cell? ⟨bb, 11, none⟩ = some (.int .i64 0) := by rw [Lib.cell_of_heap hbox_3]; rfl
            have fz : ∀ j, y_3.frozen? ⟨bb, j, none⟩ = false := fun j => Lib.frozen_of_heap hbox_3 j
            go_wp2_with fail
            clear o0 o1 o2 o3 o4 o5 o6 o7 o8 o9 o10 o11 fz
            obtain ⟨y_4, hy, hbox_4, hg⟩ := set12o y_3 bb zeroW8 U0 hbox_3
            try rw [hy]
            have hb_4 := below_grown hb_3 hg (fun k e => by injection e with e; omega) hb_3.size
            clear hy hg
            refine ⟨rfl, hb_4, ?_⟩
            refine ⟨_, rfl, ?_⟩
            go_wp2_with fail
            refine ⟨rfl, hb_4, ?_⟩
            exact ⟨bb, (by simp only [Act.put, List.setIfInBounds_toArray, List.set_cons_succ, List.set_cons_zero]), trivial, hbox_4, hbl, hb_4⟩
        · rintro a' v5 ⟨b5, rfl, -, -, -, hb5⟩
          simp only [Act.put, List.setIfInBounds_toArray, List.set_cons_succ, List.set_cons_zero]
          clear L0 L1
          obtain ⟨X41, X42, X43, X44⟩ := X4.out
          have Y1 := (hb5.block _ (lt_heap6' X41)).trans X41
          have Y2 := (hb5.block _ (lt_heap6' X42)).trans X42
          have Y3 := (hb5.block _ (lt_heap6' X43)).trans X43
          have Y4 := (hb5.block _ (lt_heap6' X44)).trans X44
          have YT := (hb5.block _ (lt_heap6' T4.out)).trans T4.out
          have YO := own_next O4.out hb5
          have YB := Lib.hid (B4.out.trans (hb5.mono B4.out.size))
          have hs5 := hb5.size
          have f1 : v5.cell? ⟨b1, 11, none⟩ = some (.int .i64 0) := by rw [Lib.cell_of_heap Y1, ← HO.out.1]; rfl
          have f2 : v5.cell? ⟨b2, 11, none⟩ = some (.int .i64 0) := by rw [Lib.cell_of_heap Y2, ← HO.out.2.1]; rfl
          have f3 : v5.cell? ⟨b3, 11, none⟩ = some (.int .i64 (-1)) := by rw [Lib.cell_of_heap Y3, ← HO.out.2.2]; rfl
          have g0 : v5.cell? ⟨b4, 0, none⟩ = some (.int .i64 0) := by rw [Lib.cell_of_heap Y4]; rfl
          have g1 : v5.cell? ⟨b4, 1, none⟩ = some (.int .i64 0) := by rw [Lib.cell_of_heap Y4]; rfl
          have g2 : v5.cell? ⟨b4, 2, none⟩ = some (.int .i64 0) := by rw [Lib.cell_of_heap Y4]; rfl
          have g3 : v5.cell? ⟨b4, 3, none⟩ = some (.int .i64 1) := by rw [Lib.cell_of_heap Y4]; rfl
          have e0 : v5.cell? ⟨w.heap.size, 0, none⟩ = some (.int .i64 2) := by rw [Lib.cell_of_heap YT]; rfl
          have e1 : v5.cell? ⟨w.heap.size, 1, none⟩ = some (.int .i64 1) := by rw [Lib.cell_of_heap YT]; rfl
          have hn5 := hno v5 v0.heap.size A2 c2 (by omega) YO
          have HT5 := Lib.hid YT
          have heqk : ∀ W, (Op.equalIn 10000 53 (.agg #[.int .i64 0, .int .i64 0, .int .i64 0, .int .i64 1]) (.agg #[.int .i64 0, .int .i64 0, .int .i64 0, .int .i64 1])).run Try.prog W = .ok true W := fun W => by
            rw [show (10000 : Nat) = 9998 + 1 + 1 from rfl, eqK_at]; rfl
          clear Y1 Y2 Y3 Y4 YT YO X41 X42 X43 X44 hb5 X4 O4 T4 B4 hno
          go_wp2_with fail
          refine hn5.mono ?_
          rintro e v6 ⟨vn, rfl, hOn, hb6⟩
          obtain ⟨An, cn, rfl, hcn, hnn⟩ := own_slice hOn
          have e0' := Qt.keep hb6 e0
          have e1' := Qt.keep hb6 e1
          clear f1 f2 f3 g0 g1 g2 g3 e0 e1 hn5
          go_wp2_with fail
          have hlit : Now (v6.alloc (.cells #[.int .i64 0] 3)) (some ⟨v6.heap.size, 0, none⟩) [0] := fun j hj => by
            have hj1 : j = 0 := by simp at hj; omega
            subst hj1
            exact ⟨v6.heap.size, 0, rfl, by simp, by simp⟩
          have h67 := (Below.refl v6.heap.size v6).alloc (Nat.le_refl _) (.cells #[.int .i64 0] 3)
          have hii := ints_any (c := cn) (c' := 1) (n := 1) (n' := 1) (hnn.below h67) hlit rfl rfl (by decide)
          rw [decide_eq_true rfl] at hii
          have e0'' := Qt.keep h67 e0'
          have e1'' := Qt.keep h67 e1'
          have B7 := Lib.hid ((YB.out.trans (hb6.mono YB.out.size)).trans (h67.mono (Nat.le_trans YB.out.size hb6.size)))
          clear hlit hnn e0' e1' hOn hcn
          generalize v6.alloc (.cells #[.int .i64 0] 3) = v7 at *
          refine hii.mono ?_
          rintro e v8 ⟨rfl, hb8⟩
          have p0 := Qt.keep hb8 e0''
          have p1 := Qt.keep hb8 e1''
          have B8 := Lib.hid (B7.out.trans (hb8.mono B7.out.size))
          clear hii e0'' e1'' hb8 hb6 h67 YB B7
          have hr1 := fun W => pRight_any 2 1 W
          have hr2 := fun W => pRight_any 0 0 W
          rw [show rightT 2 1 = true by decide] at hr1
          rw [show rightT 0 0 = false by decide] at hr2
          go_wp2_with fail
          refine (hr1 _).mono ?_
          rintro e v9 ⟨rfl, hb9⟩
          clear p0 p1
          go_wp2_with fail
          refine (hr2 _).mono ?_
          rintro e v10 ⟨rfl, hb10⟩
          go_wp2
          go_ret
          exact ⟨rfl, (B8.out.trans (hb9.mono B8.out.size)).trans (hb10.mono (Nat.le_trans B8.out.size hb9.size))⟩
end Go.Proofs.Ytocepdhjkhhpfaa
