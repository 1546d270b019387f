/-
  alone: the words that it leaves are its own as soon as it makes a step.
-/
import Derived.Test.YtocepdhjkhhpfaaB16
namespace Go.Proofs.Ytocepdhjkhhpfaa
set_option maxRecDepth 100000
set_option linter.unusedVariables false
set_option linter.unusedSimpArgs false

open Go.RowKit Go.Sort

def bas (B : Nat) : Nat → Nat → Nat
  | 0, _ => B
  | _ + 1, s => s
set_option maxHeartbeats 16000000 in
theorem alone14_new {S N : Nat} {m m2 : List Int} {u w2 : W8} {q most B : Nat} {A : Option Addr} {c : Nat} (w : World) (hT : TabS S N) (hl : m.length = S + 5 * N + 1) (h : AloneM S N m u q m2 w2) (hd : w2.done = true) (hq : q ≤ most) (hm : most ≤ 1000000) (hB : B ≤ w.heap.size) (hO : Own w B (.slice A m.length c) m) :
    Calls Try.prog 30 #[tabV S N, .slice A m.length c, w8V u, .int .i64 most] w (AloneR (bas B q w.heap.size) m2 w2 q w) := by
  obtain ⟨t1, t2, t3, t4, t5⟩ := three_allocs w (.cells #[.int .i64 S, .int .i64 N] 50) (.cells (w8A u) 39) (.cells (w8A zeroW8) 39)
  have HT := Lib.hid (And.intro t1 (And.intro t2 (And.intro t3 (And.intro t4 t5))))
  have HI := Lib.hid (And.intro hT (And.intro hl (And.intro h (And.intro hd (And.intro hq (And.intro hm (And.intro hB hO)))))))
  have hmz : (most : Int) ≤ 1000000 := by omega
  clear t1 t2 t3 t4 t5 hT hl h hd hq hm hB hO
  go_enter Try.func30, Try.ntmps30
  go_wp2_with fail
  go_loopw [1, 12] (fun v i wr => ∃ (A' : Option Addr) (c' k p : Nat) (mm : List Int) (ww : W8), v = .slice A' mm.length c' ∧ i = .int .i64 k ∧ Hid (k + p = q ∧ mm.length = S + 5 * N + 1 ∧ AloneM S N mm ww p m2 w2 ∧ Own wr (bas B k w.heap.size) (.slice A' mm.length c') mm ∧ wr.heap[w.heap.size]? = some (.cells #[.int .i64 S, .int .i64 N] 50 (0, 0)) ∧ wr.heap[w.heap.size + 1]? = some (.cells (w8A ww) 39 (0, 0)) ∧ wr.heap[w.heap.size + 1 + 1]? = some (.cells (w8A zeroW8) 39 (0, 0)) ∧ Below w.heap.size w wr)) (fun _ i _ => q + 1 - (intOf i).toNat)
  case atStart =>
    obtain ⟨t1, t2, t3, t4, t5⟩ := HT.out
    obtain ⟨i1, i2, i3, i4, i5, i6, i7, i8⟩ := HI.out
    exact ⟨A, c, 0, q, m, u, rfl, rfl, (show Hid _ from ⟨Nat.zero_add q, i2, i3, own_next i8 t1, t3, t4, t5, t1⟩)⟩
  case round =>
    obtain ⟨A', c', k, p, mm, ⟨pc, job, r0, r1, r2, r3, r4, r5, r6, r7, dn, out⟩, rfl, rfl, HH⟩ := hrel
    obtain ⟨h1, h2, h3, h4, h5, h6, h7, h8⟩ := HH.out
    have hk : (k : Int) ≤ (most : Int) := by have := HI.out.2.2.2.2.1; omega
    have s0 : wr.cell? ⟨w.heap.size, 0, none⟩ = some (.int .i64 S) := by rw [Lib.cell_of_heap h5]; rfl
    have s1 : wr.cell? ⟨w.heap.size, 1, none⟩ = some (.int .i64 N) := by rw [Lib.cell_of_heap h5]; rfl
    have c0 : wr.cell? ⟨w.heap.size + 1, 0, none⟩ = some (.int .i64 pc) := by rw [Lib.cell_of_heap h6]; rfl
    have c1 : wr.cell? ⟨w.heap.size + 1, 1, none⟩ = some (.int .i64 job) := by rw [Lib.cell_of_heap h6]; rfl
    have c2 : wr.cell? ⟨w.heap.size + 1, 2, none⟩ = some (.int .i64 r0) := by rw [Lib.cell_of_heap h6]; rfl
    have c3 : wr.cell? ⟨w.heap.size + 1, 3, none⟩ = some (.int .i64 r1) := by rw [Lib.cell_of_heap h6]; rfl
    have c4 : wr.cell? ⟨w.heap.size + 1, 4, none⟩ = some (.int .i64 r2) := by rw [Lib.cell_of_heap h6]; rfl
    have c5 : wr.cell? ⟨w.heap.size + 1, 5, none⟩ = some (.int .i64 r3) := by rw [Lib.cell_of_heap h6]; rfl
    have c6 : wr.cell? ⟨w.heap.size + 1, 6, none⟩ = some (.int .i64 r4) := by rw [Lib.cell_of_heap h6]; rfl
    have c7 : wr.cell? ⟨w.heap.size + 1, 7, none⟩ = some (.int .i64 r5) := by rw [Lib.cell_of_heap h6]; rfl
    have c8 : wr.cell? ⟨w.heap.size + 1, 8, none⟩ = some (.int .i64 r6) := by rw [Lib.cell_of_heap h6]; rfl
    have c9 : wr.cell? ⟨w.heap.size + 1, 9, none⟩ = some (.int .i64 r7) := by rw [Lib.cell_of_heap h6]; rfl
    have c10 : wr.cell? ⟨w.heap.size + 1, 10, none⟩ = some (.bool dn) := by rw [Lib.cell_of_heap h6]; rfl
    have c11 : wr.cell? ⟨w.heap.size + 1, 11, none⟩ = some (.int .i64 out) := by rw [Lib.cell_of_heap h6]; rfl
    cases dn with
    | true =>
      obtain ⟨rfl, rfl, rfl⟩ := h3.fin rfl
      have hkq : Hid (k = q) := show k = q by omega
      have L6 := fun (W : World) (hW : wr.grownBy W (some (w.heap.size + 1 + 1))) => (hW.block (w.heap.size + 1) (lt_heap6' h6) (fun e => by injection e with e; omega)).trans h6
      have M0 := fun (W : World) (hW : wr.grownBy W (some (w.heap.size + 1 + 1))) => (show W.cell? ⟨w.heap.size + 1, 0, none⟩ = some (.int .i64 pc) by rw [Lib.cell_of_heap (L6 W hW)]; rfl)
      have M1 := fun (W : World) (hW : wr.grownBy W (some (w.heap.size + 1 + 1))) => (show W.cell? ⟨w.heap.size + 1, 1, none⟩ = some (.int .i64 job) by rw [Lib.cell_of_heap (L6 W hW)]; rfl)
      have M2 := fun (W : World) (hW : wr.grownBy W (some (w.heap.size + 1 + 1))) => (show W.cell? ⟨w.heap.size + 1, 2, none⟩ = some (.int .i64 r0) by rw [Lib.cell_of_heap (L6 W hW)]; rfl)
      have M3 := fun (W : World) (hW : wr.grownBy W (some (w.heap.size + 1 + 1))) => (show W.cell? ⟨w.heap.size + 1, 3, none⟩ = some (.int .i64 r1) by rw [Lib.cell_of_heap (L6 W hW)]; rfl)
      have M4 := fun (W : World) (hW : wr.grownBy W (some (w.heap.size + 1 + 1))) => (show W.cell? ⟨w.heap.size + 1, 4, none⟩ = some (.int .i64 r2) by rw [Lib.cell_of_heap (L6 W hW)]; rfl)
      have M5 := fun (W : World) (hW : wr.grownBy W (some (w.heap.size + 1 + 1))) => (show W.cell? ⟨w.heap.size + 1, 5, none⟩ = some (.int .i64 r3) by rw [Lib.cell_of_heap (L6 W hW)]; rfl)
      have M6 := fun (W : World) (hW : wr.grownBy W (some (w.heap.size + 1 + 1))) => (show W.cell? ⟨w.heap.size + 1, 6, none⟩ = some (.int .i64 r4) by rw [Lib.cell_of_heap (L6 W hW)]; rfl)
      have M7 := fun (W : World) (hW : wr.grownBy W (some (w.heap.size + 1 + 1))) => (show W.cell? ⟨w.heap.size + 1, 7, none⟩ = some (.int .i64 r5) by rw [Lib.cell_of_heap (L6 W hW)]; rfl)
      have M8 := fun (W : World) (hW : wr.grownBy W (some (w.heap.size + 1 + 1))) => (show W.cell? ⟨w.heap.size + 1, 8, none⟩ = some (.int .i64 r6) by rw [Lib.cell_of_heap (L6 W hW)]; rfl)
      have M9 := fun (W : World) (hW : wr.grownBy W (some (w.heap.size + 1 + 1))) => (show W.cell? ⟨w.heap.size + 1, 9, none⟩ = some (.int .i64 r7) by rw [Lib.cell_of_heap (L6 W hW)]; rfl)
      have M10 := fun (W : World) (hW : wr.grownBy W (some (w.heap.size + 1 + 1))) => (show W.cell? ⟨w.heap.size + 1, 10, none⟩ = some (.bool true) by rw [Lib.cell_of_heap (L6 W hW)]; rfl)
      have M11 := fun (W : World) (hW : wr.grownBy W (some (w.heap.size + 1 + 1))) => (show W.cell? ⟨w.heap.size + 1, 11, none⟩ = some (.int .i64 out) by rw [Lib.cell_of_heap (L6 W hW)]; rfl)
      have HX := Lib.hid (And.intro h4 (And.intro h7 h8))
      clear h1 h2 h3 h4 h5 h6 h7 h8 HH s0 s1 L6
      go_wp2_with fail
      clear c0 c1 c2 c3 c4 c5 c6 c7 c8 c9 c10 c11
      refine region_calm_to (fun W => wr.grownBy W (some (w.heap.size + 1 + 1))) (fun (a0 a9 : Act) (w9 : World) => a9 = ((((((a0.put (some 23) (.slice A' mm.length c')).put (some 24) (w8V ⟨pc, job, r0, r1, r2, r3, r4, r5, r6, r7, true, out⟩)).put (some 25) (.int .i64 k)).put (some 8) (.slice A' mm.length c')).put (some 10) (.int .i64 k)).put (some 11) (.bool true)) ∧ w9.heap[w.heap.size + 1 + 1]? = some (.cells (w8A ⟨pc, job, r0, r1, r2, r3, r4, r5, r6, r7, true, out⟩) 39 (0, 0)) ∧ Own w9 (bas B k w.heap.size) (.slice A' mm.length c') mm ∧ Below w.heap.size w w9)
        (.calm 0 (.calm 1 (.calm 2 (.only 3 (.only 4 (.only 5 (.only 6 .done))))))) (by kernel_rfl) (by kernel_rfl) (by kernel_rfl) (by rfl) ⟨rfl, rfl, rfl, Nat.le_refl _, fun _ _ _ => rfl⟩ ?_ ?_
      · skip
        refine ⟨_, _, .slice A' mm.length c', rfl, rfl, ⟨rfl, fun W hW => by first | exact ⟨rfl, rfl⟩ | (simp only [Act.eval, execOp]; go_simp; try exact ⟨rfl, rfl⟩)⟩, ?_⟩
        simp only [Act.put, List.getElem_toArray, List.getElem_cons_zero, List.getElem_cons_succ, List.setIfInBounds_toArray, List.set_cons_succ, List.set_cons_zero]
        refine ⟨_, _, w8V ⟨pc, job, r0, r1, r2, r3, r4, r5, r6, r7, true, out⟩, rfl, rfl, ⟨rfl, fun W hW => by first | exact ⟨rfl, rfl⟩ | (have m0 := M0 W hW; have m1 := M1 W hW; have m2 := M2 W hW; have m3 := M3 W hW; have m4 := M4 W hW; have m5 := M5 W hW; have m6 := M6 W hW; have m7 := M7 W hW; have m8 := M8 W hW; have m9 := M9 W hW; have m10 := M10 W hW; have m11 := M11 W hW; simp only [Act.eval, execOp]; go_simp; try exact ⟨rfl, rfl⟩)⟩, ?_⟩
        simp only [Act.put, List.getElem_toArray, List.getElem_cons_zero, List.getElem_cons_succ, List.setIfInBounds_toArray, List.set_cons_succ, List.set_cons_zero]
        refine ⟨_, _, .int .i64 k, rfl, rfl, ⟨rfl, fun W hW => by first | exact ⟨rfl, rfl⟩ | (simp only [Act.eval, execOp]; go_simp; try exact ⟨rfl, rfl⟩)⟩, ?_⟩
        simp only [Act.put, List.getElem_toArray, List.getElem_cons_zero, List.getElem_cons_succ, List.setIfInBounds_toArray, List.set_cons_succ, List.set_cons_zero]
        have hb0 := below_drewW wr
        have hG0 : wr.grownBy wr.drew (some (w.heap.size + 1 + 1)) := ⟨rfl, rfl, rfl, Nat.le_refl _, fun _ _ _ => rfl⟩
        clear M0 M1 M2 M3 M4 M5 M6 M7 M8 M9 M10 M11
        generalize wr.drew = x0 at *
        refine ⟨_, rfl, ?_⟩
        go_wp2_with fail
        refine ⟨rfl, hG0, ?_⟩
        refine ⟨_, rfl, ?_⟩
        obtain ⟨h4, h7, h8⟩ := HX.out
        have z0 := (hb0.block _ (lt_heap6' h7)).trans h7
        have HZ := Lib.hid z0
        have o0 : x0.cell? ⟨w.heap.size + 1 + 1, 0, none⟩ = some (.int .i64 0) := by rw [Lib.cell_of_heap z0]; rfl
        have o1 : x0.cell? ⟨w.heap.size + 1 + 1, 1, none⟩ = some (.int .i64 0) := by rw [Lib.cell_of_heap z0]; rfl
        have o2 : x0.cell? ⟨w.heap.size + 1 + 1, 2, none⟩ = some (.int .i64 0) := by rw [Lib.cell_of_heap z0]; rfl
        have o3 : x0.cell? ⟨w.heap.size + 1 + 1, 3, none⟩ = some (.int .i64 0) := by rw [Lib.cell_of_heap z0]; rfl
        have o4 : x0.cell? ⟨w.heap.size + 1 + 1, 4, none⟩ = some (.int .i64 0) := by rw [Lib.cell_of_heap z0]; rfl
        have o5 : x0.cell? ⟨w.heap.size + 1 + 1, 5, none⟩ = some (.int .i64 0) := by rw [Lib.cell_of_heap z0]; rfl
        have o6 : x0.cell? ⟨w.heap.size + 1 + 1, 6, none⟩ = some (.int .i64 0) := by rw [Lib.cell_of_heap z0]; rfl
        have o7 : x0.cell? ⟨w.heap.size + 1 + 1, 7, none⟩ = some (.int .i64 0) := by rw [Lib.cell_of_heap z0]; rfl
        have o8 : x0.cell? ⟨w.heap.size + 1 + 1, 8, none⟩ = some (.int .i64 0) := by rw [Lib.cell_of_heap z0]; rfl
        have o9 : x0.cell? ⟨w.heap.size + 1 + 1, 9, none⟩ = some (.int .i64 0) := by rw [Lib.cell_of_heap z0]; rfl
        have o10 : x0.cell? ⟨w.heap.size + 1 + 1, 10, none⟩ = some (.bool false) := by rw [Lib.cell_of_heap z0]; rfl
        have o11 : x0.cell? ⟨w.heap.size + 1 + 1, 11, none⟩ = some (.int .i64 0) := by rw [Lib.cell_of_heap z0]; rfl
        have fz : ∀ j, x0.frozen? ⟨w.heap.size + 1 + 1, j, none⟩ = false := fun j => Lib.frozen_of_heap z0 j
        have l7 := lt_heap6' h7
        have hO0 := own_next h4 hb0
        have hBB := h8.trans (hb0.mono h8.size)
        have HW := Lib.hid (And.intro hO0 (And.intro hBB (show w.heap.size + 1 + 1 < x0.heap.size from lt_heap6' z0)))
        clear h4 h7 h8 z0 l7 hO0 hBB
        go_wp2_with fail
        clear o0 o1 o2 o3 o4 o5 o6 o7 o8 o9 o10 o11 fz
        obtain ⟨x1, hx1, hr1, hg1⟩ := set12o x0 (w.heap.size + 1 + 1) zeroW8 ⟨pc, job, r0, r1, r2, r3, r4, r5, r6, r7, true, out⟩ HZ.out
        try rw [hx1]
        have hG1 := hG0.trans hg1
        obtain ⟨hO0, hBB, l0⟩ := HW.out
        obtain ⟨i1, i2, i3, i4, i5, i6, i7, i8⟩ := HI.out
        have hOx := hO0.kept hg1 (.inr (own_type hO0 HZ.out (by decide)))
        have hBx := below_grown hBB hg1 (fun k e => by injection e with e; omega) (by omega)
        refine ⟨rfl, hG1, ?_⟩
        refine ⟨_, rfl, ?_⟩
        go_wp2_with fail
        refine ⟨rfl, hG1, ?_⟩
        refine ⟨_, rfl, ?_⟩
        go_wp2_with fail
        exact ⟨rfl, hG1, rfl, hr1, hOx, hBx⟩
      · rintro a' w9 ⟨rfl, hr9, hO9, hb9⟩
        simp only [Act.put, List.setIfInBounds_toArray, List.set_cons_succ, List.set_cons_zero]
        go_wp2_with fail
        refine bodyPost_ret (results_tctt rfl _ _ (w.heap.size + 1 + 1) _ _ _ _ rfl hr9 Try.underlying39 rfl (by kernel_rfl)) rfl ?_
        exact ⟨A', c', by rw [← hkq.out]; rfl, by rw [← hkq.out]; exact hO9, hb9⟩
    | false =>
      obtain ⟨p1, m1, w1', hp1, hmay, hfit, hwd, hst, hrest⟩ := h3.head rfl HI.out.2.2.2.1
      obtain ⟨hc', hn'⟩ := own_slice' h4
      have hps := pStep_any A' c' wr ⟨HI.out.1, hfit, hmay, hwd, by rw [h2]; push_cast; rfl⟩ hst hn' hc'
      have hl1 := stepP_len hst
      have HX := Lib.hid (And.intro h1 (And.intro hp1 (And.intro hrest (And.intro (hl1.trans h2) (And.intro h6 (And.intro h5 (And.intro h7 h8)))))))
      clear h1 h2 h3 h4 h5 h6 h7 h8 HH hp1 hmay hfit hwd hst hrest hc' hn' hl1
      go_wp2_with fail
      refine hps.mono ?_
      rintro e x1 ⟨A3, cc, rfl, hc3, hO3, hb3⟩
      clear hps s0 s1 c0 c1 c2 c3 c4 c5 c6 c7 c8 c9 c10 c11
      obtain ⟨g1, g2, g3, g4, g6, g5, g7, g8⟩ := HX.out
      have y6 := (hb3.block _ (lt_heap6' g6)).trans g6
      have c0 : x1.cell? ⟨w.heap.size + 1, 0, none⟩ = some (.int .i64 pc) := by rw [Lib.cell_of_heap y6]; rfl
      have c1 : x1.cell? ⟨w.heap.size + 1, 1, none⟩ = some (.int .i64 job) := by rw [Lib.cell_of_heap y6]; rfl
      have c2 : x1.cell? ⟨w.heap.size + 1, 2, none⟩ = some (.int .i64 r0) := by rw [Lib.cell_of_heap y6]; rfl
      have c3 : x1.cell? ⟨w.heap.size + 1, 3, none⟩ = some (.int .i64 r1) := by rw [Lib.cell_of_heap y6]; rfl
      have c4 : x1.cell? ⟨w.heap.size + 1, 4, none⟩ = some (.int .i64 r2) := by rw [Lib.cell_of_heap y6]; rfl
      have c5 : x1.cell? ⟨w.heap.size + 1, 5, none⟩ = some (.int .i64 r3) := by rw [Lib.cell_of_heap y6]; rfl
      have c6 : x1.cell? ⟨w.heap.size + 1, 6, none⟩ = some (.int .i64 r4) := by rw [Lib.cell_of_heap y6]; rfl
      have c7 : x1.cell? ⟨w.heap.size + 1, 7, none⟩ = some (.int .i64 r5) := by rw [Lib.cell_of_heap y6]; rfl
      have c8 : x1.cell? ⟨w.heap.size + 1, 8, none⟩ = some (.int .i64 r6) := by rw [Lib.cell_of_heap y6]; rfl
      have c9 : x1.cell? ⟨w.heap.size + 1, 9, none⟩ = some (.int .i64 r7) := by rw [Lib.cell_of_heap y6]; rfl
      have c10 : x1.cell? ⟨w.heap.size + 1, 10, none⟩ = some (.bool false) := by rw [Lib.cell_of_heap y6]; rfl
      have c11 : x1.cell? ⟨w.heap.size + 1, 11, none⟩ = some (.int .i64 out) := by rw [Lib.cell_of_heap y6]; rfl
      have fz : ∀ j, x1.frozen? ⟨w.heap.size + 1, j, none⟩ = false := fun j => Lib.frozen_of_heap y6 j
      have hlw : w.heap.size + 1 < x1.heap.size := lt_heap6' y6
      have HY := Lib.hid (And.intro hc3 (And.intro hO3 (And.intro hb3 y6)))
      clear g1 g2 g3 g4 g6 g5 g7 g8 hc3 hO3 hb3 y6
      go_wp2_with fail
      clear c0 c1 c2 c3 c4 c5 c6 c7 c8 c9 c10 c11 fz
      obtain ⟨g1, g2, g3, g4, g6, g5, g7, g8⟩ := HX.out
      obtain ⟨hc3, hO3, hb3, y6⟩ := HY.out
      obtain ⟨x2, hx2, hr2, hg2⟩ := set12o x1 (w.heap.size + 1) _ w1' y6
      have hOx := own_mono hO3 (by have := g8.size; show w.heap.size ≤ wr.heap.size; omega : bas B (k + 1) w.heap.size ≤ wr.heap.size)
      go_roundw
      case measure => have := HI.out.2.2.2.2.1; simp [intOf]; omega
      case rel =>
        refine ⟨A3, cc, k + 1, p1, m1, w1', rfl, by go_num, (show Hid _ from ⟨by omega, g4, g3, ?_, ?_, ?_, ?_, ?_⟩)⟩
        all_goals rw [hx2]
        all_goals
          have hA := (Below.refl x2.heap.size x2).alloc (Nat.le_refl _) (.cells #[.int .i64 w1'.pc, .int .i64 w1'.job, .int .i64 w1'.r0, .int .i64 w1'.r1, .int .i64 w1'.r2, .int .i64 w1'.r3, .int .i64 w1'.r4, .int .i64 w1'.r5, .int .i64 w1'.r6, .int .i64 w1'.r7, .bool w1'.done, .int .i64 w1'.out] 39)
          have e5 := (hg2.block w.heap.size (by omega) (fun e => by injection e with e; omega)).trans ((hb3.block _ (lt_heap6' g5)).trans g5)
          have e7 := (hg2.block (w.heap.size + 1 + 1) (Nat.lt_of_lt_of_le (lt_heap6' g7) hb3.size) (fun e => by injection e with e; omega)).trans ((hb3.block _ (lt_heap6' g7)).trans g7)
          have eB := below_grown (g8.trans (hb3.mono g8.size)) hg2 (fun k e => by injection e with e; omega) (by omega)
        · exact own_next (hOx.kept hg2 (.inr (own_type hOx y6 (by decide)))) hA
        · exact (hA.block _ (lt_heap6' e5)).trans e5
        · exact (hA.block _ (lt_heap6' hr2)).trans hr2
        · exact (hA.block _ (lt_heap6' e7)).trans e7
        · exact eB.trans (hA.mono eB.size)
end Go.Proofs.Ytocepdhjkhhpfaa
