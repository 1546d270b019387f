/-
  The document's own answers to layer 12: Step (where its access is none of the errors).
-/
import Derived.Test.YtocepdhjkhhpfaaWx
import Derived.Test.YtocepdhjkhhpfaaB10
import Derived.Test.YtocepdhjkhhpfaaB05
namespace Go.Proofs.Ytocepdhjkhhpfaa
set_option maxRecDepth 100000
set_option linter.unusedVariables false
set_option linter.unusedSimpArgs false
open Go.RowKit Go.Sort

/-- a worker in a box -/
structure WkB (w : World) (b : Nat) (x : Wk) : Prop where
  row : w.heap[b]? = some (.cells (wkA x) 39 (0, 0))
theorem WkB.below {w w' : World} {b : Nat} {x : Wk} (h : WkB w b x) (hb : Below w.heap.size w w') : WkB w' b x := ⟨(hb.block b (lt_heap6' h.row)).trans h.row⟩
theorem WkB.c0 {w : World} {b : Nat} {x : Wk} (h : WkB w b x) : w.cell? ⟨b, 0, none⟩ = some (.int .i64 x.pc) := by rw [Lib.cell_of_heap h.row]; rfl
theorem WkB.c1 {w : World} {b : Nat} {x : Wk} (h : WkB w b x) : w.cell? ⟨b, 1, none⟩ = some (.int .i64 x.job) := by rw [Lib.cell_of_heap h.row]; rfl
theorem WkB.c2 {w : World} {b : Nat} {x : Wk} (h : WkB w b x) : w.cell? ⟨b, 2, none⟩ = some (.int .i64 x.r0) := by rw [Lib.cell_of_heap h.row]; rfl
theorem WkB.c3 {w : World} {b : Nat} {x : Wk} (h : WkB w b x) : w.cell? ⟨b, 3, none⟩ = some (.int .i64 x.r1) := by rw [Lib.cell_of_heap h.row]; rfl
theorem WkB.c4 {w : World} {b : Nat} {x : Wk} (h : WkB w b x) : w.cell? ⟨b, 4, none⟩ = some (.int .i64 x.r2) := by rw [Lib.cell_of_heap h.row]; rfl
theorem WkB.c5 {w : World} {b : Nat} {x : Wk} (h : WkB w b x) : w.cell? ⟨b, 5, none⟩ = some (.int .i64 0) := by rw [Lib.cell_of_heap h.row]; rfl
theorem WkB.c6 {w : World} {b : Nat} {x : Wk} (h : WkB w b x) : w.cell? ⟨b, 6, none⟩ = some (.int .i64 0) := by rw [Lib.cell_of_heap h.row]; rfl
theorem WkB.c7 {w : World} {b : Nat} {x : Wk} (h : WkB w b x) : w.cell? ⟨b, 7, none⟩ = some (.int .i64 0) := by rw [Lib.cell_of_heap h.row]; rfl
theorem WkB.c8 {w : World} {b : Nat} {x : Wk} (h : WkB w b x) : w.cell? ⟨b, 8, none⟩ = some (.int .i64 0) := by rw [Lib.cell_of_heap h.row]; rfl
theorem WkB.c9 {w : World} {b : Nat} {x : Wk} (h : WkB w b x) : w.cell? ⟨b, 9, none⟩ = some (.int .i64 0) := by rw [Lib.cell_of_heap h.row]; rfl
theorem WkB.c10 {w : World} {b : Nat} {x : Wk} (h : WkB w b x) : w.cell? ⟨b, 10, none⟩ = some (.bool x.done) := by rw [Lib.cell_of_heap h.row]; rfl
theorem WkB.c11 {w : World} {b : Nat} {x : Wk} (h : WkB w b x) : w.cell? ⟨b, 11, none⟩ = some (.int .i64 x.out) := by rw [Lib.cell_of_heap h.row]; rfl
theorem WkB.fz {w : World} {b : Nat} {x : Wk} (h : WkB w b x) (j : Nat) : w.frozen? ⟨b, j, none⟩ = false := Lib.frozen_of_heap h.row j
/-- where a step begins: the worker's box, the answer's box -/
structure St12 (w wr : World) (x : Wk) (A : Option Addr) (m : List Int) : Prop where
  x : WkB wr w.heap.size x
  z : WkB wr (w.heap.size + 1) deadW
  m : Now wr A m
  bel : Below w.heap.size w wr
theorem St12.below {w wr w' : World} {x : Wk} {A : Option Addr} {m : List Int} (h : St12 w wr x A m) (hb : Below wr.heap.size wr w') : St12 w w' x A m := ⟨h.x.below hb, h.z.below hb, h.m.below hb, Qt.more h.bel h.bel.size hb⟩
set_option maxHeartbeats 8000000 in
theorem refStep_any (x : Wk) (at0 : Int) (m : List Int) (A : Option Addr) (c : Nat) (w : World) (hf : FineW x) (ha1 : 0 ≤ at0) (ha2 : at0 ≤ 1099511627776) (hR : Now w A m) (hl : m.length ≤ 1000000) (hm : ∀ y ∈ m, WdI y) (he : (stepW at0 m x).2.2 = 0) :
    Calls Try.prog 44 #[.slice A m.length c, .int .i64 at0, wkV x] w (StepAns (stepW at0 m x) w) := by
  have hde : (doA m (accW at0 x)).2.2.2 = 0 := by
    unfold stepW at he
    split at he
    · assumption
    · exact he
  have hst : stepW at0 m x = ((doA m (accW at0 x)).1, behW x (doA m (accW at0 x)).2.1 (doA m (accW at0 x)).2.2.1, 0) := by unfold stepW; rw [if_pos hde]
  have hlen := doA_len m (accW at0 x)
  have hxI := (doA_wd (accW at0 x) hm).2.i64
  rw [hst]
  have h1 := fun W => refAccess_any x at0 W hf ha1 ha2
  have h2 := fun W (hN : Now W A m) => refDo_any (accW at0 x) m A c W (accW_fine at0 hf ha1 ha2) (fun y hy => (hm y hy).i64) hN (by omega)
  have h3 := fun W => refBehind_any x (doA m (accW at0 x)).2.1 (doA m (accW at0 x)).2.2.1 W hf hxI
  generalize accW at0 x = y at *
  obtain ⟨⟨dm, dx, db, de⟩, hd⟩ : ∃ d, d = doA m y := ⟨_, rfl⟩
  rw [← hd] at h2 h3 hde hlen ⊢
  simp only at h2 h3 hde hlen ⊢
  subst hde
  have hj := hf.job
  have hpc : 0 ≤ x.pc ∧ x.pc ≤ 2 := by rcases hf.pc with h | h | h <;> omega
  have hdn := hf.done
  obtain ⟨u, hu⟩ : ∃ u, u = behW x dx db := ⟨_, rfl⟩
  rw [← hu] at h3 ⊢
  obtain ⟨pc, job, r0, r1, r2, dn, out⟩ := x
  simp only at hj hpc hdn
  subst hdn
  have HC := Lib.hid (And.intro h1 (And.intro h2 h3))
  have HL := Lib.hid hlen
  have h0 : Hid (St12 w ((w.alloc (.cells (wkA ⟨pc, job, r0, r1, r2, false, out⟩) 39)).alloc (.cells (wkA deadW) 39)) ⟨pc, job, r0, r1, r2, false, out⟩ A m) :=
    ⟨⟨fresh1 w _ _⟩, ⟨fresh2 w _ _⟩, hR.below (below2 w _ _), below2 w _ _⟩
  obtain ⟨w1, hw1⟩ : ∃ w1, (w.alloc (.cells (wkA ⟨pc, job, r0, r1, r2, false, out⟩) 39)).alloc (.cells (wkA deadW) 39) = w1 := ⟨_, rfl⟩
  rw [hw1] at h0
  have a0 := h0.out.x.c0
  have a1 := h0.out.x.c1
  have a2 := h0.out.x.c2
  have a3 := h0.out.x.c3
  have a4 := h0.out.x.c4
  have a5 := h0.out.x.c5
  have a6 := h0.out.x.c6
  have a7 := h0.out.x.c7
  have a8 := h0.out.x.c8
  have a9 := h0.out.x.c9
  have a10 := h0.out.x.c10
  have a11 := h0.out.x.c11
  simp only at a0 a1 a2 a3 a4 a5 a6 a7 a8 a9 a10 a11
  have HW1 := Lib.hid hw1
  unfold deadW at HW1
  clear hw1 h1 h2 h3 hlen hd hst he hm hf hR hxI hu
  have p1 : ¬ pc < 0 := by omega
  have p2 : ¬ 2 < pc := by omega
  have p3 : ¬ at0 < 0 := by omega
  rcases hj with rfl | rfl
  all_goals go_enter Try.func44, Try.ntmps44
  all_goals go_wp2_with (rw [HW1.out])
  all_goals refine (HC.out.1 w1).mono ?_
  all_goals rintro e w2 ⟨rfl, hb2⟩
  all_goals have h2' := Lib.hid (h0.out.below hb2)
  all_goals clear hb2 a0 a1 a2 a3 a4 a5 a6 a7 a8 a9 a10 a11
  all_goals go_wp2_with fail
  all_goals refine (HC.out.2.1 w2 h2'.out.m).mono ?_
  all_goals rintro e w3 ⟨A3, c3, rfl, hO3, hb3⟩
  all_goals have h3' := Lib.hid (h2'.out.below hb3)
  all_goals have HO3 := Lib.hid (And.intro hO3 (show w.heap.size + 1 < w2.heap.size from lt_heap6' h2'.out.z.row))
  all_goals clear hb3 hO3
  all_goals have a0 := h3'.out.x.c0
  all_goals have a1 := h3'.out.x.c1
  all_goals have a2 := h3'.out.x.c2
  all_goals have a3 := h3'.out.x.c3
  all_goals have a4 := h3'.out.x.c4
  all_goals have a5 := h3'.out.x.c5
  all_goals have a6 := h3'.out.x.c6
  all_goals have a7 := h3'.out.x.c7
  all_goals have a8 := h3'.out.x.c8
  all_goals have a9 := h3'.out.x.c9
  all_goals have a10 := h3'.out.x.c10
  all_goals have a11 := h3'.out.x.c11
  all_goals simp only at a0 a1 a2 a3 a4 a5 a6 a7 a8 a9 a10 a11
  all_goals go_wp2_with fail
  all_goals refine (HC.out.2.2 w3).mono ?_
  all_goals rintro e w4 ⟨rfl, hb4⟩
  all_goals have h4' := Lib.hid (h3'.out.below hb4)
  all_goals have HO4 := Lib.hid (And.intro (own_next HO3.out.1 hb4) HO3.out.2)
  all_goals clear hb4 a0 a1 a2 a3 a4 a5 a6 a7 a8 a9 a10 a11
  all_goals obtain ⟨w6, hw6, h6, g6⟩ := set12 w4 (w.heap.size + 1) deadW u 39 (0, 0) h4'.out.z.row
  all_goals have b0 := h4'.out.z.c0
  all_goals have b1 := h4'.out.z.c1
  all_goals have b2 := h4'.out.z.c2
  all_goals have b3 := h4'.out.z.c3
  all_goals have b4 := h4'.out.z.c4
  all_goals have b5 := h4'.out.z.c5
  all_goals have b6 := h4'.out.z.c6
  all_goals have b7 := h4'.out.z.c7
  all_goals have b8 := h4'.out.z.c8
  all_goals have b9 := h4'.out.z.c9
  all_goals have b10 := h4'.out.z.c10
  all_goals have b11 := h4'.out.z.c11
  all_goals have fz := h4'.out.z.fz
  all_goals simp only [deadW] at b0 b1 b2 b3 b4 b5 b6 b7 b8 b9 b10 b11
  all_goals have HW6 := Lib.hid hw6
  all_goals have HR6 : Hid (w6.heap[w.heap.size + 1]? = some (.cells (wkA u) 39 (0, 0)) ∧ Own w6 w.heap.size (.slice A3 dm.length c3) dm ∧ Below w.heap.size w w6) := ⟨h6, own_mono (World.ownsRow.kept HO4.out.1 g6 (.inr (fun e => by have h7 := (World.ownsRow.lt HO3.out.1 (w.heap.size + 1) e).1; have h8 := HO3.out.2; omega))) (by have h8 := HO3.out.2; omega), h4'.out.bel.grown g6 h4'.out.bel.size (fun k e => by injection e with e; omega)⟩
  all_goals clear hw6 h6 g6
  all_goals go_wp2_with (rw [HW6.out])
  all_goals exact bodyPost_ret (results_mid rfl _ _ (w.heap.size + 1) _ _ _ _ rfl HR6.out.1 Try.underlying39 rfl (by kernel_rfl)) rfl ⟨A3, c3, rfl, HR6.out.2.1, HR6.out.2.2⟩
end Go.Proofs.Ytocepdhjkhhpfaa
