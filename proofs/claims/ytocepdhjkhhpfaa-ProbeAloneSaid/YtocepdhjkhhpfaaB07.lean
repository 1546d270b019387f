/-
  Texts that the claims of this seat share, part 7.
-/
import Derived.Test.YtocepdhjkhhpfaaB06
import Derived.Test.YtocepdhjkhhpfaaB04
set_option linter.unusedVariables false
set_option linter.unusedSimpArgs false
namespace Go.Proofs.Ytocepdhjkhhpfaa
set_option maxRecDepth 100000
set_option linter.unusedVariables false
set_option linter.unusedSimpArgs false
open Go.RowKit Go.Sort

abbrev w8A (u : W8) : Array Value := #[.int .i64 u.pc, .int .i64 u.job, .int .i64 u.r0, .int .i64 u.r1, .int .i64 u.r2, .int .i64 u.r3, .int .i64 u.r4, .int .i64 u.r5, .int .i64 u.r6, .int .i64 u.r7, .bool u.done, .int .i64 u.out]
abbrev w8V (u : W8) : Value := .agg (w8A u)
abbrev h8A (u : W8) (S N : Int) (sl mp : Value) : Array Value := #[.int .i64 u.pc, .int .i64 u.job, .int .i64 u.r0, .int .i64 u.r1, .int .i64 u.r2, .int .i64 u.r3, .int .i64 u.r4, .int .i64 u.r5, .int .i64 u.r6, .int .i64 u.r7, .bool u.done, .int .i64 u.out, .int .i64 S, .int .i64 N, sl, mp]
/-- a hand, where it lies -/
structure HaAt (w : World) (b : Nat) (u : W8) (S N : Int) (sl mp : Value) : Prop where
  row : w.heap[b]? = some (.cells (h8A u S N sl mp) 112 (0, 0))
theorem HaAt.lt {w : World} {b : Nat} {u : W8} {S N : Int} {sl mp : Value} (h : HaAt w b u S N sl mp) : b < w.heap.size := lt_heap6' h.row
theorem HaAt.below {w w' : World} {b B : Nat} {u : W8} {S N : Int} {sl mp : Value} (h : HaAt w b u S N sl mp) (hb : Below B w w') (hB : b < B) : HaAt w' b u S N sl mp := ⟨(hb.block b hB).trans h.row⟩
/-- what is read of it, in all worlds that only have more -/
structure HaC (w : World) (b : Nat) (u : W8) (S N : Int) (sl mp : Value) : Prop where
  c0 : w.cell? ⟨b, 0, none⟩ = some (.int .i64 u.pc)
  c1 : w.cell? ⟨b, 1, none⟩ = some (.int .i64 u.job)
  c2 : w.cell? ⟨b, 2, none⟩ = some (.int .i64 u.r0)
  c3 : w.cell? ⟨b, 3, none⟩ = some (.int .i64 u.r1)
  c4 : w.cell? ⟨b, 4, none⟩ = some (.int .i64 u.r2)
  c5 : w.cell? ⟨b, 5, none⟩ = some (.int .i64 u.r3)
  c6 : w.cell? ⟨b, 6, none⟩ = some (.int .i64 u.r4)
  c7 : w.cell? ⟨b, 7, none⟩ = some (.int .i64 u.r5)
  c8 : w.cell? ⟨b, 8, none⟩ = some (.int .i64 u.r6)
  c9 : w.cell? ⟨b, 9, none⟩ = some (.int .i64 u.r7)
  c10 : w.cell? ⟨b, 10, none⟩ = some (.bool u.done)
  c11 : w.cell? ⟨b, 11, none⟩ = some (.int .i64 u.out)
  c12 : w.cell? ⟨b, 12, none⟩ = some (.int .i64 S)
  c13 : w.cell? ⟨b, 13, none⟩ = some (.int .i64 N)
  c14 : w.cell? ⟨b, 14, none⟩ = some sl
  c15 : w.cell? ⟨b, 15, none⟩ = some mp
theorem HaAt.cs {w : World} {b : Nat} {u : W8} {S N : Int} {sl mp : Value} (h : HaAt w b u S N sl mp) : HaC w b u S N sl mp := by
  have r := h.row
  refine ⟨?_, ?_, ?_, ?_, ?_, ?_, ?_, ?_, ?_, ?_, ?_, ?_, ?_, ?_, ?_, ?_⟩ <;> (rw [Lib.cell_of_heap r]; rfl)
theorem HaAt.fz {w : World} {b : Nat} {u : W8} {S N : Int} {sl mp : Value} (h : HaAt w b u S N sl mp) (j : Nat) : w.frozen? ⟨b, j, none⟩ = false := Lib.frozen_of_heap h.row j
theorem run_kids_at (b : Nat) (w : World) : (Instr.arrayAt 53 (.slice (some ⟨b, 2, none⟩) 8 8)).run Try.prog w = .ok (.pointer (some ⟨b, 2, none⟩)) w := by
  simp [Instr.arrayAt, run_underlying Try.underlying53]
theorem hSlot_any {w : World} {b : Nat} {u : W8} {S N : Int} {sl mp : Value} (h : HaAt w b u S N sl mp) (hT : TabS S N) (hk : Fine4 (kdW8 u)) (h4 : I64 u.r4) : Calls Try.prog 120 #[.pointer (some ⟨b, 0, none⟩)] w fun e w' => e = .returned (.int .i64 (slotP S u)) ∧ Below w.heap.size w w' := by
  obtain ⟨h1, h2, h3, h5⟩ := hT
  have hO := Lib.hid (And.intro trivial fun W => of13_any (kdW8 u) W hk)
  have hSl := Lib.hid (And.intro trivial fun W => slot13_any (ofH (kdW8 u)) u.r4 S W (by have := ofH_lt (kdW8 u); unfold I64; omega) h4 (by unfold I64; omega))
  have hc := h.cs
  have k2 := Qt.cell_in hc.c2
  have k3 := Qt.cell_in hc.c3
  have k4 := Qt.cell_in hc.c4
  have k5 := Qt.cell_in hc.c5
  have k6 := Qt.cell_in hc.c6
  have k12 := Qt.cell_in hc.c12
  clear hc hk h h4
  go_enter Try.func120, Try.ntmps120
  go_wp2
  refine Qt.below_all (by kernel_rfl) (by kernel_rfl) ?_
  have hat := run_kids_at b
  iterate 22 (go_big_quiet_step (first | (go_at_call 127; exact Qt.at_call' fun W _ => hO.out.2 W) | (go_at_call 126; exact Qt.at_same fun W _ => hSl.out.2 W)))
  refine wpQuiet_nil ?_
  intro w1 hb1
  go_wp2
  go_ret
  exact ⟨rfl, hb1⟩
abbrev acZ : Obj := .cells #[.int .i64 0, .int .i64 0, .int .i64 0, .int .i64 0] 102
/-- an access's own box, behind a call -/
structure AcBox (w1 : World) (g : Nat) : Prop where
  row : w1.heap[g]? = some (.cells #[.int .i64 0, .int .i64 0, .int .i64 0, .int .i64 0] 102 (0, 0))
  c0 : w1.cell? ⟨g, 0, none⟩ = some (.int .i64 0)
  c1 : w1.cell? ⟨g, 1, none⟩ = some (.int .i64 0)
  c2 : w1.cell? ⟨g, 2, none⟩ = some (.int .i64 0)
  c3 : w1.cell? ⟨g, 3, none⟩ = some (.int .i64 0)
  f0 : w1.frozen? ⟨g, 0, none⟩ = false
  f1 : w1.frozen? ⟨g, 1, none⟩ = false
  f2 : w1.frozen? ⟨g, 2, none⟩ = false
  f3 : w1.frozen? ⟨g, 3, none⟩ = false
theorem acBox {w w1 : World} (hb : Below (w.alloc acZ).heap.size (w.alloc acZ) w1) : AcBox w1 w.heap.size := by
  have r : w1.heap[w.heap.size]? = some (.cells #[.int .i64 0, .int .i64 0, .int .i64 0, .int .i64 0] 102 (0, 0)) := (hb.block w.heap.size (by simp)).trans (heap_alloc_new w _)
  exact ⟨r, by rw [Lib.cell_of_heap r]; rfl, by rw [Lib.cell_of_heap r]; rfl, by rw [Lib.cell_of_heap r]; rfl, by rw [Lib.cell_of_heap r]; rfl, Lib.frozen_of_heap r 0, Lib.frozen_of_heap r 1, Lib.frozen_of_heap r 2, Lib.frozen_of_heap r 3⟩
theorem acSet {w1 : World} {g : Nat} (h : AcBox w1 g) (a b c d : Value) : ((((w1.setCell ⟨g, 0, none⟩ a).setCell ⟨g, 1, none⟩ b).setCell ⟨g, 2, none⟩ c).setCell ⟨g, 3, none⟩ d).heap[g]? = some (.cells #[a, b, c, d] 102 (0, 0)) := by
  have := h.row
  simp [World.setCell, Array.getElem?_modify, this]
theorem acBelow {w w1 : World} (hb : Below (w.alloc acZ).heap.size (w.alloc acZ) w1) (a b c d : Value) : Below w.heap.size w ((((w1.setCell ⟨w.heap.size, 0, none⟩ a).setCell ⟨w.heap.size, 1, none⟩ b).setCell ⟨w.heap.size, 2, none⟩ c).setCell ⟨w.heap.size, 3, none⟩ d) :=
  (((((Qt.more ((Below.refl w.heap.size w).alloc (Nat.le_refl _) acZ) (by simp) hb).setCell (Nat.le_refl _) _).setCell (Nat.le_refl _) _).setCell (Nat.le_refl _) _).setCell (Nat.le_refl _) _)
theorem acOld (w : World) : Below w.heap.size w (w.alloc acZ) := (Below.refl w.heap.size w).alloc (Nat.le_refl _) acZ
theorem hLoadSlot_any {w : World} {b : Nat} {u : W8} {S N : Int} {sl mp : Value} (h : HaAt w b u S N sl mp) (hT : TabS S N) (hk : Fine4 (kdW8 u)) (h4 : I64 u.r4) : Calls Try.prog 92 #[.pointer (some ⟨b, 0, none⟩)] w (ValR (acV (1, slotP S u, 0, 0)) w) := by
  have hs := hSlot_any (h.below (acOld w) h.lt) hT hk h4
  go_enter Try.func92, Try.ntmps92
  go_wp2_with fail
  refine hs.mono ?_
  rintro e w1 ⟨rfl, hb1⟩
  have B := acBox hb1
  obtain ⟨_, c0, c1, c2, c3, f0, f1, f2, f3⟩ := id B
  go_wp2_with fail
  exact bodyPost_ret (results_cellW rfl _ _ w.heap.size _ _ _ _ rfl (acSet B _ _ _ _) Try.underlying102 rfl (by kernel_rfl)) rfl ⟨rfl, acBelow hb1 _ _ _ _⟩
theorem hLoadHead_any {w : World} {b : Nat} {u : W8} {S N : Int} {sl mp : Value} (h : HaAt w b u S N sl mp) (hT : TabS S N) : Calls Try.prog 96 #[.pointer (some ⟨b, 0, none⟩)] w (ValR (acV (1, S + 4 * N, 0, 0)) w) := by
  have hh := pHead_any (w.alloc acZ) hT
  obtain ⟨h1, h2, h3, h4⟩ := hT
  have hc := (h.below (acOld w) h.lt).cs
  have c12 := hc.c12
  have c13 := hc.c13
  clear hc h
  go_enter Try.func96, Try.ntmps96
  go_wp2_with fail
  refine hh.mono ?_
  rintro e w1 ⟨rfl, hb1⟩
  have B := acBox hb1
  obtain ⟨_, c0, c1, c2, c3, f0, f1, f2, f3⟩ := id B
  go_wp2_with fail
  exact bodyPost_ret (results_cellW rfl _ _ w.heap.size _ _ _ _ rfl (acSet B _ _ _ _) Try.underlying102 rfl (by kernel_rfl)) rfl ⟨rfl, acBelow hb1 _ _ _ _⟩
theorem hLoadKid_any {w : World} {b : Nat} {u : W8} {S N : Int} {sl mp : Value} (h : HaAt w b u S N sl mp) (hT : TabS S N) (h0 : 0 ≤ u.r6) (hn : u.r6 < N) (hk0 : 0 ≤ u.r7) (hk : u.r7 ≤ 3) : Calls Try.prog 94 #[.pointer (some ⟨b, 0, none⟩)] w (ValR (acV (1, S + 4 * u.r6 + u.r7, 0, 0)) w) := by
  have hK := Lib.hid (And.intro trivial fun W => pKid_any (n := u.r6) (k := u.r7) W hT h0 hn hk0 hk)
  obtain ⟨h1, h2, h3, h4⟩ := hT
  have hc := (h.below (acOld w) h.lt).cs
  have k8 := Qt.cell_in hc.c8
  have k9 := Qt.cell_in hc.c9
  have k12 := Qt.cell_in hc.c12
  have k13 := Qt.cell_in hc.c13
  clear hc h
  go_enter Try.func94, Try.ntmps94
  go_wp2
  refine Qt.below_tail 18 (by kernel_rfl) (by kernel_rfl) ?_
  simp only [List.take_succ_cons, List.take_zero, List.drop_succ_cons, List.drop_zero]
  iterate 18 (go_big_quiet_step (first | (go_at_call 52; exact Qt.at_call' fun W _ => hK.out.2 W)))
  refine wpQuiet_nil ?_
  intro w1 hb1
  have B := acBox hb1
  obtain ⟨_, c0, c1, c2, c3, f0, f1, f2, f3⟩ := id B
  go_wp2_with fail
  exact bodyPost_ret (results_cellW rfl _ _ w.heap.size _ _ _ _ rfl (acSet B _ _ _ _) Try.underlying102 rfl (by kernel_rfl)) rfl ⟨rfl, acBelow hb1 _ _ _ _⟩
theorem hLoadNext_any {w : World} {b : Nat} {u : W8} {S N : Int} {sl mp : Value} (h : HaAt w b u S N sl mp) (hT : TabS S N) (h6 : WdI u.r6) : Calls Try.prog 98 #[.pointer (some ⟨b, 0, none⟩)] w (ValR (acV (1, S + 4 * N + hdH u.r6, 0, 0)) w) := by
  have hs := split_any u.r6 (w.alloc acZ) h6.i64
  have hh := pHead_any (w.alloc acZ) hT
  have hb := hdH_bd u.r6
  obtain ⟨h1, h2, h3, h4⟩ := hT
  have hc := (h.below (acOld w) h.lt).cs
  have c8 := hc.c8
  have c12 := hc.c12
  have c13 := hc.c13
  clear hc h h6
  obtain ⟨H, hH⟩ : ∃ H, H = hdH u.r6 := ⟨_, rfl⟩
  obtain ⟨C, hC⟩ : ∃ C, C = hdC u.r6 := ⟨_, rfl⟩
  rw [← hH, ← hC] at hs
  rw [← hH] at hb ⊢
  clear hH hC
  go_enter Try.func98, Try.ntmps98
  go_wp2_with fail
  refine hs.mono ?_
  rintro e w1 ⟨rfl, rfl⟩
  go_wp2_with fail
  refine hh.mono ?_
  rintro e w1 ⟨rfl, hb1⟩
  have B := acBox hb1
  obtain ⟨_, c0, c1, c2, c3, f0, f1, f2, f3⟩ := id B
  go_wp2_with fail
  exact bodyPost_ret (results_cellW rfl _ _ w.heap.size _ _ _ _ rfl (acSet B _ _ _ _) Try.underlying102 rfl (by kernel_rfl)) rfl ⟨rfl, acBelow hb1 _ _ _ _⟩
theorem newA_below {y : Ac} {w : World} (e : Ending) (w' : World) (h : NewA y w e w') : e = .returned (acV y) ∧ Below w.heap.size w w' := by
  obtain ⟨rfl, rfl⟩ := h
  exact ⟨rfl, (Below.refl _ _).alloc (Nat.le_refl _) _⟩
theorem hSwapOut_any {w : World} {b : Nat} {u : W8} {S N : Int} {sl mp : Value} (h : HaAt w b u S N sl mp) (hT : TabS S N) (h6 : WdI u.r6) (h7 : WdI u.r7) : Calls Try.prog 100 #[.pointer (some ⟨b, 0, none⟩)] w (ValR (acV (3, S + 4 * N, u.r6, (hdC u.r6 + 1) * 1048576 + u.r7)) w) := by
  have hW := Lib.hid (And.intro trivial fun W => freeSwap_any (S + 4 * N) u.r6 u.r7 W h6 h7)
  have hh := Lib.hid (And.intro trivial fun W => pHead_any W hT)
  obtain ⟨h1, h2, h3, h4⟩ := hT
  have hc := (h.below (acOld w) h.lt).cs
  have k8 := Qt.cell_in hc.c8
  have k9 := Qt.cell_in hc.c9
  have k12 := Qt.cell_in hc.c12
  have k13 := Qt.cell_in hc.c13
  clear hc h h6 h7
  go_enter Try.func100, Try.ntmps100
  go_wp2
  refine Qt.below_tail 18 (by kernel_rfl) (by kernel_rfl) ?_
  simp only [List.take_succ_cons, List.take_zero, List.drop_succ_cons, List.drop_zero]
  iterate 18 (go_big_quiet_step (first | (go_at_call 49; exact Qt.at_call' fun W _ => hh.out.2 W) | (go_at_call 118; exact Qt.at_call' fun W _ => (hW.out.2 W).mono newA_below)))
  refine wpQuiet_nil ?_
  intro w1 hb1
  have B := acBox hb1
  obtain ⟨_, c0, c1, c2, c3, f0, f1, f2, f3⟩ := id B
  go_wp2_with fail
  exact bodyPost_ret (results_cellW rfl _ _ w.heap.size _ _ _ _ rfl (acSet B _ _ _ _) Try.underlying102 rfl (by kernel_rfl)) rfl ⟨rfl, acBelow hb1 _ _ _ _⟩
theorem hSwapIn_any {w : World} {b : Nat} {u : W8} {S N : Int} {sl mp : Value} (h : HaAt w b u S N sl mp) (hT : TabS S N) (h6 : WdI u.r6) (h7 : WdI u.r5) : Calls Try.prog 109 #[.pointer (some ⟨b, 0, none⟩)] w (ValR (acV (3, S + 4 * N, u.r6, (hdC u.r6 + 1) * 1048576 + u.r5)) w) := by
  have hW := Lib.hid (And.intro trivial fun W => freeSwap_any (S + 4 * N) u.r6 u.r5 W h6 h7)
  have hh := Lib.hid (And.intro trivial fun W => pHead_any W hT)
  obtain ⟨h1, h2, h3, h4⟩ := hT
  have hc := (h.below (acOld w) h.lt).cs
  have k8 := Qt.cell_in hc.c8
  have k7 := Qt.cell_in hc.c7
  have k12 := Qt.cell_in hc.c12
  have k13 := Qt.cell_in hc.c13
  clear hc h h6 h7
  go_enter Try.func109, Try.ntmps109
  go_wp2
  refine Qt.below_tail 18 (by kernel_rfl) (by kernel_rfl) ?_
  simp only [List.take_succ_cons, List.take_zero, List.drop_succ_cons, List.drop_zero]
  iterate 18 (go_big_quiet_step (first | (go_at_call 49; exact Qt.at_call' fun W _ => hh.out.2 W) | (go_at_call 118; exact Qt.at_call' fun W _ => (hW.out.2 W).mono newA_below)))
  refine wpQuiet_nil ?_
  intro w1 hb1
  have B := acBox hb1
  obtain ⟨_, c0, c1, c2, c3, f0, f1, f2, f3⟩ := id B
  go_wp2_with fail
  exact bodyPost_ret (results_cellW rfl _ _ w.heap.size _ _ _ _ rfl (acSet B _ _ _ _) Try.underlying102 rfl (by kernel_rfl)) rfl ⟨rfl, acBelow hb1 _ _ _ _⟩
theorem hSwapSlot_any {w : World} {b : Nat} {u : W8} {S N : Int} {sl mp : Value} (h : HaAt w b u S N sl mp) (hT : TabS S N) (hk : Fine4 (kdW8 u)) (h4 : I64 u.r4) : Calls Try.prog 104 #[.pointer (some ⟨b, 0, none⟩)] w (ValR (acV (3, slotP S u, 0, u.r5)) w) := by
  have hs := Lib.hid (And.intro trivial fun (W : World) (hb : Below (w.alloc acZ).heap.size (w.alloc acZ) W) => hSlot_any (((h.below (acOld w) h.lt)).below hb (by simp; exact Nat.lt_succ_of_lt h.lt)) hT hk h4)
  obtain ⟨h1, h2, h3, h5⟩ := hT
  have hc := (h.below (acOld w) h.lt).cs
  have k7 := Qt.cell_in hc.c7
  clear hc h hk h4
  go_enter Try.func104, Try.ntmps104
  go_wp2
  refine Qt.below_tail 9 (by kernel_rfl) (by kernel_rfl) ?_
  simp only [List.take_succ_cons, List.take_zero, List.drop_succ_cons, List.drop_zero]
  iterate 9 (go_big_quiet_step (first | (go_at_call 120; exact Qt.at_call' fun W hW => hs.out.2 W hW)))
  refine wpQuiet_nil ?_
  intro w1 hb1
  have B := acBox hb1
  obtain ⟨_, c0, c1, c2, c3, f0, f1, f2, f3⟩ := id B
  go_wp2_with fail
  exact bodyPost_ret (results_cellW rfl _ _ w.heap.size _ _ _ _ rfl (acSet B _ _ _ _) Try.underlying102 rfl (by kernel_rfl)) rfl ⟨rfl, acBelow hb1 _ _ _ _⟩
theorem hStoreNext_any {w : World} {b : Nat} {u : W8} {S N : Int} {sl mp : Value} (h : HaAt w b u S N sl mp) (hT : TabS S N) (h6 : WdI u.r6) (h5 : 1 ≤ u.r5) (h5n : u.r5 ≤ N) : Calls Try.prog 107 #[.pointer (some ⟨b, 0, none⟩)] w (ValR (acV (2, S + 4 * N + u.r5, 0, hdH u.r6)) w) := by
  have hs := split_any u.r6 (w.alloc acZ) h6.i64
  have hP := Lib.hid (And.intro trivial fun W => pPlace_any (n := u.r5 - 1) W hT (by omega) (by omega))
  have hb := hdH_bd u.r6
  obtain ⟨h1, h2, h3, h4⟩ := hT
  have e5 : S + 4 * N + 1 + (u.r5 - 1) = S + 4 * N + u.r5 := by omega
  rw [e5] at hP
  clear e5
  have hc := (h.below (acOld w) h.lt).cs
  have c8 := hc.c8
  have k7 := Qt.cell_in hc.c7
  have k12 := Qt.cell_in hc.c12
  have k13 := Qt.cell_in hc.c13
  clear hc h h6
  obtain ⟨H, hH⟩ : ∃ H, H = hdH u.r6 := ⟨_, rfl⟩
  obtain ⟨C, hC⟩ : ∃ C, C = hdC u.r6 := ⟨_, rfl⟩
  rw [← hH, ← hC] at hs
  rw [← hH] at hb ⊢
  clear hH hC
  go_enter Try.func107, Try.ntmps107
  go_wp2_with fail
  refine hs.mono ?_
  rintro e w1 ⟨rfl, rfl⟩
  go_wp2_with fail
  refine Qt.below_tail 14 (by kernel_rfl) (by kernel_rfl) ?_
  simp only [List.take_succ_cons, List.take_zero, List.drop_succ_cons, List.drop_zero]
  iterate 14 (go_big_quiet_step (first | (go_at_call 123; exact Qt.at_call' fun W _ => hP.out.2 W)))
  refine wpQuiet_nil ?_
  intro w1 hb1
  have B := acBox hb1
  obtain ⟨_, c0, c1, c2, c3, f0, f1, f2, f3⟩ := id B
  go_wp2_with fail
  exact bodyPost_ret (results_cellW rfl _ _ w.heap.size _ _ _ _ rfl (acSet B _ _ _ _) Try.underlying102 rfl (by kernel_rfl)) rfl ⟨rfl, acBelow hb1 _ _ _ _⟩
end Go.Proofs.Ytocepdhjkhhpfaa
namespace Go.Proofs.Ytocepdhjkhhpfaa
set_option maxRecDepth 100000
set_option linter.unusedVariables false
set_option linter.unusedSimpArgs false
open Go.RowKit Go.Sort

theorem hStoreKid_any {w : World} {b : Nat} {u : W8} {S N : Int} {sl mp : Value} (h : HaAt w b u S N sl mp) (hT : TabS S N) (h0 : 1 ≤ u.r5) (hn : u.r5 ≤ N) (hk0 : 0 ≤ u.r7) (hk : u.r7 ≤ 3) : Calls Try.prog 102 #[.pointer (some ⟨b, 0, none⟩)] w (ValR (acV (2, S + 4 * (u.r5 - 1) + u.r7, 0, kdH (kdW8 u) u.r7.toNat)) w) := by
  have hK := Lib.hid (And.intro trivial fun W => pKid_any (n := u.r5 - 1) (k := u.r7) W hT (by omega) (by omega) hk0 hk)
  obtain ⟨h1, h2, h3, h4⟩ := hT
  have hc := (h.below (acOld w) h.lt).cs
  have c9 := hc.c9
  have k2 := Qt.cell_in hc.c2
  have k3 := Qt.cell_in hc.c3
  have k4 := Qt.cell_in hc.c4
  have k5 := Qt.cell_in hc.c5
  have k7 := Qt.cell_in hc.c7
  have k9 := Qt.cell_in hc.c9
  have k12 := Qt.cell_in hc.c12
  have k13 := Qt.cell_in hc.c13
  clear hc h
  rcases (show u.r7 = 0 ∨ u.r7 = 1 ∨ u.r7 = 2 ∨ u.r7 = 3 by omega) with e | e | e | e
  all_goals
    rw [e] at hK c9 ⊢
    simp only [e] at k9
    clear e hk0 hk
    try simp only [Int.add_zero] at hK
    simp only [Int.add_zero, kdH, kdW8, Int.toNat_zero, Int.toNat_one, show (2 : Int).toNat = 2 from rfl, show (3 : Int).toNat = 3 from rfl]
    go_enter Try.func102, Try.ntmps102
    go_wp2
    refine Qt.below_tail 21 (by kernel_rfl) (by kernel_rfl) ?_
    simp only [List.take_succ_cons, List.take_zero, List.drop_succ_cons, List.drop_zero]
    iterate 21 (go_big_quiet_step (first | (go_at_call 52; exact Qt.at_call' fun W _ => hK.out.2 W)))
    refine wpQuiet_nil ?_
    intro w1 hb1
    have B := acBox hb1
    obtain ⟨_, c0, c1, c2, c3, f0, f1, f2, f3⟩ := id B
    clear c9
    go_wp2_with fail
    exact bodyPost_ret (results_cellW rfl _ _ w.heap.size _ _ _ _ rfl (acSet B _ _ _ _) Try.underlying102 rfl (by kernel_rfl)) rfl ⟨rfl, acBelow hb1 _ _ _ _⟩
/-- a hand that was changed since -/
structure HG (w0 w : World) (b : Nat) (u : W8) (S N : Int) (sl mp : Value) : Prop where
  hat : HaAt w b u S N sl mp
  gr : w0.grownBy w (some b)
theorem HaAt.hg {w : World} {b : Nat} {u : W8} {S N : Int} {sl mp : Value} (h : HaAt w b u S N sl mp) : HG w w b u S N sl mp := ⟨h, World.grownBy.refl _ _⟩
theorem HG.drew {w0 w : World} {b : Nat} {u : W8} {S N : Int} {sl mp : Value} (h : HG w0 w b u S N sl mp) : HG w0 w.drew b u S N sl mp := ⟨⟨h.hat.row⟩, ⟨h.gr.os, h.gr.tape, h.gr.output, h.gr.size, h.gr.block⟩⟩
theorem HG.below {w0 w w' : World} {b : Nat} {u : W8} {S N : Int} {sl mp : Value} (h : HG w0 w b u S N sl mp) (hb : Below w.heap.size w w') : HG w0 w' b u S N sl mp :=
  ⟨h.hat.below hb h.hat.lt, ⟨hb.os.trans h.gr.os, hb.tape.trans h.gr.tape, hb.output.trans h.gr.output, Nat.le_trans h.gr.size hb.size, fun k hk hne => (hb.block k (Nat.lt_of_lt_of_le hk h.gr.size)).trans (h.gr.block k hk hne)⟩⟩
theorem HG.put0 {w0 w : World} {b : Nat} {u : W8} {S N : Int} {sl mp : Value} (h : HG w0 w b u S N sl mp) (z : Int) : HG w0 (w.setCell ⟨b, 0, none⟩ (.int .i64 z)) b { u with pc := z } S N sl mp :=
  ⟨⟨by have := h.hat.row; simp [World.setCell, Array.getElem?_modify, this]⟩, h.gr.trans (grown_setCell _ _ _ _)⟩
theorem HG.put6 {w0 w : World} {b : Nat} {u : W8} {S N : Int} {sl mp : Value} (h : HG w0 w b u S N sl mp) (z : Int) : HG w0 (w.setCell ⟨b, 6, none⟩ (.int .i64 z)) b { u with r4 := z } S N sl mp :=
  ⟨⟨by have := h.hat.row; simp [World.setCell, Array.getElem?_modify, this]⟩, h.gr.trans (grown_setCell _ _ _ _)⟩
theorem HG.put7 {w0 w : World} {b : Nat} {u : W8} {S N : Int} {sl mp : Value} (h : HG w0 w b u S N sl mp) (z : Int) : HG w0 (w.setCell ⟨b, 7, none⟩ (.int .i64 z)) b { u with r5 := z } S N sl mp :=
  ⟨⟨by have := h.hat.row; simp [World.setCell, Array.getElem?_modify, this]⟩, h.gr.trans (grown_setCell _ _ _ _)⟩
theorem HG.put8 {w0 w : World} {b : Nat} {u : W8} {S N : Int} {sl mp : Value} (h : HG w0 w b u S N sl mp) (z : Int) : HG w0 (w.setCell ⟨b, 8, none⟩ (.int .i64 z)) b { u with r6 := z } S N sl mp :=
  ⟨⟨by have := h.hat.row; simp [World.setCell, Array.getElem?_modify, this]⟩, h.gr.trans (grown_setCell _ _ _ _)⟩
theorem HG.put9 {w0 w : World} {b : Nat} {u : W8} {S N : Int} {sl mp : Value} (h : HG w0 w b u S N sl mp) (z : Int) : HG w0 (w.setCell ⟨b, 9, none⟩ (.int .i64 z)) b { u with r7 := z } S N sl mp :=
  ⟨⟨by have := h.hat.row; simp [World.setCell, Array.getElem?_modify, this]⟩, h.gr.trans (grown_setCell _ _ _ _)⟩
theorem HG.put10 {w0 w : World} {b : Nat} {u : W8} {S N : Int} {sl mp : Value} (h : HG w0 w b u S N sl mp) (z : Bool) : HG w0 (w.setCell ⟨b, 10, none⟩ (.bool z)) b { u with done := z } S N sl mp :=
  ⟨⟨by have := h.hat.row; simp [World.setCell, Array.getElem?_modify, this]⟩, h.gr.trans (grown_setCell _ _ _ _)⟩
theorem HG.put11 {w0 w : World} {b : Nat} {u : W8} {S N : Int} {sl mp : Value} (h : HG w0 w b u S N sl mp) (z : Int) : HG w0 (w.setCell ⟨b, 11, none⟩ (.int .i64 z)) b { u with out := z } S N sl mp :=
  ⟨⟨by have := h.hat.row; simp [World.setCell, Array.getElem?_modify, this]⟩, h.gr.trans (grown_setCell _ _ _ _)⟩
/-- what a call leaves that changes a hand alone -/
def SetR8 (b : Nat) (u : W8) (S N : Int) (sl mp : Value) (w : World) (e : Ending) (w' : World) : Prop := e = .returned (.tuple #[]) ∧ HG w w' b u S N sl mp
theorem hSlotLoaded_any {w : World} {b : Nat} {u : W8} {S N : Int} {sl mp : Value} (h : HaAt w b u S N sl mp) (x : Int) (dn : Bool) (hx : WdI x) (hpc : u.pc = 0) : Calls Try.prog 93 #[.pointer (some ⟨b, 0, none⟩), .int .i64 x, .bool dn] w (SetR8 b (behP S u x dn) S N sl mp w) := by
  have hc := h.cs
  have c0 := hc.c0
  have c7 := hc.c7
  have c8 := hc.c8
  have c9 := hc.c9
  have f0 := h.fz 0
  have f8 := h.fz 8
  have f9 := h.fz 9
  clear hc
  have H := Lib.hid h.hg
  clear h
  have e : behP S u x dn = if x < 1 then if u.r5 = 0 then { u with pc := 10 } else { u with pc := 20 } else { u with r6 := x - 1, r7 := 0, pc := 1 } := by unfold behP; simp [hpc]
  rw [e]
  clear e
  obtain ⟨hx1, hx2⟩ := hx
  by_cases hz : x < 1
  · rw [if_pos hz]
    by_cases h5 : u.r5 = 0
    · rw [if_pos h5]
      go_enter Try.func93, Try.ntmps93
      go_wp2
      go_end0
      exact ⟨rfl, H.out.put0 10⟩
    · rw [if_neg h5]
      go_enter Try.func93, Try.ntmps93
      go_wp2
      go_end0
      exact ⟨rfl, H.out.put0 20⟩
  · rw [if_neg hz]
    go_enter Try.func93, Try.ntmps93
    go_wp2
    go_region
    go_wp2
    go_end0
    exact ⟨rfl, (((H.out.put8 (x - 1)).put9 0).put0 1).drew⟩
theorem hEndWith_any {w : World} {b : Nat} {u : W8} {S N : Int} {sl mp : Value} (h : HaAt w b u S N sl mp) (n : Int) : Calls Try.prog 122 #[.pointer (some ⟨b, 0, none⟩), .int .i64 n] w (SetR8 b (endP u n) S N sl mp w) := by
  have hc := h.cs
  have c0 := hc.c0
  have c7 := hc.c7
  have c10 := hc.c10
  have c11 := hc.c11
  have f0 := h.fz 0
  have f10 := h.fz 10
  have f11 := h.fz 11
  clear hc
  have H := Lib.hid h.hg
  clear h
  unfold endP
  by_cases h5 : u.r5 = 0
  · rw [if_pos h5]
    go_enter Try.func122, Try.ntmps122
    go_wp2
    go_end0
    exact ⟨rfl, (H.out.put11 n).put10 true⟩
  · rw [if_neg h5]
    go_enter Try.func122, Try.ntmps122
    go_wp2
    go_end0
    exact ⟨rfl, (H.out.put11 n).put0 30⟩
theorem hPass_any {w : World} {b : Nat} {u : W8} {S N : Int} {sl mp : Value} (h : HaAt w b u S N sl mp) (hS1 : 1 ≤ S) (hS2 : S ≤ 4000) (h4 : 0 ≤ u.r4) (h4b : u.r4 < S) : Calls Try.prog 121 #[.pointer (some ⟨b, 0, none⟩)] w (SetR8 b (if u.r4 + 1 = S then endP { u with r4 := u.r4 + 1 } (-1) else { u with r4 := u.r4 + 1, pc := 0 }) S N sl mp w) := by
  have hc := h.cs
  have c0 := hc.c0
  have c6 := hc.c6
  have c12 := hc.c12
  have f0 := h.fz 0
  have f6 := h.fz 6
  clear hc
  have H := Lib.hid h.hg
  clear h
  by_cases hz : u.r4 + 1 = S
  · rw [if_pos hz, show ({ u with r4 := u.r4 + 1 } : W8) = { u with r4 := S } by rw [hz]]
    have hE := Lib.hid (And.intro trivial fun (W : World) (v : W8) (hv : HaAt W b v S N sl mp) => hEndWith_any hv (-1))
    go_enter Try.func121, Try.ntmps121
    go_wp2
    go_region
    have H1 := Lib.hid (H.out.put6 S).drew
    generalize (w.setCell ⟨b, 6, none⟩ (.int .i64 S)).drew = W at *
    have c6' := H1.out.hat.cs.c6
    have c12' := H1.out.hat.cs.c12
    clear c0 c6 c12 f0 f6 H hz
    go_wp2
    go_region
    go_wp2_with fail
    refine (hE.out.2 _ _ H1.out.drew.hat).mono ?_
    rintro e w2 ⟨rfl, H2⟩
    go_wp2
    go_end0
    exact ⟨rfl, H2.hat, H1.out.drew.gr.trans H2.gr⟩
  · rw [if_neg hz]
    go_enter Try.func121, Try.ntmps121
    go_wp2
    go_region
    have H1 := Lib.hid (H.out.put6 (u.r4 + 1)).drew
    generalize (w.setCell ⟨b, 6, none⟩ (.int .i64 (u.r4 + 1))).drew = W at *
    have c0' := H1.out.hat.cs.c0
    have c6' := H1.out.hat.cs.c6
    have c12' := H1.out.hat.cs.c12
    have f0' := H1.out.hat.fz 0
    clear c0 c6 c12 f0 f6 H
    go_wp2
    go_region
    go_wp2
    go_end0
    exact ⟨rfl, (H1.out.drew.put0 0)⟩
end Go.Proofs.Ytocepdhjkhhpfaa
namespace Go.Proofs.Ytocepdhjkhhpfaa
set_option maxRecDepth 100000
set_option linter.unusedVariables false
set_option linter.unusedSimpArgs false
open Go.RowKit Go.Sort
open Go.ChangeMaps (setBlock heap_setBlock_same)
open Go.Maps (Keyed)

/-- a method of the hand at a block -/
abbrev fnB (f b : Nat) : Value := .func (.func f) #[.pointer (some ⟨b, 0, none⟩)] #[]
abbrev deedB (f g b : Nat) : Value := .agg #[fnB f b, fnB g b]
theorem intKeyed8 : Keyed Try.prog 3 :=
  Go.Maps.int_keyed Try.underlying3
/-- the ten places -/
def pcQ (q : Nat) : Int := match q with | 0 => 0 | 1 => 1 | 2 => 10 | 3 => 11 | 4 => 12 | 5 => 13 | 6 => 20 | 7 => 30 | 8 => 31 | _ => 32
def faQ (q : Nat) : Nat := match q with | 0 => 92 | 1 => 94 | 2 => 96 | 3 => 98 | 4 => 100 | 5 => 102 | 6 => 104 | 7 => 96 | 8 => 107 | _ => 109
def ftQ (q : Nat) : Nat := match q with | 0 => 93 | 1 => 95 | 2 => 97 | 3 => 99 | 4 => 101 | 5 => 103 | 6 => 105 | 7 => 106 | 8 => 108 | _ => 110
theorem ten_ways {q : Nat} (h : q < 10) : q = 0 ∨ q = 1 ∨ q = 2 ∨ q = 3 ∨ q = 4 ∨ q = 5 ∨ q = 6 ∨ q = 7 ∨ q = 8 ∨ q = 9 := by omega
theorem keyQ_reads {q : Nat} (h : q < 10) : ∃ l, keyOf Try.prog 3 (.int .i64 (pcQ q)) = some l := by
  rcases ten_ways h with rfl | rfl | rfl | rfl | rfl | rfl | rfl | rfl | rfl | rfl
  all_goals exact Option.isSome_iff_exists.1 (by kernel_rfl)
theorem pcQ_inj {q p : Nat} (hq : q < 10) (hp : p < 10) (h : pcQ q = pcQ p) : q = p := by
  have : ∀ q : Fin 10, ∀ p : Fin 10, pcQ q = pcQ p → (q : Nat) = p := by decide
  exact this ⟨q, hq⟩ ⟨p, hp⟩ h
/-- where a place's insert stands in the region -/
def posQ (q : Nat) : Nat := 6 * q + 7
/-- what the map holds while some are left to be put -/
structure Es8 (b : Nat) (left : List Nat) (es : Array MapEntry) : Prop where
  all : ∀ y ∈ es.toList, ∃ q, q < 10 ∧ posQ q ∉ left ∧ y.key = .int .i64 (pcQ q) ∧ y.val = deedB (faQ q) (ftQ q) b
  has : ∀ q, q < 10 → posQ q ∉ left → ∃ y ∈ es.toList, y.key = .int .i64 (pcQ q)
theorem es8_new (b : Nat) : Es8 b [7, 13, 19, 25, 31, 37, 43, 49, 55, 61] #[] := ⟨fun y hy => by simp at hy, fun q hq h => by
  rcases ten_ways hq with rfl | rfl | rfl | rfl | rfl | rfl | rfl | rfl | rfl | rfl <;> simp [posQ] at h⟩
theorem Es8.reads {b : Nat} {left : List Nat} {es : Array MapEntry} (h : Es8 b left es) : ∀ e ∈ es.toList, ∃ l, keyOf Try.prog 3 e.key = some l := by
  intro e he
  obtain ⟨q, hq, _, hk, _⟩ := h.all e he
  rw [hk]
  exact keyQ_reads hq
theorem intk_inj {a c : Int} (h : Value.int .i64 a = Value.int .i64 c) : a = c := by injection h
theorem Es8.no {b q : Nat} {left : List Nat} {es : Array MapEntry} (h : Es8 b left es) (hq : q < 10) (hm : posQ q ∈ left) (w : World) : (Instr.findKey 3 (.int .i64 (pcQ q)) es.toList).run Try.prog w = .ok none w := by
  obtain ⟨l, hl⟩ := keyQ_reads hq
  rcases intKeyed8.find w hl es.toList h.reads with ⟨h1, _⟩ | ⟨j, e, h1, h2, h3⟩
  · exact h1
  · obtain ⟨p, hp, hb, hk, _⟩ := h.all e (List.mem_of_getElem? h2)
    rw [hk] at h3
    have := pcQ_inj hp hq (intk_inj h3)
    subst this
    exact absurd hm hb
theorem Es8.yes {b q : Nat} {left : List Nat} {es : Array MapEntry} (h : Es8 b left es) (hq : q < 10) (hm : posQ q ∉ left) (w : World) : ∃ j, (Instr.findKey 3 (.int .i64 (pcQ q)) es.toList).run Try.prog w = .ok (some (j, deedB (faQ q) (ftQ q) b)) w := by
  obtain ⟨l, hl⟩ := keyQ_reads hq
  rcases intKeyed8.find w hl es.toList h.reads with ⟨_, h1⟩ | ⟨j, e, h1, h2, h3⟩
  · obtain ⟨y, hy, hk⟩ := h.has q hq hm
    exact absurd hk (h1 y hy)
  · obtain ⟨p, hp, hb, hk, hv⟩ := h.all e (List.mem_of_getElem? h2)
    rw [hk] at h3
    have := pcQ_inj hp hq (intk_inj h3)
    subst this
    exact ⟨j, by rw [h1, hv]⟩
theorem posQ_inj {q p : Nat} (h : posQ q = posQ p) : q = p := by unfold posQ at h; omega
theorem Es8.put {b q : Nat} {left : List Nat} {es : Array MapEntry} (h : Es8 b left es) (hnd : left.Nodup) (hq : q < 10) (hb : posQ q ∈ left) (c : Nat) : Es8 b (left.erase (posQ q)) (es.push ⟨.int .i64 (pcQ q), deedB (faQ q) (ftQ q) b, c⟩) := by
  refine ⟨fun y hy => ?_, fun p hp hpb => ?_⟩
  · rw [Array.toList_push] at hy
    rcases List.mem_append.1 hy with hy | hy
    · obtain ⟨p, hp, h1, h2, h3⟩ := h.all y hy
      exact ⟨p, hp, fun hc => h1 (List.mem_of_mem_erase hc), h2, h3⟩
    · obtain rfl : y = ⟨.int .i64 (pcQ q), deedB (faQ q) (ftQ q) b, c⟩ := by simpa using hy
      exact ⟨q, hq, fun hc => ((List.Nodup.mem_erase_iff hnd).1 hc).1 rfl, rfl, rfl⟩
  · by_cases e : p = q
    · subst e
      exact ⟨⟨.int .i64 (pcQ p), deedB (faQ p) (ftQ p) b, c⟩, by simp, rfl⟩
    · obtain ⟨y, hy, hk⟩ := h.has p hp (fun hc => hpb ((List.mem_erase_of_ne (fun hh => e (posQ_inj hh))).2 hc))
      exact ⟨y, by simp [hy], hk⟩
theorem map8_put {W : World} {g b q : Nat} {left : List Nat} {es : Array MapEntry} {clock : Nat} (hb : W.heap[g]? = some (.map es clock)) (h : Es8 b left es) (hq : q < 10) (hm : posQ q ∈ left) :
    (Instr.mapUpdate 110 (.map (some g)) (.int .i64 (pcQ q)) (deedB (faQ q) (ftQ q) b)).run Try.prog W = .ok () (setBlock W g (.map (es.push ⟨.int .i64 (pcQ q), deedB (faQ q) (ftQ q) b, clock⟩) (clock + 1))) := by
  obtain ⟨l, hl⟩ := keyQ_reads hq
  simp [Instr.mapUpdate, run_underlying Try.underlying110, MapKept.run_getObj_map hb, intKeyed8.check W false hl, h.no hq hm W, MapKept.run_setObj_map _ hb, Result.andThen, setBlock]
/-- the map, whole -/
def Map8 (w : World) (g b : Nat) : Prop := ∃ es clock, w.heap[g]? = some (.map es clock) ∧ Es8 b [] es
theorem Map8.get {w : World} {g b q : Nat} (h : Map8 w g b) (hq : q < 10) : (Instr.lookup 110 (.map (some g)) (.int .i64 (pcQ q)) true).run Try.prog w = .ok (.tuple #[deedB (faQ q) (ftQ q) b, .bool true]) w := by
  obtain ⟨es, clock, hb, hE⟩ := h
  obtain ⟨l, hl⟩ := keyQ_reads hq
  obtain ⟨j, hf⟩ := hE.yes hq (by simp) w
  simp [Instr.lookup, run_underlying Try.underlying110, MapKept.run_getObj_map hb, intKeyed8.check w _ hl, hf, Result.andThen]
theorem Map8.below {w w' : World} {g b B : Nat} (h : Map8 w g b) (hb : Below B w w') (hB : g < B) : Map8 w' g b := by
  obtain ⟨es, c, h1, h2⟩ := h
  exact ⟨es, c, (hb.block _ hB).trans h1, h2⟩
theorem map8_next {W : World} {g b q : Nat} {left : List Nat} (hE : ∃ es clock, W.heap[g]? = some (.map es clock) ∧ Es8 b left es) (hnd : left.Nodup) (hq : q < 10) (hb : posQ q ∈ left) :
    ∃ W', (Instr.mapUpdate 110 (.map (some g)) (.int .i64 (pcQ q)) (deedB (faQ q) (ftQ q) b)).run Try.prog W = .ok () W' ∧ (∃ es clock, W'.heap[g]? = some (.map es clock) ∧ Es8 b (left.erase (posQ q)) es) ∧ ∀ {w : World}, Below g w W → Below g w W' := by
  obtain ⟨es, clock, h1, h2⟩ := hE
  exact ⟨_, map8_put h1 h2 hq hb, ⟨_, _, heap_setBlock_same h1 _, h2.put hnd hq hb _⟩, fun hB => belowW_setBlock hB (Nat.le_refl _) _⟩
abbrev zeroW8 : W8 := ⟨0, 0, 0, 0, 0, 0, 0, 0, 0, 0, false, 0⟩
end Go.Proofs.Ytocepdhjkhhpfaa
namespace Go.Proofs.Ytocepdhjkhhpfaa
set_option maxRecDepth 100000
set_option linter.unusedVariables false
set_option linter.unusedSimpArgs false
open Go.RowKit Go.Sort

/-- a hand, as it is made: its block, and its map -/
def HandR (S N : Int) (sl : Value) (w : World) (r : Ending) (w' : World) : Prop := ∃ b g, r = .returned (.pointer (some ⟨b, 0, none⟩)) ∧ b < g ∧ w.heap.size ≤ b ∧ HaAt w' b zeroW8 S N sl (.map (some g)) ∧ Map8 w' g b ∧ Below w.heap.size w w'
def allQ : List Nat := [7, 13, 19, 25, 31, 37, 43, 49, 55, 61]
theorem map8_step {W : World} {g b q : Nat} (hq : q < 10) (hE : ∃ es clock, W.heap[g]? = some (.map es clock) ∧ Es8 b (allQ.drop q) es) :
    ∃ W', (Instr.mapUpdate 110 (.map (some g)) (.int .i64 (pcQ q)) (deedB (faQ q) (ftQ q) b)).run Try.prog W = .ok () W' ∧ (∃ es clock, W'.heap[g]? = some (.map es clock) ∧ Es8 b (allQ.drop (q + 1)) es) ∧ ∀ {w : World}, Below g w W → Below g w W' := by
  have h1 : ∀ q : Fin 10, (allQ.drop q).Nodup ∧ posQ q ∈ allQ.drop q ∧ (allQ.drop q).erase (posQ q) = allQ.drop (q + 1) := by decide
  obtain ⟨e1, e2, e3⟩ := h1 ⟨q, hq⟩
  obtain ⟨W', r1, r2, r3⟩ := map8_next hE e1 hq e2
  simp only at e3
  rw [e3] at r2
  exact ⟨W', r1, r2, r3⟩
set_option maxHeartbeats 16000000 in
theorem handAt_any (S N : Int) (A : Option Addr) (n c : Nat) (w : World) : Calls Try.prog 66 #[plV S N, .slice A n c] w (HandR S N (.slice A n c) w) := by
  have hmm := @run_makeMap Try.prog
  obtain ⟨Z, hZ⟩ : ∃ Z, Z = ((w.alloc (.cells #[.int .i64 S, .int .i64 N] 50)).alloc (.cells (h8A zeroW8 S N (.slice A n c) (.map none)) 112)).alloc (.map #[] 0) := ⟨_, rfl⟩
  have hsz : ((w.alloc (.cells #[.int .i64 S, .int .i64 N] 50)).alloc (.cells (h8A zeroW8 S N (.slice A n c) (.map none)) 112)).heap.size = w.heap.size + 1 + 1 := by simp
  have hE0 : ∃ es clock, Z.heap[w.heap.size + 1 + 1]? = some (.map es clock) ∧ Es8 (w.heap.size + 1) (allQ.drop 0) es := by
    refine ⟨#[], 0, ?_, es8_new _⟩
    rw [hZ, ← hsz]
    exact heap_alloc_new _ _
  have hH0 : HaAt Z (w.heap.size + 1) zeroW8 S N (.slice A n c) (.map none) := ⟨by
    rw [hZ]
    exact (Lib.alloc_old _ _ _ (by rw [hsz]; omega)).trans (fresh2 _ _ _)⟩
  have hB0 : Below w.heap.size w Z := by
    rw [hZ]
    exact (((Below.refl _ _).alloc (Nat.le_refl _) _).alloc (by simp) _).alloc (by rw [hsz]; omega) _
  have HX := Lib.hid (And.intro hH0 hB0)
  clear hH0 hB0 hsz
  go_enter Try.func66, Try.ntmps66
  go_wp2_with fail
  rw [← hZ]
  clear hZ hmm
  obtain ⟨Z1, r1, hE1, hB1⟩ := map8_step (q := 0) (by decide) hE0
  simp only [pcQ, faQ, ftQ] at r1
  rw [r1]
  have HX1 := Lib.hid (hB1 (Below.refl _ Z))
  clear hB1 r1 hE0
  go_wp2_with fail
  obtain ⟨Z2, r2, hE2, hB2⟩ := map8_step (q := 1) (by decide) hE1
  simp only [pcQ, faQ, ftQ] at r2
  rw [r2]
  have HX2 := Lib.hid (hB2 (Below.refl _ Z1))
  clear hB2 r2 hE1
  go_wp2_with fail
  obtain ⟨Z3, r3, hE3, hB3⟩ := map8_step (q := 2) (by decide) hE2
  simp only [pcQ, faQ, ftQ] at r3
  rw [r3]
  have HX3 := Lib.hid (hB3 (Below.refl _ Z2))
  clear hB3 r3 hE2
  go_wp2_with fail
  obtain ⟨Z4, r4, hE4, hB4⟩ := map8_step (q := 3) (by decide) hE3
  simp only [pcQ, faQ, ftQ] at r4
  rw [r4]
  have HX4 := Lib.hid (hB4 (Below.refl _ Z3))
  clear hB4 r4 hE3
  go_wp2_with fail
  obtain ⟨Z5, r5, hE5, hB5⟩ := map8_step (q := 4) (by decide) hE4
  simp only [pcQ, faQ, ftQ] at r5
  rw [r5]
  have HX5 := Lib.hid (hB5 (Below.refl _ Z4))
  clear hB5 r5 hE4
  go_wp2_with fail
  obtain ⟨Z6, r6, hE6, hB6⟩ := map8_step (q := 5) (by decide) hE5
  simp only [pcQ, faQ, ftQ] at r6
  rw [r6]
  have HX6 := Lib.hid (hB6 (Below.refl _ Z5))
  clear hB6 r6 hE5
  go_wp2_with fail
  obtain ⟨Z7, r7, hE7, hB7⟩ := map8_step (q := 6) (by decide) hE6
  simp only [pcQ, faQ, ftQ] at r7
  rw [r7]
  have HX7 := Lib.hid (hB7 (Below.refl _ Z6))
  clear hB7 r7 hE6
  go_wp2_with fail
  obtain ⟨Z8, r8, hE8, hB8⟩ := map8_step (q := 7) (by decide) hE7
  simp only [pcQ, faQ, ftQ] at r8
  rw [r8]
  have HX8 := Lib.hid (hB8 (Below.refl _ Z7))
  clear hB8 r8 hE7
  go_wp2_with fail
  obtain ⟨Z9, r9, hE9, hB9⟩ := map8_step (q := 8) (by decide) hE8
  simp only [pcQ, faQ, ftQ] at r9
  rw [r9]
  have HX9 := Lib.hid (hB9 (Below.refl _ Z8))
  clear hB9 r9 hE8
  go_wp2_with fail
  obtain ⟨Z10, r10, hE10, hB10⟩ := map8_step (q := 9) (by decide) hE9
  simp only [pcQ, faQ, ftQ] at r10
  rw [r10]
  have HX10 := Lib.hid (hB10 (Below.refl _ Z9))
  clear hB10 r10 hE9
  have HH : HaAt Z10 (w.heap.size + 1) zeroW8 S N (.slice A n c) (.map none) := HX.out.1 |>.below HX1.out (by omega) |>.below HX2.out (by omega) |>.below HX3.out (by omega) |>.below HX4.out (by omega) |>.below HX5.out (by omega) |>.below HX6.out (by omega) |>.below HX7.out (by omega) |>.below HX8.out (by omega) |>.below HX9.out (by omega) |>.below HX10.out (by omega)
  have HZ := Lib.hid (And.intro HH (HX.out.2 |>.trans (HX1.out.mono (by omega)) |>.trans (HX2.out.mono (by omega)) |>.trans (HX3.out.mono (by omega)) |>.trans (HX4.out.mono (by omega)) |>.trans (HX5.out.mono (by omega)) |>.trans (HX6.out.mono (by omega)) |>.trans (HX7.out.mono (by omega)) |>.trans (HX8.out.mono (by omega)) |>.trans (HX9.out.mono (by omega)) |>.trans (HX10.out.mono (by omega))))
  have c15 := HH.cs.c15
  have f15 := HH.fz 15
  have HM : Map8 Z10 (w.heap.size + 1 + 1) (w.heap.size + 1) := hE10
  have HMM := Lib.hid HM
  clear HH HM hE10
  go_wp2
  go_ret
  refine ⟨w.heap.size + 1, w.heap.size + 1 + 1, rfl, by omega, by omega, ⟨?_⟩, ?_, ?_⟩
  · have := HZ.out.1.row
    simp [World.setCell, Array.getElem?_modify, this]
  · obtain ⟨es, cl, h1, h2⟩ := HMM.out
    exact ⟨es, cl, by simp [World.setCell, Array.getElem?_modify, h1], h2⟩
  · exact HZ.out.2.setCell (by show w.heap.size ≤ w.heap.size + 1; omega) _
end Go.Proofs.Ytocepdhjkhhpfaa
