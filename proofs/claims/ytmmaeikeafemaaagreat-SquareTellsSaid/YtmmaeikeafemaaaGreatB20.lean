/-
  Texts that the claims of this seat share, part 20.
-/
import Derived.Test.YtmmaeikeafemaaaGreatB18
import Derived.Test.YtmmaeikeafemaaaGreatB07
import Derived.Test.YtmmaeikeafemaaaGreatB16
set_option linter.unusedVariables false
set_option linter.unusedSimpArgs false
namespace Go.Proofs.YtmmaeikeafemaaaGreat
set_option maxRecDepth 100000
set_option linter.unusedVariables false
set_option linter.unusedSimpArgs false
open Go.RowKit Go.Sort

theorem results_cellb {P : Program} {fn : Func} {p u : Tmp} {ty : TypeId} (h : fn.results = #[.tmp u, .cell p ty]) (tmps : Array Value) (w : World) (g : Nat) (t : TypeId) (cs : Array Value) (fr : Nat × Nat) (d : TypeDesc)
    (hp : tmps.getD p undef = .pointer (some ⟨g, 0, none⟩)) (hg : w.heap[g]? = some (.cells cs t fr))
    (hu : P.underlying ty = some d) (hd : (match d with | .struct _ | .array _ _ => true | _ => false) = true) (hi : (P.info? ty).map (·.size) = some cs.size) :
    (results fn tmps).run P w = .ok (.tuple #[tmps.getD u undef, .agg cs]) w := by
  have hp' : tmps[p]?.getD undef = .pointer (some ⟨g, 0, none⟩) := by simpa using hp
  simp [results, h, hp', asAddr, run_loadVar_row w g t ty cs fr d hg hu hd hi]
theorem below_set2c {w W : World} {B b : Nat} (h : Below B w W) (hb : B ≤ b) (u v : Value) : Below B w ((W.setCell ⟨b, 0, none⟩ u).setCell ⟨b, 1, none⟩ v) := (h.setCell (p := ⟨b, 0, none⟩) hb u).setCell (p := ⟨b, 1, none⟩) hb v
set_option maxHeartbeats 16000000 in
theorem refQuarter_any (k : Nat) (hk : k ≤ 41) (c : Int × Int) (hb : -2199023255552 ≤ c.1 ∧ c.1 ≤ 2199023255552 ∧ -2199023255552 ≤ c.2 ∧ c.2 ≤ 2199023255552) (w : World) :
    Calls Tryz.prog 81 #[.int .i64 ((k : Int) + 1), cellV c] w fun r w' => r = .returned (.tuple #[.int .i64 (qrK c : Nat), cellV (qrD k c)]) ∧ Below w.heap.size w w' := by
  obtain ⟨x, y⟩ := c
  dsimp only at hb
  unfold cellV
  rcases k with _ | k
  · have hwx : IntKind.i64.wrap x = x := by rw [IntKind.wrap_i64]; omega
    have hwy : IntKind.i64.wrap y = y := by rw [IntKind.wrap_i64]; omega
    by_cases hx : 0 ≤ x
    · by_cases hy : 0 ≤ y
      · rw [show qrK (x, y) = 3 by unfold qrK; simp only [if_pos hx, if_pos hy], show qrD 0 (x, y) = (x, y) by unfold qrD hfK; simp]
        have hal1 := (Below.refl w.heap.size w).alloc (Nat.le_refl _) (.cells #[.int .i64 x, .int .i64 y] 28)
        have hal2 := hal1.alloc hal1.size (.cells #[.int .i64 0, .int .i64 0] 28)
        have hal3 := hal2.alloc hal2.size (.cells #[.int .i64 x, .int .i64 y] 28)
        have hs1 : (w.alloc (.cells #[.int .i64 x, .int .i64 y] 28)).heap.size = w.heap.size + 1 := by simp
        have hs2 : ((w.alloc (.cells #[.int .i64 x, .int .i64 y] 28)).alloc (.cells #[.int .i64 0, .int .i64 0] 28)).heap.size = w.heap.size + 1 + 1 := by simp
        have hD : ClB (((w.alloc (.cells #[.int .i64 x, .int .i64 y] 28)).alloc (.cells #[.int .i64 0, .int .i64 0] 28)).alloc (.cells #[.int .i64 x, .int .i64 y] 28)) (w.heap.size + 1 + 1) (x, y) := ⟨heap_new hs2⟩
        have hZ : (((w.alloc (.cells #[.int .i64 x, .int .i64 y] 28)).alloc (.cells #[.int .i64 0, .int .i64 0] 28)).alloc (.cells #[.int .i64 x, .int .i64 y] 28)).heap[w.heap.size + 1]? = some (.cells #[.int .i64 0, .int .i64 0] 28 (0, 0)) := heap_old (heap_new hs1)
        have c0 : (w.alloc (.cells #[.int .i64 x, .int .i64 y] 28)).cell? ⟨w.heap.size, 0, none⟩ = some (.int .i64 x) := (clB_new (w := w) (x, y)).c0
        have c1 : (w.alloc (.cells #[.int .i64 x, .int .i64 y] 28)).cell? ⟨w.heap.size, 1, none⟩ = some (.int .i64 y) := (clB_new (w := w) (x, y)).c1
        have c0a : ∀ o, ((w.alloc (.cells #[.int .i64 x, .int .i64 y] 28)).alloc o).cell? ⟨w.heap.size, 0, none⟩ = some (.int .i64 x) := fun o => (World.cell?_alloc_lt _ o _ (block_lt_of_cell c0)).trans c0
        have c1a : ∀ o, ((w.alloc (.cells #[.int .i64 x, .int .i64 y] 28)).alloc o).cell? ⟨w.heap.size, 1, none⟩ = some (.int .i64 y) := fun o => (World.cell?_alloc_lt _ o _ (block_lt_of_cell c1)).trans c1
        have c0b : ∀ o o', (((w.alloc (.cells #[.int .i64 x, .int .i64 y] 28)).alloc o).alloc o').cell? ⟨w.heap.size, 0, none⟩ = some (.int .i64 x) := fun o o' => (World.cell?_alloc_lt _ o' _ (block_lt_of_cell (c0a o))).trans (c0a o)
        have c1b : ∀ o o', (((w.alloc (.cells #[.int .i64 x, .int .i64 y] 28)).alloc o).alloc o').cell? ⟨w.heap.size, 1, none⟩ = some (.int .i64 y) := fun o o' => (World.cell?_alloc_lt _ o' _ (block_lt_of_cell (c1a o))).trans (c1a o)
        have HD := Lib.hid hD
        have HZ := Lib.hid hZ
        have HB := Lib.hid hal3
        clear hal1 hal2 hal3 hs1 hs2 hD hZ
        go_enter Tryz.func81, Tryz.ntmps81
        go_wp2_with fail
        clear c0 c1 c0a c1a c0b c1b
        generalize (((w.alloc (.cells #[.int .i64 x, .int .i64 y] 28)).alloc (.cells #[.int .i64 0, .int .i64 0] 28)).alloc (.cells #[.int .i64 x, .int .i64 y] 28)) = w3 at *
        have hDd := HD.out.below (below_drew w3)
        have hZd := ((below_drew w3).block _ (lt_heap6 HZ.out)).trans HZ.out
        have hBd := Qt.more HB.out HB.out.size (below_drew w3)
        have HC0 := Lib.hid (show Below w.heap.size w w3.drew ∧ ClB w3.drew (w.heap.size + 1 + 1) (x, y) from ⟨hBd, hDd⟩)
        have hB2 := below_set2c hBd (by omega : w.heap.size ≤ w.heap.size + 1) (.int .i64 x) (.int .i64 y)
        have HC3 := Lib.hid (show Below w.heap.size w ((w3.drew.setCell ⟨w.heap.size + 1, 0, none⟩ (.int .i64 x)).setCell ⟨w.heap.size + 1, 1, none⟩ (.int .i64 y)) ∧ ClB ((w3.drew.setCell ⟨w.heap.size + 1, 0, none⟩ (.int .i64 x)).setCell ⟨w.heap.size + 1, 1, none⟩ (.int .i64 y)) (w.heap.size + 1 + 1) (x, y) from
          ⟨hB2, ⟨((Below.heap_setCell _ _ _ _ (by show w.heap.size + 1 + 1 ≠ w.heap.size + 1; omega)).trans (Below.heap_setCell _ _ _ _ (by show w.heap.size + 1 + 1 ≠ w.heap.size + 1; omega))).trans hDd.row⟩⟩)
        have HT := Lib.hid (show ((w3.drew.setCell ⟨w.heap.size + 1, 0, none⟩ (.int .i64 x)).setCell ⟨w.heap.size + 1, 1, none⟩ (.int .i64 y)).heap[w.heap.size + 1]? = some (.cells #[.int .i64 x, .int .i64 y] 28 (0, 0)) ∧ Below w.heap.size w ((w3.drew.setCell ⟨w.heap.size + 1, 0, none⟩ (.int .i64 x)).setCell ⟨w.heap.size + 1, 1, none⟩ (.int .i64 y)) from ⟨by simp [World.setCell, Array.getElem?_modify, hZd], hB2⟩)
        have g0 : w3.drew.cell? ⟨w.heap.size + 1, 0, none⟩ = some (.int .i64 0) := by rw [Lib.cell_of_heap hZd]; rfl
        have g1 : w3.drew.cell? ⟨w.heap.size + 1, 1, none⟩ = some (.int .i64 0) := by rw [Lib.cell_of_heap hZd]; rfl
        have f0 : w3.drew.frozen? ⟨w.heap.size + 1, 0, none⟩ = false := Lib.frozen_of_heap hZd 0
        have f1 : w3.drew.frozen? ⟨w.heap.size + 1, 1, none⟩ = false := Lib.frozen_of_heap hZd 1
        clear hDd hZd hBd hB2
        refine region_calm_to (fun W => Below w.heap.size w W ∧ ClB W (w.heap.size + 1 + 1) (x, y)) (fun (a0 a9 : Act) (w9 : World) => a9 = (((a0.put (some 41) (.int .i64 3)).put (some 42) (.agg #[.int .i64 x, .int .i64 y])).put (some 4) (.int .i64 3)) ∧ (Hid (w9.heap[w.heap.size + 1]? = some (.cells #[.int .i64 x, .int .i64 y] 28 (0, 0)) ∧ Below w.heap.size w w9))) (.calm 0 (.calm 1 (.calm 2 (.only 3 .done)))) (by kernel_rfl) (by kernel_rfl) (by kernel_rfl) (by rfl) HC0.out ?_ ?_
        · skip
          generalize w3.drew = wd at *
          refine ⟨_, _, (.int .i64 3), rfl, rfl, ⟨rfl, fun W hW => by first | exact ⟨rfl, rfl⟩ | (simp only [Act.eval, execOp]; go_simp; try exact ⟨rfl, rfl⟩)⟩, ?_⟩
          simp only [Act.put, List.getElem_toArray, List.getElem_cons_zero, List.getElem_cons_succ, List.setIfInBounds_toArray, List.set_cons_succ, List.set_cons_zero]
          refine ⟨_, _, (.agg #[.int .i64 x, .int .i64 y]), rfl, rfl, ⟨rfl, fun W hW => by have s0 := hW.2.c0; have s1 := hW.2.c1; simp only at s0 s1; simp only [execOp]; go_simp; done⟩, ?_⟩
          simp only [Act.put, List.getElem_toArray, List.getElem_cons_zero, List.getElem_cons_succ, List.setIfInBounds_toArray, List.set_cons_succ, List.set_cons_zero]
          refine ⟨_, _, (.int .i64 3), rfl, rfl, ⟨rfl, fun W hW => by first | exact ⟨rfl, rfl⟩ | (simp only [Act.eval, execOp]; go_simp; try exact ⟨rfl, rfl⟩)⟩, ?_⟩
          simp only [Act.put, List.getElem_toArray, List.getElem_cons_zero, List.getElem_cons_succ, List.setIfInBounds_toArray, List.set_cons_succ, List.set_cons_zero]
          refine ⟨_, rfl, ?_⟩
          go_wp2_with fail
          refine ⟨rfl, HC3.out, ?_⟩
          refine ⟨?_, HT⟩
          first | rfl | simp only [Act.put, List.getElem_toArray, List.getElem_cons_zero, List.getElem_cons_succ, List.setIfInBounds_toArray, List.set_cons_succ, List.set_cons_zero]
        rintro a9 w9 ⟨rfl, HF⟩
        simp only [Act.put, List.setIfInBounds_toArray, List.set_cons_succ, List.set_cons_zero]
        clear HT HC0 HC3 g0 g1 f0 f1
        go_wp2_with fail
        refine bodyPost_ret (results_cellb rfl _ _ _ _ _ _ _ rfl HF.out.1 Tryz.underlying28 rfl (by kernel_rfl)) rfl ?_
        exact ⟨rfl, HF.out.2⟩
      · rw [show qrK (x, y) = 1 by unfold qrK; simp only [if_pos hx, if_neg hy], show qrD 0 (x, y) = (x, y) by unfold qrD hfK; simp]
        have hal1 := (Below.refl w.heap.size w).alloc (Nat.le_refl _) (.cells #[.int .i64 x, .int .i64 y] 28)
        have hal2 := hal1.alloc hal1.size (.cells #[.int .i64 0, .int .i64 0] 28)
        have hal3 := hal2.alloc hal2.size (.cells #[.int .i64 x, .int .i64 y] 28)
        have hs1 : (w.alloc (.cells #[.int .i64 x, .int .i64 y] 28)).heap.size = w.heap.size + 1 := by simp
        have hs2 : ((w.alloc (.cells #[.int .i64 x, .int .i64 y] 28)).alloc (.cells #[.int .i64 0, .int .i64 0] 28)).heap.size = w.heap.size + 1 + 1 := by simp
        have hD : ClB (((w.alloc (.cells #[.int .i64 x, .int .i64 y] 28)).alloc (.cells #[.int .i64 0, .int .i64 0] 28)).alloc (.cells #[.int .i64 x, .int .i64 y] 28)) (w.heap.size + 1 + 1) (x, y) := ⟨heap_new hs2⟩
        have hZ : (((w.alloc (.cells #[.int .i64 x, .int .i64 y] 28)).alloc (.cells #[.int .i64 0, .int .i64 0] 28)).alloc (.cells #[.int .i64 x, .int .i64 y] 28)).heap[w.heap.size + 1]? = some (.cells #[.int .i64 0, .int .i64 0] 28 (0, 0)) := heap_old (heap_new hs1)
        have c0 : (w.alloc (.cells #[.int .i64 x, .int .i64 y] 28)).cell? ⟨w.heap.size, 0, none⟩ = some (.int .i64 x) := (clB_new (w := w) (x, y)).c0
        have c1 : (w.alloc (.cells #[.int .i64 x, .int .i64 y] 28)).cell? ⟨w.heap.size, 1, none⟩ = some (.int .i64 y) := (clB_new (w := w) (x, y)).c1
        have c0a : ∀ o, ((w.alloc (.cells #[.int .i64 x, .int .i64 y] 28)).alloc o).cell? ⟨w.heap.size, 0, none⟩ = some (.int .i64 x) := fun o => (World.cell?_alloc_lt _ o _ (block_lt_of_cell c0)).trans c0
        have c1a : ∀ o, ((w.alloc (.cells #[.int .i64 x, .int .i64 y] 28)).alloc o).cell? ⟨w.heap.size, 1, none⟩ = some (.int .i64 y) := fun o => (World.cell?_alloc_lt _ o _ (block_lt_of_cell c1)).trans c1
        have c0b : ∀ o o', (((w.alloc (.cells #[.int .i64 x, .int .i64 y] 28)).alloc o).alloc o').cell? ⟨w.heap.size, 0, none⟩ = some (.int .i64 x) := fun o o' => (World.cell?_alloc_lt _ o' _ (block_lt_of_cell (c0a o))).trans (c0a o)
        have c1b : ∀ o o', (((w.alloc (.cells #[.int .i64 x, .int .i64 y] 28)).alloc o).alloc o').cell? ⟨w.heap.size, 1, none⟩ = some (.int .i64 y) := fun o o' => (World.cell?_alloc_lt _ o' _ (block_lt_of_cell (c1a o))).trans (c1a o)
        have HD := Lib.hid hD
        have HZ := Lib.hid hZ
        have HB := Lib.hid hal3
        clear hal1 hal2 hal3 hs1 hs2 hD hZ
        go_enter Tryz.func81, Tryz.ntmps81
        go_wp2_with fail
        clear c0 c1 c0a c1a c0b c1b
        generalize (((w.alloc (.cells #[.int .i64 x, .int .i64 y] 28)).alloc (.cells #[.int .i64 0, .int .i64 0] 28)).alloc (.cells #[.int .i64 x, .int .i64 y] 28)) = w3 at *
        have hDd := HD.out.below (below_drew w3)
        have hZd := ((below_drew w3).block _ (lt_heap6 HZ.out)).trans HZ.out
        have hBd := Qt.more HB.out HB.out.size (below_drew w3)
        have HC0 := Lib.hid (show Below w.heap.size w w3.drew ∧ ClB w3.drew (w.heap.size + 1 + 1) (x, y) from ⟨hBd, hDd⟩)
        have hB2 := below_set2c hBd (by omega : w.heap.size ≤ w.heap.size + 1) (.int .i64 x) (.int .i64 y)
        have HC3 := Lib.hid (show Below w.heap.size w ((w3.drew.setCell ⟨w.heap.size + 1, 0, none⟩ (.int .i64 x)).setCell ⟨w.heap.size + 1, 1, none⟩ (.int .i64 y)) ∧ ClB ((w3.drew.setCell ⟨w.heap.size + 1, 0, none⟩ (.int .i64 x)).setCell ⟨w.heap.size + 1, 1, none⟩ (.int .i64 y)) (w.heap.size + 1 + 1) (x, y) from
          ⟨hB2, ⟨((Below.heap_setCell _ _ _ _ (by show w.heap.size + 1 + 1 ≠ w.heap.size + 1; omega)).trans (Below.heap_setCell _ _ _ _ (by show w.heap.size + 1 + 1 ≠ w.heap.size + 1; omega))).trans hDd.row⟩⟩)
        have HT := Lib.hid (show ((w3.drew.setCell ⟨w.heap.size + 1, 0, none⟩ (.int .i64 x)).setCell ⟨w.heap.size + 1, 1, none⟩ (.int .i64 y)).heap[w.heap.size + 1]? = some (.cells #[.int .i64 x, .int .i64 y] 28 (0, 0)) ∧ Below w.heap.size w ((w3.drew.setCell ⟨w.heap.size + 1, 0, none⟩ (.int .i64 x)).setCell ⟨w.heap.size + 1, 1, none⟩ (.int .i64 y)) from ⟨by simp [World.setCell, Array.getElem?_modify, hZd], hB2⟩)
        have g0 : w3.drew.cell? ⟨w.heap.size + 1, 0, none⟩ = some (.int .i64 0) := by rw [Lib.cell_of_heap hZd]; rfl
        have g1 : w3.drew.cell? ⟨w.heap.size + 1, 1, none⟩ = some (.int .i64 0) := by rw [Lib.cell_of_heap hZd]; rfl
        have f0 : w3.drew.frozen? ⟨w.heap.size + 1, 0, none⟩ = false := Lib.frozen_of_heap hZd 0
        have f1 : w3.drew.frozen? ⟨w.heap.size + 1, 1, none⟩ = false := Lib.frozen_of_heap hZd 1
        clear hDd hZd hBd hB2
        refine region_calm_to (fun W => Below w.heap.size w W ∧ ClB W (w.heap.size + 1 + 1) (x, y)) (fun (a0 a9 : Act) (w9 : World) => a9 = (((a0.put (some 41) (.int .i64 1)).put (some 42) (.agg #[.int .i64 x, .int .i64 y])).put (some 4) (.int .i64 1)) ∧ (Hid (w9.heap[w.heap.size + 1]? = some (.cells #[.int .i64 x, .int .i64 y] 28 (0, 0)) ∧ Below w.heap.size w w9))) (.calm 0 (.calm 1 (.calm 2 (.only 3 .done)))) (by kernel_rfl) (by kernel_rfl) (by kernel_rfl) (by rfl) HC0.out ?_ ?_
        · skip
          generalize w3.drew = wd at *
          refine ⟨_, _, (.int .i64 1), rfl, rfl, ⟨rfl, fun W hW => by first | exact ⟨rfl, rfl⟩ | (simp only [Act.eval, execOp]; go_simp; try exact ⟨rfl, rfl⟩)⟩, ?_⟩
          simp only [Act.put, List.getElem_toArray, List.getElem_cons_zero, List.getElem_cons_succ, List.setIfInBounds_toArray, List.set_cons_succ, List.set_cons_zero]
          refine ⟨_, _, (.agg #[.int .i64 x, .int .i64 y]), rfl, rfl, ⟨rfl, fun W hW => by have s0 := hW.2.c0; have s1 := hW.2.c1; simp only at s0 s1; simp only [execOp]; go_simp; done⟩, ?_⟩
          simp only [Act.put, List.getElem_toArray, List.getElem_cons_zero, List.getElem_cons_succ, List.setIfInBounds_toArray, List.set_cons_succ, List.set_cons_zero]
          refine ⟨_, _, (.int .i64 1), rfl, rfl, ⟨rfl, fun W hW => by first | exact ⟨rfl, rfl⟩ | (simp only [Act.eval, execOp]; go_simp; try exact ⟨rfl, rfl⟩)⟩, ?_⟩
          simp only [Act.put, List.getElem_toArray, List.getElem_cons_zero, List.getElem_cons_succ, List.setIfInBounds_toArray, List.set_cons_succ, List.set_cons_zero]
          refine ⟨_, rfl, ?_⟩
          go_wp2_with fail
          refine ⟨rfl, HC3.out, ?_⟩
          refine ⟨?_, HT⟩
          first | rfl | simp only [Act.put, List.getElem_toArray, List.getElem_cons_zero, List.getElem_cons_succ, List.setIfInBounds_toArray, List.set_cons_succ, List.set_cons_zero]
        rintro a9 w9 ⟨rfl, HF⟩
        simp only [Act.put, List.setIfInBounds_toArray, List.set_cons_succ, List.set_cons_zero]
        clear HT HC0 HC3 g0 g1 f0 f1
        go_wp2_with fail
        refine bodyPost_ret (results_cellb rfl _ _ _ _ _ _ _ rfl HF.out.1 Tryz.underlying28 rfl (by kernel_rfl)) rfl ?_
        exact ⟨rfl, HF.out.2⟩
    · by_cases hy : 0 ≤ y
      · rw [show qrK (x, y) = 2 by unfold qrK; simp only [if_neg hx, if_pos hy], show qrD 0 (x, y) = (x, y) by unfold qrD hfK; simp]
        have hal1 := (Below.refl w.heap.size w).alloc (Nat.le_refl _) (.cells #[.int .i64 x, .int .i64 y] 28)
        have hal2 := hal1.alloc hal1.size (.cells #[.int .i64 0, .int .i64 0] 28)
        have hal3 := hal2.alloc hal2.size (.cells #[.int .i64 x, .int .i64 y] 28)
        have hs1 : (w.alloc (.cells #[.int .i64 x, .int .i64 y] 28)).heap.size = w.heap.size + 1 := by simp
        have hs2 : ((w.alloc (.cells #[.int .i64 x, .int .i64 y] 28)).alloc (.cells #[.int .i64 0, .int .i64 0] 28)).heap.size = w.heap.size + 1 + 1 := by simp
        have hD : ClB (((w.alloc (.cells #[.int .i64 x, .int .i64 y] 28)).alloc (.cells #[.int .i64 0, .int .i64 0] 28)).alloc (.cells #[.int .i64 x, .int .i64 y] 28)) (w.heap.size + 1 + 1) (x, y) := ⟨heap_new hs2⟩
        have hZ : (((w.alloc (.cells #[.int .i64 x, .int .i64 y] 28)).alloc (.cells #[.int .i64 0, .int .i64 0] 28)).alloc (.cells #[.int .i64 x, .int .i64 y] 28)).heap[w.heap.size + 1]? = some (.cells #[.int .i64 0, .int .i64 0] 28 (0, 0)) := heap_old (heap_new hs1)
        have c0 : (w.alloc (.cells #[.int .i64 x, .int .i64 y] 28)).cell? ⟨w.heap.size, 0, none⟩ = some (.int .i64 x) := (clB_new (w := w) (x, y)).c0
        have c1 : (w.alloc (.cells #[.int .i64 x, .int .i64 y] 28)).cell? ⟨w.heap.size, 1, none⟩ = some (.int .i64 y) := (clB_new (w := w) (x, y)).c1
        have c0a : ∀ o, ((w.alloc (.cells #[.int .i64 x, .int .i64 y] 28)).alloc o).cell? ⟨w.heap.size, 0, none⟩ = some (.int .i64 x) := fun o => (World.cell?_alloc_lt _ o _ (block_lt_of_cell c0)).trans c0
        have c1a : ∀ o, ((w.alloc (.cells #[.int .i64 x, .int .i64 y] 28)).alloc o).cell? ⟨w.heap.size, 1, none⟩ = some (.int .i64 y) := fun o => (World.cell?_alloc_lt _ o _ (block_lt_of_cell c1)).trans c1
        have c0b : ∀ o o', (((w.alloc (.cells #[.int .i64 x, .int .i64 y] 28)).alloc o).alloc o').cell? ⟨w.heap.size, 0, none⟩ = some (.int .i64 x) := fun o o' => (World.cell?_alloc_lt _ o' _ (block_lt_of_cell (c0a o))).trans (c0a o)
        have c1b : ∀ o o', (((w.alloc (.cells #[.int .i64 x, .int .i64 y] 28)).alloc o).alloc o').cell? ⟨w.heap.size, 1, none⟩ = some (.int .i64 y) := fun o o' => (World.cell?_alloc_lt _ o' _ (block_lt_of_cell (c1a o))).trans (c1a o)
        have HD := Lib.hid hD
        have HZ := Lib.hid hZ
        have HB := Lib.hid hal3
        clear hal1 hal2 hal3 hs1 hs2 hD hZ
        go_enter Tryz.func81, Tryz.ntmps81
        go_wp2_with fail
        clear c0 c1 c0a c1a c0b c1b
        generalize (((w.alloc (.cells #[.int .i64 x, .int .i64 y] 28)).alloc (.cells #[.int .i64 0, .int .i64 0] 28)).alloc (.cells #[.int .i64 x, .int .i64 y] 28)) = w3 at *
        have hDd := HD.out.below (below_drew w3)
        have hZd := ((below_drew w3).block _ (lt_heap6 HZ.out)).trans HZ.out
        have hBd := Qt.more HB.out HB.out.size (below_drew w3)
        have HC0 := Lib.hid (show Below w.heap.size w w3.drew ∧ ClB w3.drew (w.heap.size + 1 + 1) (x, y) from ⟨hBd, hDd⟩)
        have hB2 := below_set2c hBd (by omega : w.heap.size ≤ w.heap.size + 1) (.int .i64 x) (.int .i64 y)
        have HC3 := Lib.hid (show Below w.heap.size w ((w3.drew.setCell ⟨w.heap.size + 1, 0, none⟩ (.int .i64 x)).setCell ⟨w.heap.size + 1, 1, none⟩ (.int .i64 y)) ∧ ClB ((w3.drew.setCell ⟨w.heap.size + 1, 0, none⟩ (.int .i64 x)).setCell ⟨w.heap.size + 1, 1, none⟩ (.int .i64 y)) (w.heap.size + 1 + 1) (x, y) from
          ⟨hB2, ⟨((Below.heap_setCell _ _ _ _ (by show w.heap.size + 1 + 1 ≠ w.heap.size + 1; omega)).trans (Below.heap_setCell _ _ _ _ (by show w.heap.size + 1 + 1 ≠ w.heap.size + 1; omega))).trans hDd.row⟩⟩)
        have HT := Lib.hid (show ((w3.drew.setCell ⟨w.heap.size + 1, 0, none⟩ (.int .i64 x)).setCell ⟨w.heap.size + 1, 1, none⟩ (.int .i64 y)).heap[w.heap.size + 1]? = some (.cells #[.int .i64 x, .int .i64 y] 28 (0, 0)) ∧ Below w.heap.size w ((w3.drew.setCell ⟨w.heap.size + 1, 0, none⟩ (.int .i64 x)).setCell ⟨w.heap.size + 1, 1, none⟩ (.int .i64 y)) from ⟨by simp [World.setCell, Array.getElem?_modify, hZd], hB2⟩)
        have g0 : w3.drew.cell? ⟨w.heap.size + 1, 0, none⟩ = some (.int .i64 0) := by rw [Lib.cell_of_heap hZd]; rfl
        have g1 : w3.drew.cell? ⟨w.heap.size + 1, 1, none⟩ = some (.int .i64 0) := by rw [Lib.cell_of_heap hZd]; rfl
        have f0 : w3.drew.frozen? ⟨w.heap.size + 1, 0, none⟩ = false := Lib.frozen_of_heap hZd 0
        have f1 : w3.drew.frozen? ⟨w.heap.size + 1, 1, none⟩ = false := Lib.frozen_of_heap hZd 1
        clear hDd hZd hBd hB2
        refine region_calm_to (fun W => Below w.heap.size w W ∧ ClB W (w.heap.size + 1 + 1) (x, y)) (fun (a0 a9 : Act) (w9 : World) => a9 = (((a0.put (some 41) (.int .i64 2)).put (some 42) (.agg #[.int .i64 x, .int .i64 y])).put (some 4) (.int .i64 2)) ∧ (Hid (w9.heap[w.heap.size + 1]? = some (.cells #[.int .i64 x, .int .i64 y] 28 (0, 0)) ∧ Below w.heap.size w w9))) (.calm 0 (.calm 1 (.calm 2 (.only 3 .done)))) (by kernel_rfl) (by kernel_rfl) (by kernel_rfl) (by rfl) HC0.out ?_ ?_
        · skip
          generalize w3.drew = wd at *
          refine ⟨_, _, (.int .i64 2), rfl, rfl, ⟨rfl, fun W hW => by first | exact ⟨rfl, rfl⟩ | (simp only [Act.eval, execOp]; go_simp; try exact ⟨rfl, rfl⟩)⟩, ?_⟩
          simp only [Act.put, List.getElem_toArray, List.getElem_cons_zero, List.getElem_cons_succ, List.setIfInBounds_toArray, List.set_cons_succ, List.set_cons_zero]
          refine ⟨_, _, (.agg #[.int .i64 x, .int .i64 y]), rfl, rfl, ⟨rfl, fun W hW => by have s0 := hW.2.c0; have s1 := hW.2.c1; simp only at s0 s1; simp only [execOp]; go_simp; done⟩, ?_⟩
          simp only [Act.put, List.getElem_toArray, List.getElem_cons_zero, List.getElem_cons_succ, List.setIfInBounds_toArray, List.set_cons_succ, List.set_cons_zero]
          refine ⟨_, _, (.int .i64 2), rfl, rfl, ⟨rfl, fun W hW => by first | exact ⟨rfl, rfl⟩ | (simp only [Act.eval, execOp]; go_simp; try exact ⟨rfl, rfl⟩)⟩, ?_⟩
          simp only [Act.put, List.getElem_toArray, List.getElem_cons_zero, List.getElem_cons_succ, List.setIfInBounds_toArray, List.set_cons_succ, List.set_cons_zero]
          refine ⟨_, rfl, ?_⟩
          go_wp2_with fail
          refine ⟨rfl, HC3.out, ?_⟩
          refine ⟨?_, HT⟩
          first | rfl | simp only [Act.put, List.getElem_toArray, List.getElem_cons_zero, List.getElem_cons_succ, List.setIfInBounds_toArray, List.set_cons_succ, List.set_cons_zero]
        rintro a9 w9 ⟨rfl, HF⟩
        simp only [Act.put, List.setIfInBounds_toArray, List.set_cons_succ, List.set_cons_zero]
        clear HT HC0 HC3 g0 g1 f0 f1
        go_wp2_with fail
        refine bodyPost_ret (results_cellb rfl _ _ _ _ _ _ _ rfl HF.out.1 Tryz.underlying28 rfl (by kernel_rfl)) rfl ?_
        exact ⟨rfl, HF.out.2⟩
      · rw [show qrK (x, y) = 0 by unfold qrK; simp only [if_neg hx, if_neg hy], show qrD 0 (x, y) = (x, y) by unfold qrD hfK; simp]
        have hal1 := (Below.refl w.heap.size w).alloc (Nat.le_refl _) (.cells #[.int .i64 x, .int .i64 y] 28)
        have hal2 := hal1.alloc hal1.size (.cells #[.int .i64 0, .int .i64 0] 28)
        have hal3 := hal2.alloc hal2.size (.cells #[.int .i64 x, .int .i64 y] 28)
        have hs1 : (w.alloc (.cells #[.int .i64 x, .int .i64 y] 28)).heap.size = w.heap.size + 1 := by simp
        have hs2 : ((w.alloc (.cells #[.int .i64 x, .int .i64 y] 28)).alloc (.cells #[.int .i64 0, .int .i64 0] 28)).heap.size = w.heap.size + 1 + 1 := by simp
        have hD : ClB (((w.alloc (.cells #[.int .i64 x, .int .i64 y] 28)).alloc (.cells #[.int .i64 0, .int .i64 0] 28)).alloc (.cells #[.int .i64 x, .int .i64 y] 28)) (w.heap.size + 1 + 1) (x, y) := ⟨heap_new hs2⟩
        have hZ : (((w.alloc (.cells #[.int .i64 x, .int .i64 y] 28)).alloc (.cells #[.int .i64 0, .int .i64 0] 28)).alloc (.cells #[.int .i64 x, .int .i64 y] 28)).heap[w.heap.size + 1]? = some (.cells #[.int .i64 0, .int .i64 0] 28 (0, 0)) := heap_old (heap_new hs1)
        have c0 : (w.alloc (.cells #[.int .i64 x, .int .i64 y] 28)).cell? ⟨w.heap.size, 0, none⟩ = some (.int .i64 x) := (clB_new (w := w) (x, y)).c0
        have c1 : (w.alloc (.cells #[.int .i64 x, .int .i64 y] 28)).cell? ⟨w.heap.size, 1, none⟩ = some (.int .i64 y) := (clB_new (w := w) (x, y)).c1
        have c0a : ∀ o, ((w.alloc (.cells #[.int .i64 x, .int .i64 y] 28)).alloc o).cell? ⟨w.heap.size, 0, none⟩ = some (.int .i64 x) := fun o => (World.cell?_alloc_lt _ o _ (block_lt_of_cell c0)).trans c0
        have c1a : ∀ o, ((w.alloc (.cells #[.int .i64 x, .int .i64 y] 28)).alloc o).cell? ⟨w.heap.size, 1, none⟩ = some (.int .i64 y) := fun o => (World.cell?_alloc_lt _ o _ (block_lt_of_cell c1)).trans c1
        have c0b : ∀ o o', (((w.alloc (.cells #[.int .i64 x, .int .i64 y] 28)).alloc o).alloc o').cell? ⟨w.heap.size, 0, none⟩ = some (.int .i64 x) := fun o o' => (World.cell?_alloc_lt _ o' _ (block_lt_of_cell (c0a o))).trans (c0a o)
        have c1b : ∀ o o', (((w.alloc (.cells #[.int .i64 x, .int .i64 y] 28)).alloc o).alloc o').cell? ⟨w.heap.size, 1, none⟩ = some (.int .i64 y) := fun o o' => (World.cell?_alloc_lt _ o' _ (block_lt_of_cell (c1a o))).trans (c1a o)
        have HD := Lib.hid hD
        have HZ := Lib.hid hZ
        have HB := Lib.hid hal3
        clear hal1 hal2 hal3 hs1 hs2 hD hZ
        go_enter Tryz.func81, Tryz.ntmps81
        go_wp2_with fail
        clear c0 c1 c0a c1a c0b c1b
        generalize (((w.alloc (.cells #[.int .i64 x, .int .i64 y] 28)).alloc (.cells #[.int .i64 0, .int .i64 0] 28)).alloc (.cells #[.int .i64 x, .int .i64 y] 28)) = w3 at *
        have hDd := HD.out.below (below_drew w3)
        have hZd := ((below_drew w3).block _ (lt_heap6 HZ.out)).trans HZ.out
        have hBd := Qt.more HB.out HB.out.size (below_drew w3)
        have HC0 := Lib.hid (show Below w.heap.size w w3.drew ∧ ClB w3.drew (w.heap.size + 1 + 1) (x, y) from ⟨hBd, hDd⟩)
        have hB2 := below_set2c hBd (by omega : w.heap.size ≤ w.heap.size + 1) (.int .i64 x) (.int .i64 y)
        have HC3 := Lib.hid (show Below w.heap.size w ((w3.drew.setCell ⟨w.heap.size + 1, 0, none⟩ (.int .i64 x)).setCell ⟨w.heap.size + 1, 1, none⟩ (.int .i64 y)) ∧ ClB ((w3.drew.setCell ⟨w.heap.size + 1, 0, none⟩ (.int .i64 x)).setCell ⟨w.heap.size + 1, 1, none⟩ (.int .i64 y)) (w.heap.size + 1 + 1) (x, y) from
          ⟨hB2, ⟨((Below.heap_setCell _ _ _ _ (by show w.heap.size + 1 + 1 ≠ w.heap.size + 1; omega)).trans (Below.heap_setCell _ _ _ _ (by show w.heap.size + 1 + 1 ≠ w.heap.size + 1; omega))).trans hDd.row⟩⟩)
        have HT := Lib.hid (show ((w3.drew.setCell ⟨w.heap.size + 1, 0, none⟩ (.int .i64 x)).setCell ⟨w.heap.size + 1, 1, none⟩ (.int .i64 y)).heap[w.heap.size + 1]? = some (.cells #[.int .i64 x, .int .i64 y] 28 (0, 0)) ∧ Below w.heap.size w ((w3.drew.setCell ⟨w.heap.size + 1, 0, none⟩ (.int .i64 x)).setCell ⟨w.heap.size + 1, 1, none⟩ (.int .i64 y)) from ⟨by simp [World.setCell, Array.getElem?_modify, hZd], hB2⟩)
        have g0 : w3.drew.cell? ⟨w.heap.size + 1, 0, none⟩ = some (.int .i64 0) := by rw [Lib.cell_of_heap hZd]; rfl
        have g1 : w3.drew.cell? ⟨w.heap.size + 1, 1, none⟩ = some (.int .i64 0) := by rw [Lib.cell_of_heap hZd]; rfl
        have f0 : w3.drew.frozen? ⟨w.heap.size + 1, 0, none⟩ = false := Lib.frozen_of_heap hZd 0
        have f1 : w3.drew.frozen? ⟨w.heap.size + 1, 1, none⟩ = false := Lib.frozen_of_heap hZd 1
        clear hDd hZd hBd hB2
        refine region_calm_to (fun W => Below w.heap.size w W ∧ ClB W (w.heap.size + 1 + 1) (x, y)) (fun (a0 a9 : Act) (w9 : World) => a9 = (((a0.put (some 41) (.int .i64 0)).put (some 42) (.agg #[.int .i64 x, .int .i64 y])).put (some 4) (.int .i64 0)) ∧ (Hid (w9.heap[w.heap.size + 1]? = some (.cells #[.int .i64 x, .int .i64 y] 28 (0, 0)) ∧ Below w.heap.size w w9))) (.calm 0 (.calm 1 (.calm 2 (.only 3 .done)))) (by kernel_rfl) (by kernel_rfl) (by kernel_rfl) (by rfl) HC0.out ?_ ?_
        · skip
          generalize w3.drew = wd at *
          refine ⟨_, _, (.int .i64 0), rfl, rfl, ⟨rfl, fun W hW => by first | exact ⟨rfl, rfl⟩ | (simp only [Act.eval, execOp]; go_simp; try exact ⟨rfl, rfl⟩)⟩, ?_⟩
          simp only [Act.put, List.getElem_toArray, List.getElem_cons_zero, List.getElem_cons_succ, List.setIfInBounds_toArray, List.set_cons_succ, List.set_cons_zero]
          refine ⟨_, _, (.agg #[.int .i64 x, .int .i64 y]), rfl, rfl, ⟨rfl, fun W hW => by have s0 := hW.2.c0; have s1 := hW.2.c1; simp only at s0 s1; simp only [execOp]; go_simp; done⟩, ?_⟩
          simp only [Act.put, List.getElem_toArray, List.getElem_cons_zero, List.getElem_cons_succ, List.setIfInBounds_toArray, List.set_cons_succ, List.set_cons_zero]
          refine ⟨_, _, (.int .i64 0), rfl, rfl, ⟨rfl, fun W hW => by first | exact ⟨rfl, rfl⟩ | (simp only [Act.eval, execOp]; go_simp; try exact ⟨rfl, rfl⟩)⟩, ?_⟩
          simp only [Act.put, List.getElem_toArray, List.getElem_cons_zero, List.getElem_cons_succ, List.setIfInBounds_toArray, List.set_cons_succ, List.set_cons_zero]
          refine ⟨_, rfl, ?_⟩
          go_wp2_with fail
          refine ⟨rfl, HC3.out, ?_⟩
          refine ⟨?_, HT⟩
          first | rfl | simp only [Act.put, List.getElem_toArray, List.getElem_cons_zero, List.getElem_cons_succ, List.setIfInBounds_toArray, List.set_cons_succ, List.set_cons_zero]
        rintro a9 w9 ⟨rfl, HF⟩
        simp only [Act.put, List.setIfInBounds_toArray, List.set_cons_succ, List.set_cons_zero]
        clear HT HC0 HC3 g0 g1 f0 f1
        go_wp2_with fail
        refine bodyPost_ret (results_cellb rfl _ _ _ _ _ _ _ rfl HF.out.1 Tryz.underlying28 rfl (by kernel_rfl)) rfl ?_
        exact ⟨rfl, HF.out.2⟩
  · obtain ⟨hp1, hp2⟩ := pow_bd7 (e := k) (by omega)
    rw [show ((k + 1 : Nat) : Int) + 1 = (k : Int) + 2 by omega]
    have hadd : (k : Int) + 2 - 2 = (k : Int) := by omega
    have hwk : IntKind.i64.wrap ((k : Int)) = (k : Int) := by rw [IntKind.wrap_i64]; omega
    have hgt : (1 : Int) < (k : Int) + 2 := by omega
    have hk60 : (k : Int) ≤ 60 := by omega
    have hw1 : IntKind.i64.wrap (x + 2 ^ k) = x + 2 ^ k := by rw [IntKind.wrap_i64]; generalize (2 : Int) ^ k = P at *; omega
    have hw2 : IntKind.i64.wrap (y + 2 ^ k) = y + 2 ^ k := by rw [IntKind.wrap_i64]; generalize (2 : Int) ^ k = P at *; omega
    have hw3 : IntKind.i64.wrap (x - 2 ^ k) = x - 2 ^ k := by rw [IntKind.wrap_i64]; generalize (2 : Int) ^ k = P at *; omega
    have hw4 : IntKind.i64.wrap (y - 2 ^ k) = y - 2 ^ k := by rw [IntKind.wrap_i64]; generalize (2 : Int) ^ k = P at *; omega
    by_cases hx : 0 ≤ x
    · by_cases hy : 0 ≤ y
      · rw [show qrK (x, y) = 3 by unfold qrK; simp only [if_pos hx, if_pos hy], show qrD (k + 1) (x, y) = (x - 2 ^ k, y - 2 ^ k) by unfold qrD hfK; simp only [if_pos hx, if_pos hy]]
        have hal1 := (Below.refl w.heap.size w).alloc (Nat.le_refl _) (.cells #[.int .i64 x, .int .i64 y] 28)
        have hal2 := hal1.alloc hal1.size (.cells #[.int .i64 0, .int .i64 0] 28)
        have hal3 := hal2.alloc hal2.size (.cells #[.int .i64 (x - 2 ^ k), .int .i64 (y - 2 ^ k)] 28)
        have hs1 : (w.alloc (.cells #[.int .i64 x, .int .i64 y] 28)).heap.size = w.heap.size + 1 := by simp
        have hs2 : ((w.alloc (.cells #[.int .i64 x, .int .i64 y] 28)).alloc (.cells #[.int .i64 0, .int .i64 0] 28)).heap.size = w.heap.size + 1 + 1 := by simp
        have hD : ClB (((w.alloc (.cells #[.int .i64 x, .int .i64 y] 28)).alloc (.cells #[.int .i64 0, .int .i64 0] 28)).alloc (.cells #[.int .i64 (x - 2 ^ k), .int .i64 (y - 2 ^ k)] 28)) (w.heap.size + 1 + 1) ((x - 2 ^ k), (y - 2 ^ k)) := ⟨heap_new hs2⟩
        have hZ : (((w.alloc (.cells #[.int .i64 x, .int .i64 y] 28)).alloc (.cells #[.int .i64 0, .int .i64 0] 28)).alloc (.cells #[.int .i64 (x - 2 ^ k), .int .i64 (y - 2 ^ k)] 28)).heap[w.heap.size + 1]? = some (.cells #[.int .i64 0, .int .i64 0] 28 (0, 0)) := heap_old (heap_new hs1)
        have c0 : (w.alloc (.cells #[.int .i64 x, .int .i64 y] 28)).cell? ⟨w.heap.size, 0, none⟩ = some (.int .i64 x) := (clB_new (w := w) (x, y)).c0
        have c1 : (w.alloc (.cells #[.int .i64 x, .int .i64 y] 28)).cell? ⟨w.heap.size, 1, none⟩ = some (.int .i64 y) := (clB_new (w := w) (x, y)).c1
        have c0a : ∀ o, ((w.alloc (.cells #[.int .i64 x, .int .i64 y] 28)).alloc o).cell? ⟨w.heap.size, 0, none⟩ = some (.int .i64 x) := fun o => (World.cell?_alloc_lt _ o _ (block_lt_of_cell c0)).trans c0
        have c1a : ∀ o, ((w.alloc (.cells #[.int .i64 x, .int .i64 y] 28)).alloc o).cell? ⟨w.heap.size, 1, none⟩ = some (.int .i64 y) := fun o => (World.cell?_alloc_lt _ o _ (block_lt_of_cell c1)).trans c1
        have c0b : ∀ o o', (((w.alloc (.cells #[.int .i64 x, .int .i64 y] 28)).alloc o).alloc o').cell? ⟨w.heap.size, 0, none⟩ = some (.int .i64 x) := fun o o' => (World.cell?_alloc_lt _ o' _ (block_lt_of_cell (c0a o))).trans (c0a o)
        have c1b : ∀ o o', (((w.alloc (.cells #[.int .i64 x, .int .i64 y] 28)).alloc o).alloc o').cell? ⟨w.heap.size, 1, none⟩ = some (.int .i64 y) := fun o o' => (World.cell?_alloc_lt _ o' _ (block_lt_of_cell (c1a o))).trans (c1a o)
        have HD := Lib.hid hD
        have HZ := Lib.hid hZ
        have HB := Lib.hid hal3
        clear hal1 hal2 hal3 hs1 hs2 hD hZ
        go_enter Tryz.func81, Tryz.ntmps81
        go_wp2_with fail
        clear c0 c1 c0a c1a c0b c1b
        generalize (((w.alloc (.cells #[.int .i64 x, .int .i64 y] 28)).alloc (.cells #[.int .i64 0, .int .i64 0] 28)).alloc (.cells #[.int .i64 (x - 2 ^ k), .int .i64 (y - 2 ^ k)] 28)) = w3 at *
        have hDd := HD.out.below (below_drew w3)
        have hZd := ((below_drew w3).block _ (lt_heap6 HZ.out)).trans HZ.out
        have hBd := Qt.more HB.out HB.out.size (below_drew w3)
        have HC0 := Lib.hid (show Below w.heap.size w w3.drew ∧ ClB w3.drew (w.heap.size + 1 + 1) ((x - 2 ^ k), (y - 2 ^ k)) from ⟨hBd, hDd⟩)
        have hB2 := below_set2c hBd (by omega : w.heap.size ≤ w.heap.size + 1) (.int .i64 (x - 2 ^ k)) (.int .i64 (y - 2 ^ k))
        have HC3 := Lib.hid (show Below w.heap.size w ((w3.drew.setCell ⟨w.heap.size + 1, 0, none⟩ (.int .i64 (x - 2 ^ k))).setCell ⟨w.heap.size + 1, 1, none⟩ (.int .i64 (y - 2 ^ k))) ∧ ClB ((w3.drew.setCell ⟨w.heap.size + 1, 0, none⟩ (.int .i64 (x - 2 ^ k))).setCell ⟨w.heap.size + 1, 1, none⟩ (.int .i64 (y - 2 ^ k))) (w.heap.size + 1 + 1) ((x - 2 ^ k), (y - 2 ^ k)) from
          ⟨hB2, ⟨((Below.heap_setCell _ _ _ _ (by show w.heap.size + 1 + 1 ≠ w.heap.size + 1; omega)).trans (Below.heap_setCell _ _ _ _ (by show w.heap.size + 1 + 1 ≠ w.heap.size + 1; omega))).trans hDd.row⟩⟩)
        have HT := Lib.hid (show ((w3.drew.setCell ⟨w.heap.size + 1, 0, none⟩ (.int .i64 (x - 2 ^ k))).setCell ⟨w.heap.size + 1, 1, none⟩ (.int .i64 (y - 2 ^ k))).heap[w.heap.size + 1]? = some (.cells #[.int .i64 (x - 2 ^ k), .int .i64 (y - 2 ^ k)] 28 (0, 0)) ∧ Below w.heap.size w ((w3.drew.setCell ⟨w.heap.size + 1, 0, none⟩ (.int .i64 (x - 2 ^ k))).setCell ⟨w.heap.size + 1, 1, none⟩ (.int .i64 (y - 2 ^ k))) from ⟨by simp [World.setCell, Array.getElem?_modify, hZd], hB2⟩)
        have g0 : w3.drew.cell? ⟨w.heap.size + 1, 0, none⟩ = some (.int .i64 0) := by rw [Lib.cell_of_heap hZd]; rfl
        have g1 : w3.drew.cell? ⟨w.heap.size + 1, 1, none⟩ = some (.int .i64 0) := by rw [Lib.cell_of_heap hZd]; rfl
        have f0 : w3.drew.frozen? ⟨w.heap.size + 1, 0, none⟩ = false := Lib.frozen_of_heap hZd 0
        have f1 : w3.drew.frozen? ⟨w.heap.size + 1, 1, none⟩ = false := Lib.frozen_of_heap hZd 1
        clear hDd hZd hBd hB2
        refine region_calm_to (fun W => Below w.heap.size w W ∧ ClB W (w.heap.size + 1 + 1) ((x - 2 ^ k), (y - 2 ^ k))) (fun (a0 a9 : Act) (w9 : World) => a9 = (((a0.put (some 41) (.int .i64 3)).put (some 42) (.agg #[.int .i64 (x - 2 ^ k), .int .i64 (y - 2 ^ k)])).put (some 4) (.int .i64 3)) ∧ (Hid (w9.heap[w.heap.size + 1]? = some (.cells #[.int .i64 (x - 2 ^ k), .int .i64 (y - 2 ^ k)] 28 (0, 0)) ∧ Below w.heap.size w w9))) (.calm 0 (.calm 1 (.calm 2 (.only 3 .done)))) (by kernel_rfl) (by kernel_rfl) (by kernel_rfl) (by rfl) HC0.out ?_ ?_
        · skip
          generalize w3.drew = wd at *
          refine ⟨_, _, (.int .i64 3), rfl, rfl, ⟨rfl, fun W hW => by first | exact ⟨rfl, rfl⟩ | (simp only [Act.eval, execOp]; go_simp; try exact ⟨rfl, rfl⟩)⟩, ?_⟩
          simp only [Act.put, List.getElem_toArray, List.getElem_cons_zero, List.getElem_cons_succ, List.setIfInBounds_toArray, List.set_cons_succ, List.set_cons_zero]
          refine ⟨_, _, (.agg #[.int .i64 (x - 2 ^ k), .int .i64 (y - 2 ^ k)]), rfl, rfl, ⟨rfl, fun W hW => by have s0 := hW.2.c0; have s1 := hW.2.c1; simp only at s0 s1; simp only [execOp]; go_simp; done⟩, ?_⟩
          simp only [Act.put, List.getElem_toArray, List.getElem_cons_zero, List.getElem_cons_succ, List.setIfInBounds_toArray, List.set_cons_succ, List.set_cons_zero]
          refine ⟨_, _, (.int .i64 3), rfl, rfl, ⟨rfl, fun W hW => by first | exact ⟨rfl, rfl⟩ | (simp only [Act.eval, execOp]; go_simp; try exact ⟨rfl, rfl⟩)⟩, ?_⟩
          simp only [Act.put, List.getElem_toArray, List.getElem_cons_zero, List.getElem_cons_succ, List.setIfInBounds_toArray, List.set_cons_succ, List.set_cons_zero]
          refine ⟨_, rfl, ?_⟩
          go_wp2_with fail
          refine ⟨rfl, HC3.out, ?_⟩
          refine ⟨?_, HT⟩
          first | rfl | simp only [Act.put, List.getElem_toArray, List.getElem_cons_zero, List.getElem_cons_succ, List.setIfInBounds_toArray, List.set_cons_succ, List.set_cons_zero]
        rintro a9 w9 ⟨rfl, HF⟩
        simp only [Act.put, List.setIfInBounds_toArray, List.set_cons_succ, List.set_cons_zero]
        clear HT HC0 HC3 g0 g1 f0 f1
        go_wp2_with fail
        refine bodyPost_ret (results_cellb rfl _ _ _ _ _ _ _ rfl HF.out.1 Tryz.underlying28 rfl (by kernel_rfl)) rfl ?_
        exact ⟨rfl, HF.out.2⟩
      · rw [show qrK (x, y) = 1 by unfold qrK; simp only [if_pos hx, if_neg hy], show qrD (k + 1) (x, y) = (x - 2 ^ k, y + 2 ^ k) by unfold qrD hfK; simp only [if_pos hx, if_neg hy]]
        have hal1 := (Below.refl w.heap.size w).alloc (Nat.le_refl _) (.cells #[.int .i64 x, .int .i64 y] 28)
        have hal2 := hal1.alloc hal1.size (.cells #[.int .i64 0, .int .i64 0] 28)
        have hal3 := hal2.alloc hal2.size (.cells #[.int .i64 (x - 2 ^ k), .int .i64 (y + 2 ^ k)] 28)
        have hs1 : (w.alloc (.cells #[.int .i64 x, .int .i64 y] 28)).heap.size = w.heap.size + 1 := by simp
        have hs2 : ((w.alloc (.cells #[.int .i64 x, .int .i64 y] 28)).alloc (.cells #[.int .i64 0, .int .i64 0] 28)).heap.size = w.heap.size + 1 + 1 := by simp
        have hD : ClB (((w.alloc (.cells #[.int .i64 x, .int .i64 y] 28)).alloc (.cells #[.int .i64 0, .int .i64 0] 28)).alloc (.cells #[.int .i64 (x - 2 ^ k), .int .i64 (y + 2 ^ k)] 28)) (w.heap.size + 1 + 1) ((x - 2 ^ k), (y + 2 ^ k)) := ⟨heap_new hs2⟩
        have hZ : (((w.alloc (.cells #[.int .i64 x, .int .i64 y] 28)).alloc (.cells #[.int .i64 0, .int .i64 0] 28)).alloc (.cells #[.int .i64 (x - 2 ^ k), .int .i64 (y + 2 ^ k)] 28)).heap[w.heap.size + 1]? = some (.cells #[.int .i64 0, .int .i64 0] 28 (0, 0)) := heap_old (heap_new hs1)
        have c0 : (w.alloc (.cells #[.int .i64 x, .int .i64 y] 28)).cell? ⟨w.heap.size, 0, none⟩ = some (.int .i64 x) := (clB_new (w := w) (x, y)).c0
        have c1 : (w.alloc (.cells #[.int .i64 x, .int .i64 y] 28)).cell? ⟨w.heap.size, 1, none⟩ = some (.int .i64 y) := (clB_new (w := w) (x, y)).c1
        have c0a : ∀ o, ((w.alloc (.cells #[.int .i64 x, .int .i64 y] 28)).alloc o).cell? ⟨w.heap.size, 0, none⟩ = some (.int .i64 x) := fun o => (World.cell?_alloc_lt _ o _ (block_lt_of_cell c0)).trans c0
        have c1a : ∀ o, ((w.alloc (.cells #[.int .i64 x, .int .i64 y] 28)).alloc o).cell? ⟨w.heap.size, 1, none⟩ = some (.int .i64 y) := fun o => (World.cell?_alloc_lt _ o _ (block_lt_of_cell c1)).trans c1
        have c0b : ∀ o o', (((w.alloc (.cells #[.int .i64 x, .int .i64 y] 28)).alloc o).alloc o').cell? ⟨w.heap.size, 0, none⟩ = some (.int .i64 x) := fun o o' => (World.cell?_alloc_lt _ o' _ (block_lt_of_cell (c0a o))).trans (c0a o)
        have c1b : ∀ o o', (((w.alloc (.cells #[.int .i64 x, .int .i64 y] 28)).alloc o).alloc o').cell? ⟨w.heap.size, 1, none⟩ = some (.int .i64 y) := fun o o' => (World.cell?_alloc_lt _ o' _ (block_lt_of_cell (c1a o))).trans (c1a o)
        have HD := Lib.hid hD
        have HZ := Lib.hid hZ
        have HB := Lib.hid hal3
        clear hal1 hal2 hal3 hs1 hs2 hD hZ
        go_enter Tryz.func81, Tryz.ntmps81
        go_wp2_with fail
        clear c0 c1 c0a c1a c0b c1b
        generalize (((w.alloc (.cells #[.int .i64 x, .int .i64 y] 28)).alloc (.cells #[.int .i64 0, .int .i64 0] 28)).alloc (.cells #[.int .i64 (x - 2 ^ k), .int .i64 (y + 2 ^ k)] 28)) = w3 at *
        have hDd := HD.out.below (below_drew w3)
        have hZd := ((below_drew w3).block _ (lt_heap6 HZ.out)).trans HZ.out
        have hBd := Qt.more HB.out HB.out.size (below_drew w3)
        have HC0 := Lib.hid (show Below w.heap.size w w3.drew ∧ ClB w3.drew (w.heap.size + 1 + 1) ((x - 2 ^ k), (y + 2 ^ k)) from ⟨hBd, hDd⟩)
        have hB2 := below_set2c hBd (by omega : w.heap.size ≤ w.heap.size + 1) (.int .i64 (x - 2 ^ k)) (.int .i64 (y + 2 ^ k))
        have HC3 := Lib.hid (show Below w.heap.size w ((w3.drew.setCell ⟨w.heap.size + 1, 0, none⟩ (.int .i64 (x - 2 ^ k))).setCell ⟨w.heap.size + 1, 1, none⟩ (.int .i64 (y + 2 ^ k))) ∧ ClB ((w3.drew.setCell ⟨w.heap.size + 1, 0, none⟩ (.int .i64 (x - 2 ^ k))).setCell ⟨w.heap.size + 1, 1, none⟩ (.int .i64 (y + 2 ^ k))) (w.heap.size + 1 + 1) ((x - 2 ^ k), (y + 2 ^ k)) from
          ⟨hB2, ⟨((Below.heap_setCell _ _ _ _ (by show w.heap.size + 1 + 1 ≠ w.heap.size + 1; omega)).trans (Below.heap_setCell _ _ _ _ (by show w.heap.size + 1 + 1 ≠ w.heap.size + 1; omega))).trans hDd.row⟩⟩)
        have HT := Lib.hid (show ((w3.drew.setCell ⟨w.heap.size + 1, 0, none⟩ (.int .i64 (x - 2 ^ k))).setCell ⟨w.heap.size + 1, 1, none⟩ (.int .i64 (y + 2 ^ k))).heap[w.heap.size + 1]? = some (.cells #[.int .i64 (x - 2 ^ k), .int .i64 (y + 2 ^ k)] 28 (0, 0)) ∧ Below w.heap.size w ((w3.drew.setCell ⟨w.heap.size + 1, 0, none⟩ (.int .i64 (x - 2 ^ k))).setCell ⟨w.heap.size + 1, 1, none⟩ (.int .i64 (y + 2 ^ k))) from ⟨by simp [World.setCell, Array.getElem?_modify, hZd], hB2⟩)
        have g0 : w3.drew.cell? ⟨w.heap.size + 1, 0, none⟩ = some (.int .i64 0) := by rw [Lib.cell_of_heap hZd]; rfl
        have g1 : w3.drew.cell? ⟨w.heap.size + 1, 1, none⟩ = some (.int .i64 0) := by rw [Lib.cell_of_heap hZd]; rfl
        have f0 : w3.drew.frozen? ⟨w.heap.size + 1, 0, none⟩ = false := Lib.frozen_of_heap hZd 0
        have f1 : w3.drew.frozen? ⟨w.heap.size + 1, 1, none⟩ = false := Lib.frozen_of_heap hZd 1
        clear hDd hZd hBd hB2
        refine region_calm_to (fun W => Below w.heap.size w W ∧ ClB W (w.heap.size + 1 + 1) ((x - 2 ^ k), (y + 2 ^ k))) (fun (a0 a9 : Act) (w9 : World) => a9 = (((a0.put (some 41) (.int .i64 1)).put (some 42) (.agg #[.int .i64 (x - 2 ^ k), .int .i64 (y + 2 ^ k)])).put (some 4) (.int .i64 1)) ∧ (Hid (w9.heap[w.heap.size + 1]? = some (.cells #[.int .i64 (x - 2 ^ k), .int .i64 (y + 2 ^ k)] 28 (0, 0)) ∧ Below w.heap.size w w9))) (.calm 0 (.calm 1 (.calm 2 (.only 3 .done)))) (by kernel_rfl) (by kernel_rfl) (by kernel_rfl) (by rfl) HC0.out ?_ ?_
        · skip
          generalize w3.drew = wd at *
          refine ⟨_, _, (.int .i64 1), rfl, rfl, ⟨rfl, fun W hW => by first | exact ⟨rfl, rfl⟩ | (simp only [Act.eval, execOp]; go_simp; try exact ⟨rfl, rfl⟩)⟩, ?_⟩
          simp only [Act.put, List.getElem_toArray, List.getElem_cons_zero, List.getElem_cons_succ, List.setIfInBounds_toArray, List.set_cons_succ, List.set_cons_zero]
          refine ⟨_, _, (.agg #[.int .i64 (x - 2 ^ k), .int .i64 (y + 2 ^ k)]), rfl, rfl, ⟨rfl, fun W hW => by have s0 := hW.2.c0; have s1 := hW.2.c1; simp only at s0 s1; simp only [execOp]; go_simp; done⟩, ?_⟩
          simp only [Act.put, List.getElem_toArray, List.getElem_cons_zero, List.getElem_cons_succ, List.setIfInBounds_toArray, List.set_cons_succ, List.set_cons_zero]
          refine ⟨_, _, (.int .i64 1), rfl, rfl, ⟨rfl, fun W hW => by first | exact ⟨rfl, rfl⟩ | (simp only [Act.eval, execOp]; go_simp; try exact ⟨rfl, rfl⟩)⟩, ?_⟩
          simp only [Act.put, List.getElem_toArray, List.getElem_cons_zero, List.getElem_cons_succ, List.setIfInBounds_toArray, List.set_cons_succ, List.set_cons_zero]
          refine ⟨_, rfl, ?_⟩
          go_wp2_with fail
          refine ⟨rfl, HC3.out, ?_⟩
          refine ⟨?_, HT⟩
          first | rfl | simp only [Act.put, List.getElem_toArray, List.getElem_cons_zero, List.getElem_cons_succ, List.setIfInBounds_toArray, List.set_cons_succ, List.set_cons_zero]
        rintro a9 w9 ⟨rfl, HF⟩
        simp only [Act.put, List.setIfInBounds_toArray, List.set_cons_succ, List.set_cons_zero]
        clear HT HC0 HC3 g0 g1 f0 f1
        go_wp2_with fail
        refine bodyPost_ret (results_cellb rfl _ _ _ _ _ _ _ rfl HF.out.1 Tryz.underlying28 rfl (by kernel_rfl)) rfl ?_
        exact ⟨rfl, HF.out.2⟩
    · by_cases hy : 0 ≤ y
      · rw [show qrK (x, y) = 2 by unfold qrK; simp only [if_neg hx, if_pos hy], show qrD (k + 1) (x, y) = (x + 2 ^ k, y - 2 ^ k) by unfold qrD hfK; simp only [if_neg hx, if_pos hy]]
        have hal1 := (Below.refl w.heap.size w).alloc (Nat.le_refl _) (.cells #[.int .i64 x, .int .i64 y] 28)
        have hal2 := hal1.alloc hal1.size (.cells #[.int .i64 0, .int .i64 0] 28)
        have hal3 := hal2.alloc hal2.size (.cells #[.int .i64 (x + 2 ^ k), .int .i64 (y - 2 ^ k)] 28)
        have hs1 : (w.alloc (.cells #[.int .i64 x, .int .i64 y] 28)).heap.size = w.heap.size + 1 := by simp
        have hs2 : ((w.alloc (.cells #[.int .i64 x, .int .i64 y] 28)).alloc (.cells #[.int .i64 0, .int .i64 0] 28)).heap.size = w.heap.size + 1 + 1 := by simp
        have hD : ClB (((w.alloc (.cells #[.int .i64 x, .int .i64 y] 28)).alloc (.cells #[.int .i64 0, .int .i64 0] 28)).alloc (.cells #[.int .i64 (x + 2 ^ k), .int .i64 (y - 2 ^ k)] 28)) (w.heap.size + 1 + 1) ((x + 2 ^ k), (y - 2 ^ k)) := ⟨heap_new hs2⟩
        have hZ : (((w.alloc (.cells #[.int .i64 x, .int .i64 y] 28)).alloc (.cells #[.int .i64 0, .int .i64 0] 28)).alloc (.cells #[.int .i64 (x + 2 ^ k), .int .i64 (y - 2 ^ k)] 28)).heap[w.heap.size + 1]? = some (.cells #[.int .i64 0, .int .i64 0] 28 (0, 0)) := heap_old (heap_new hs1)
        have c0 : (w.alloc (.cells #[.int .i64 x, .int .i64 y] 28)).cell? ⟨w.heap.size, 0, none⟩ = some (.int .i64 x) := (clB_new (w := w) (x, y)).c0
        have c1 : (w.alloc (.cells #[.int .i64 x, .int .i64 y] 28)).cell? ⟨w.heap.size, 1, none⟩ = some (.int .i64 y) := (clB_new (w := w) (x, y)).c1
        have c0a : ∀ o, ((w.alloc (.cells #[.int .i64 x, .int .i64 y] 28)).alloc o).cell? ⟨w.heap.size, 0, none⟩ = some (.int .i64 x) := fun o => (World.cell?_alloc_lt _ o _ (block_lt_of_cell c0)).trans c0
        have c1a : ∀ o, ((w.alloc (.cells #[.int .i64 x, .int .i64 y] 28)).alloc o).cell? ⟨w.heap.size, 1, none⟩ = some (.int .i64 y) := fun o => (World.cell?_alloc_lt _ o _ (block_lt_of_cell c1)).trans c1
        have c0b : ∀ o o', (((w.alloc (.cells #[.int .i64 x, .int .i64 y] 28)).alloc o).alloc o').cell? ⟨w.heap.size, 0, none⟩ = some (.int .i64 x) := fun o o' => (World.cell?_alloc_lt _ o' _ (block_lt_of_cell (c0a o))).trans (c0a o)
        have c1b : ∀ o o', (((w.alloc (.cells #[.int .i64 x, .int .i64 y] 28)).alloc o).alloc o').cell? ⟨w.heap.size, 1, none⟩ = some (.int .i64 y) := fun o o' => (World.cell?_alloc_lt _ o' _ (block_lt_of_cell (c1a o))).trans (c1a o)
        have HD := Lib.hid hD
        have HZ := Lib.hid hZ
        have HB := Lib.hid hal3
        clear hal1 hal2 hal3 hs1 hs2 hD hZ
        go_enter Tryz.func81, Tryz.ntmps81
        go_wp2_with fail
        clear c0 c1 c0a c1a c0b c1b
        generalize (((w.alloc (.cells #[.int .i64 x, .int .i64 y] 28)).alloc (.cells #[.int .i64 0, .int .i64 0] 28)).alloc (.cells #[.int .i64 (x + 2 ^ k), .int .i64 (y - 2 ^ k)] 28)) = w3 at *
        have hDd := HD.out.below (below_drew w3)
        have hZd := ((below_drew w3).block _ (lt_heap6 HZ.out)).trans HZ.out
        have hBd := Qt.more HB.out HB.out.size (below_drew w3)
        have HC0 := Lib.hid (show Below w.heap.size w w3.drew ∧ ClB w3.drew (w.heap.size + 1 + 1) ((x + 2 ^ k), (y - 2 ^ k)) from ⟨hBd, hDd⟩)
        have hB2 := below_set2c hBd (by omega : w.heap.size ≤ w.heap.size + 1) (.int .i64 (x + 2 ^ k)) (.int .i64 (y - 2 ^ k))
        have HC3 := Lib.hid (show Below w.heap.size w ((w3.drew.setCell ⟨w.heap.size + 1, 0, none⟩ (.int .i64 (x + 2 ^ k))).setCell ⟨w.heap.size + 1, 1, none⟩ (.int .i64 (y - 2 ^ k))) ∧ ClB ((w3.drew.setCell ⟨w.heap.size + 1, 0, none⟩ (.int .i64 (x + 2 ^ k))).setCell ⟨w.heap.size + 1, 1, none⟩ (.int .i64 (y - 2 ^ k))) (w.heap.size + 1 + 1) ((x + 2 ^ k), (y - 2 ^ k)) from
          ⟨hB2, ⟨((Below.heap_setCell _ _ _ _ (by show w.heap.size + 1 + 1 ≠ w.heap.size + 1; omega)).trans (Below.heap_setCell _ _ _ _ (by show w.heap.size + 1 + 1 ≠ w.heap.size + 1; omega))).trans hDd.row⟩⟩)
        have HT := Lib.hid (show ((w3.drew.setCell ⟨w.heap.size + 1, 0, none⟩ (.int .i64 (x + 2 ^ k))).setCell ⟨w.heap.size + 1, 1, none⟩ (.int .i64 (y - 2 ^ k))).heap[w.heap.size + 1]? = some (.cells #[.int .i64 (x + 2 ^ k), .int .i64 (y - 2 ^ k)] 28 (0, 0)) ∧ Below w.heap.size w ((w3.drew.setCell ⟨w.heap.size + 1, 0, none⟩ (.int .i64 (x + 2 ^ k))).setCell ⟨w.heap.size + 1, 1, none⟩ (.int .i64 (y - 2 ^ k))) from ⟨by simp [World.setCell, Array.getElem?_modify, hZd], hB2⟩)
        have g0 : w3.drew.cell? ⟨w.heap.size + 1, 0, none⟩ = some (.int .i64 0) := by rw [Lib.cell_of_heap hZd]; rfl
        have g1 : w3.drew.cell? ⟨w.heap.size + 1, 1, none⟩ = some (.int .i64 0) := by rw [Lib.cell_of_heap hZd]; rfl
        have f0 : w3.drew.frozen? ⟨w.heap.size + 1, 0, none⟩ = false := Lib.frozen_of_heap hZd 0
        have f1 : w3.drew.frozen? ⟨w.heap.size + 1, 1, none⟩ = false := Lib.frozen_of_heap hZd 1
        clear hDd hZd hBd hB2
        refine region_calm_to (fun W => Below w.heap.size w W ∧ ClB W (w.heap.size + 1 + 1) ((x + 2 ^ k), (y - 2 ^ k))) (fun (a0 a9 : Act) (w9 : World) => a9 = (((a0.put (some 41) (.int .i64 2)).put (some 42) (.agg #[.int .i64 (x + 2 ^ k), .int .i64 (y - 2 ^ k)])).put (some 4) (.int .i64 2)) ∧ (Hid (w9.heap[w.heap.size + 1]? = some (.cells #[.int .i64 (x + 2 ^ k), .int .i64 (y - 2 ^ k)] 28 (0, 0)) ∧ Below w.heap.size w w9))) (.calm 0 (.calm 1 (.calm 2 (.only 3 .done)))) (by kernel_rfl) (by kernel_rfl) (by kernel_rfl) (by rfl) HC0.out ?_ ?_
        · skip
          generalize w3.drew = wd at *
          refine ⟨_, _, (.int .i64 2), rfl, rfl, ⟨rfl, fun W hW => by first | exact ⟨rfl, rfl⟩ | (simp only [Act.eval, execOp]; go_simp; try exact ⟨rfl, rfl⟩)⟩, ?_⟩
          simp only [Act.put, List.getElem_toArray, List.getElem_cons_zero, List.getElem_cons_succ, List.setIfInBounds_toArray, List.set_cons_succ, List.set_cons_zero]
          refine ⟨_, _, (.agg #[.int .i64 (x + 2 ^ k), .int .i64 (y - 2 ^ k)]), rfl, rfl, ⟨rfl, fun W hW => by have s0 := hW.2.c0; have s1 := hW.2.c1; simp only at s0 s1; simp only [execOp]; go_simp; done⟩, ?_⟩
          simp only [Act.put, List.getElem_toArray, List.getElem_cons_zero, List.getElem_cons_succ, List.setIfInBounds_toArray, List.set_cons_succ, List.set_cons_zero]
          refine ⟨_, _, (.int .i64 2), rfl, rfl, ⟨rfl, fun W hW => by first | exact ⟨rfl, rfl⟩ | (simp only [Act.eval, execOp]; go_simp; try exact ⟨rfl, rfl⟩)⟩, ?_⟩
          simp only [Act.put, List.getElem_toArray, List.getElem_cons_zero, List.getElem_cons_succ, List.setIfInBounds_toArray, List.set_cons_succ, List.set_cons_zero]
          refine ⟨_, rfl, ?_⟩
          go_wp2_with fail
          refine ⟨rfl, HC3.out, ?_⟩
          refine ⟨?_, HT⟩
          first | rfl | simp only [Act.put, List.getElem_toArray, List.getElem_cons_zero, List.getElem_cons_succ, List.setIfInBounds_toArray, List.set_cons_succ, List.set_cons_zero]
        rintro a9 w9 ⟨rfl, HF⟩
        simp only [Act.put, List.setIfInBounds_toArray, List.set_cons_succ, List.set_cons_zero]
        clear HT HC0 HC3 g0 g1 f0 f1
        go_wp2_with fail
        refine bodyPost_ret (results_cellb rfl _ _ _ _ _ _ _ rfl HF.out.1 Tryz.underlying28 rfl (by kernel_rfl)) rfl ?_
        exact ⟨rfl, HF.out.2⟩
      · rw [show qrK (x, y) = 0 by unfold qrK; simp only [if_neg hx, if_neg hy], show qrD (k + 1) (x, y) = (x + 2 ^ k, y + 2 ^ k) by unfold qrD hfK; simp only [if_neg hx, if_neg hy]]
        have hal1 := (Below.refl w.heap.size w).alloc (Nat.le_refl _) (.cells #[.int .i64 x, .int .i64 y] 28)
        have hal2 := hal1.alloc hal1.size (.cells #[.int .i64 0, .int .i64 0] 28)
        have hal3 := hal2.alloc hal2.size (.cells #[.int .i64 (x + 2 ^ k), .int .i64 (y + 2 ^ k)] 28)
        have hs1 : (w.alloc (.cells #[.int .i64 x, .int .i64 y] 28)).heap.size = w.heap.size + 1 := by simp
        have hs2 : ((w.alloc (.cells #[.int .i64 x, .int .i64 y] 28)).alloc (.cells #[.int .i64 0, .int .i64 0] 28)).heap.size = w.heap.size + 1 + 1 := by simp
        have hD : ClB (((w.alloc (.cells #[.int .i64 x, .int .i64 y] 28)).alloc (.cells #[.int .i64 0, .int .i64 0] 28)).alloc (.cells #[.int .i64 (x + 2 ^ k), .int .i64 (y + 2 ^ k)] 28)) (w.heap.size + 1 + 1) ((x + 2 ^ k), (y + 2 ^ k)) := ⟨heap_new hs2⟩
        have hZ : (((w.alloc (.cells #[.int .i64 x, .int .i64 y] 28)).alloc (.cells #[.int .i64 0, .int .i64 0] 28)).alloc (.cells #[.int .i64 (x + 2 ^ k), .int .i64 (y + 2 ^ k)] 28)).heap[w.heap.size + 1]? = some (.cells #[.int .i64 0, .int .i64 0] 28 (0, 0)) := heap_old (heap_new hs1)
        have c0 : (w.alloc (.cells #[.int .i64 x, .int .i64 y] 28)).cell? ⟨w.heap.size, 0, none⟩ = some (.int .i64 x) := (clB_new (w := w) (x, y)).c0
        have c1 : (w.alloc (.cells #[.int .i64 x, .int .i64 y] 28)).cell? ⟨w.heap.size, 1, none⟩ = some (.int .i64 y) := (clB_new (w := w) (x, y)).c1
        have c0a : ∀ o, ((w.alloc (.cells #[.int .i64 x, .int .i64 y] 28)).alloc o).cell? ⟨w.heap.size, 0, none⟩ = some (.int .i64 x) := fun o => (World.cell?_alloc_lt _ o _ (block_lt_of_cell c0)).trans c0
        have c1a : ∀ o, ((w.alloc (.cells #[.int .i64 x, .int .i64 y] 28)).alloc o).cell? ⟨w.heap.size, 1, none⟩ = some (.int .i64 y) := fun o => (World.cell?_alloc_lt _ o _ (block_lt_of_cell c1)).trans c1
        have c0b : ∀ o o', (((w.alloc (.cells #[.int .i64 x, .int .i64 y] 28)).alloc o).alloc o').cell? ⟨w.heap.size, 0, none⟩ = some (.int .i64 x) := fun o o' => (World.cell?_alloc_lt _ o' _ (block_lt_of_cell (c0a o))).trans (c0a o)
        have c1b : ∀ o o', (((w.alloc (.cells #[.int .i64 x, .int .i64 y] 28)).alloc o).alloc o').cell? ⟨w.heap.size, 1, none⟩ = some (.int .i64 y) := fun o o' => (World.cell?_alloc_lt _ o' _ (block_lt_of_cell (c1a o))).trans (c1a o)
        have HD := Lib.hid hD
        have HZ := Lib.hid hZ
        have HB := Lib.hid hal3
        clear hal1 hal2 hal3 hs1 hs2 hD hZ
        go_enter Tryz.func81, Tryz.ntmps81
        go_wp2_with fail
        clear c0 c1 c0a c1a c0b c1b
        generalize (((w.alloc (.cells #[.int .i64 x, .int .i64 y] 28)).alloc (.cells #[.int .i64 0, .int .i64 0] 28)).alloc (.cells #[.int .i64 (x + 2 ^ k), .int .i64 (y + 2 ^ k)] 28)) = w3 at *
        have hDd := HD.out.below (below_drew w3)
        have hZd := ((below_drew w3).block _ (lt_heap6 HZ.out)).trans HZ.out
        have hBd := Qt.more HB.out HB.out.size (below_drew w3)
        have HC0 := Lib.hid (show Below w.heap.size w w3.drew ∧ ClB w3.drew (w.heap.size + 1 + 1) ((x + 2 ^ k), (y + 2 ^ k)) from ⟨hBd, hDd⟩)
        have hB2 := below_set2c hBd (by omega : w.heap.size ≤ w.heap.size + 1) (.int .i64 (x + 2 ^ k)) (.int .i64 (y + 2 ^ k))
        have HC3 := Lib.hid (show Below w.heap.size w ((w3.drew.setCell ⟨w.heap.size + 1, 0, none⟩ (.int .i64 (x + 2 ^ k))).setCell ⟨w.heap.size + 1, 1, none⟩ (.int .i64 (y + 2 ^ k))) ∧ ClB ((w3.drew.setCell ⟨w.heap.size + 1, 0, none⟩ (.int .i64 (x + 2 ^ k))).setCell ⟨w.heap.size + 1, 1, none⟩ (.int .i64 (y + 2 ^ k))) (w.heap.size + 1 + 1) ((x + 2 ^ k), (y + 2 ^ k)) from
          ⟨hB2, ⟨((Below.heap_setCell _ _ _ _ (by show w.heap.size + 1 + 1 ≠ w.heap.size + 1; omega)).trans (Below.heap_setCell _ _ _ _ (by show w.heap.size + 1 + 1 ≠ w.heap.size + 1; omega))).trans hDd.row⟩⟩)
        have HT := Lib.hid (show ((w3.drew.setCell ⟨w.heap.size + 1, 0, none⟩ (.int .i64 (x + 2 ^ k))).setCell ⟨w.heap.size + 1, 1, none⟩ (.int .i64 (y + 2 ^ k))).heap[w.heap.size + 1]? = some (.cells #[.int .i64 (x + 2 ^ k), .int .i64 (y + 2 ^ k)] 28 (0, 0)) ∧ Below w.heap.size w ((w3.drew.setCell ⟨w.heap.size + 1, 0, none⟩ (.int .i64 (x + 2 ^ k))).setCell ⟨w.heap.size + 1, 1, none⟩ (.int .i64 (y + 2 ^ k))) from ⟨by simp [World.setCell, Array.getElem?_modify, hZd], hB2⟩)
        have g0 : w3.drew.cell? ⟨w.heap.size + 1, 0, none⟩ = some (.int .i64 0) := by rw [Lib.cell_of_heap hZd]; rfl
        have g1 : w3.drew.cell? ⟨w.heap.size + 1, 1, none⟩ = some (.int .i64 0) := by rw [Lib.cell_of_heap hZd]; rfl
        have f0 : w3.drew.frozen? ⟨w.heap.size + 1, 0, none⟩ = false := Lib.frozen_of_heap hZd 0
        have f1 : w3.drew.frozen? ⟨w.heap.size + 1, 1, none⟩ = false := Lib.frozen_of_heap hZd 1
        clear hDd hZd hBd hB2
        refine region_calm_to (fun W => Below w.heap.size w W ∧ ClB W (w.heap.size + 1 + 1) ((x + 2 ^ k), (y + 2 ^ k))) (fun (a0 a9 : Act) (w9 : World) => a9 = (((a0.put (some 41) (.int .i64 0)).put (some 42) (.agg #[.int .i64 (x + 2 ^ k), .int .i64 (y + 2 ^ k)])).put (some 4) (.int .i64 0)) ∧ (Hid (w9.heap[w.heap.size + 1]? = some (.cells #[.int .i64 (x + 2 ^ k), .int .i64 (y + 2 ^ k)] 28 (0, 0)) ∧ Below w.heap.size w w9))) (.calm 0 (.calm 1 (.calm 2 (.only 3 .done)))) (by kernel_rfl) (by kernel_rfl) (by kernel_rfl) (by rfl) HC0.out ?_ ?_
        · skip
          generalize w3.drew = wd at *
          refine ⟨_, _, (.int .i64 0), rfl, rfl, ⟨rfl, fun W hW => by first | exact ⟨rfl, rfl⟩ | (simp only [Act.eval, execOp]; go_simp; try exact ⟨rfl, rfl⟩)⟩, ?_⟩
          simp only [Act.put, List.getElem_toArray, List.getElem_cons_zero, List.getElem_cons_succ, List.setIfInBounds_toArray, List.set_cons_succ, List.set_cons_zero]
          refine ⟨_, _, (.agg #[.int .i64 (x + 2 ^ k), .int .i64 (y + 2 ^ k)]), rfl, rfl, ⟨rfl, fun W hW => by have s0 := hW.2.c0; have s1 := hW.2.c1; simp only at s0 s1; simp only [execOp]; go_simp; done⟩, ?_⟩
          simp only [Act.put, List.getElem_toArray, List.getElem_cons_zero, List.getElem_cons_succ, List.setIfInBounds_toArray, List.set_cons_succ, List.set_cons_zero]
          refine ⟨_, _, (.int .i64 0), rfl, rfl, ⟨rfl, fun W hW => by first | exact ⟨rfl, rfl⟩ | (simp only [Act.eval, execOp]; go_simp; try exact ⟨rfl, rfl⟩)⟩, ?_⟩
          simp only [Act.put, List.getElem_toArray, List.getElem_cons_zero, List.getElem_cons_succ, List.setIfInBounds_toArray, List.set_cons_succ, List.set_cons_zero]
          refine ⟨_, rfl, ?_⟩
          go_wp2_with fail
          refine ⟨rfl, HC3.out, ?_⟩
          refine ⟨?_, HT⟩
          first | rfl | simp only [Act.put, List.getElem_toArray, List.getElem_cons_zero, List.getElem_cons_succ, List.setIfInBounds_toArray, List.set_cons_succ, List.set_cons_zero]
        rintro a9 w9 ⟨rfl, HF⟩
        simp only [Act.put, List.setIfInBounds_toArray, List.set_cons_succ, List.set_cons_zero]
        clear HT HC0 HC3 g0 g1 f0 f1
        go_wp2_with fail
        refine bodyPost_ret (results_cellb rfl _ _ _ _ _ _ _ rfl HF.out.1 Tryz.underlying28 rfl (by kernel_rfl)) rfl ?_
        exact ⟨rfl, HF.out.2⟩
end Go.Proofs.YtmmaeikeafemaaaGreat
namespace Go.Proofs.YtmmaeikeafemaaaGreat
set_option maxRecDepth 100000
set_option linter.unusedVariables false
set_option linter.unusedSimpArgs false
open Go.RowKit Go.Sort

/-- what get answers, at a level -/
def GetAt (l : List Nd) (k : Nat) : Prop := ∀ (A : Option Addr) (c : Nat) (room : Int) (n : Nat) (p : Int × Int) (w : World), Is l k n → RdN w w.heap.size A l → InK k p →
    Calls Tryz.prog 51 #[storeV A l.length c room, .int .i64 (n : Nat), cellV p] w fun r w' => r = .returned (.bool (alive l k n (hfC k p))) ∧ Below w.heap.size w w'
theorem inK_bd {k : Nat} (hk : k ≤ 41) {p : Int × Int} (h : InK (k + 1) p) : -2199023255552 ≤ p.1 ∧ p.1 ≤ 2199023255552 ∧ -2199023255552 ≤ p.2 ∧ p.2 ≤ 2199023255552 := by
  have h' := of_decide_eq_true (show insideB k p = true from h)
  have hp : (2 : Int) ^ k ≤ 2199023255552 := pow_le7 (f := 41) hk
  omega
set_option maxHeartbeats 16000000 in
theorem get_at {room0 : Int} (l : List Nd) (hr : Right6 l room0) : ∀ k, k ≤ 42 → GetAt l k := by
  intro k
  induction k with
  | zero =>
    intro _ A c room n p w hn hR hin
    obtain ⟨b0, off, rfl, hbB, hcell⟩ := hR.at_ (by have := hr.two; omega)
    obtain ⟨x0, x1, x2, x3, x4, x5⟩ := hcell n hn.lt
    obtain ⟨px, py⟩ := p
    have hn2 := hn.zero hr
    have hlev : (l.getD n deadN).1 = 0 := hn.lev
    have hpop : (l.getD n deadN).2.2 = if n = 1 then 1 else 0 := by
      rcases (by omega : n = 0 ∨ n = 1) with h | h
      · rw [h, hr.dead]; rfl
      · rw [h, hr.live]; rfl
    rw [hlev] at x0
    rw [hpop] at x5
    have hnz : (n : Int) < (l.length : Int) := by have := hn.lt; omega
    have hal1 := (Below.refl w.heap.size w).alloc (Nat.le_refl _) (.cells #[.slice (some ⟨b0, off, none⟩) l.length c, .int .i64 room] 26)
    have hal2 := hal1.alloc hal1.size (.cells #[.int .i64 px, .int .i64 py] 28)
    have y0 := Qt.keep hal2 x0
    have y1 := Qt.keep hal2 x1
    have y2 := Qt.keep hal2 x2
    have y3 := Qt.keep hal2 x3
    have y4 := Qt.keep hal2 x4
    have y5 := Qt.keep hal2 x5
    generalize (l.getD n deadN) = x at *
    obtain ⟨lv, kk, pp⟩ := x
    dsimp only at y1 y2 y3 y4
    have hf : alive l 0 n (hfC 0 (px, py)) = decide (n = 1) := rfl
    rw [hf]
    have s0 : ((w.alloc (.cells #[.slice (some ⟨b0, off, none⟩) l.length c, .int .i64 room] 26)).alloc (.cells #[.int .i64 px, .int .i64 py] 28)).cell? ⟨w.heap.size, 0, none⟩ = some (.slice (some ⟨b0, off, none⟩) l.length c) := by rw [Lib.cell_of_heap (heap_old (heap_new rfl))]; rfl
    have hs2 : ((w.alloc (.cells #[.slice (some ⟨b0, off, none⟩) l.length c, .int .i64 room] 26)).alloc (.cells #[.int .i64 px, .int .i64 py] 28)).heap.size = w.heap.size + 1 + 1 := by simp
    have hnd : ∀ pp, NR (((w.alloc (.cells #[.slice (some ⟨b0, off, none⟩) l.length c, .int .i64 room] 26)).alloc (.cells #[.int .i64 px, .int .i64 py] 28)).alloc (.cells #[.int .i64 0, .int .i64 kk.1, .int .i64 kk.2.1, .int .i64 kk.2.2.1, .int .i64 kk.2.2.2, .int .i64 pp] 57)) (w.heap.size + 1 + 1) 0 kk pp := fun pp => heap_new hs2
    have hal3 := fun pp => hal2.alloc hal2.size (.cells #[.int .i64 0, .int .i64 kk.1, .int .i64 kk.2.1, .int .i64 kk.2.2.1, .int .i64 kk.2.2.2, .int .i64 pp] 57)
    have HB := Lib.hid hal3
    unfold storeV cellV
    by_cases hn1 : n = 1
    · rw [if_pos hn1] at y5
      rw [decide_eq_true hn1]
      have l0 := (hnd 1).lev_
      have p5 := (hnd 1).pop_
      clear hcell x0 x1 x2 x3 x4 x5 hal1 hal2 hal3 hR hnd hs2 hf hpop hn hn1 hlev
      go_enter Tryz.func51, Tryz.ntmps51
      go_wp2_with fail
      go_ret
      exact ⟨rfl, HB.out 1⟩
    · rw [if_neg hn1] at y5
      rw [decide_eq_false hn1]
      have l0 := (hnd 0).lev_
      have p5 := (hnd 0).pop_
      clear hcell x0 x1 x2 x3 x4 x5 hal1 hal2 hal3 hR hnd hs2 hf hpop hn hn1 hlev
      go_enter Tryz.func51, Tryz.ntmps51
      go_wp2_with fail
      go_ret
      exact ⟨rfl, HB.out 0⟩
  | succ k ih =>
    intro hk A c room n p w hn hR hin
    have HRR := Lib.hid hR
    have hbd := inK_bd (by omega) hin
    rw [alive_qr hin]
    have hq := fun W => refQuarter_any k (by omega) p hbd W
    have hinq := inK_qr hin
    have hq4 := qrK_lt p
    obtain ⟨b0, off, rfl, hbB, hcell⟩ := hR.at_ (by have := hr.two; omega)
    obtain ⟨x0, x1, x2, x3, x4, x5⟩ := hcell n hn.lt
    rw [hn.lev, show ((k + 1 : Nat) : Int) = (k : Int) + 1 by omega] at x0
    obtain ⟨px, py⟩ := p
    have hal1 := (Below.refl w.heap.size w).alloc (Nat.le_refl _) (.cells #[.slice (some ⟨b0, off, none⟩) l.length c, .int .i64 room] 26)
    have hal2 := hal1.alloc hal1.size (.cells #[.int .i64 px, .int .i64 py] 28)
    have y0 := Qt.keep hal2 x0
    have y1 := Qt.keep hal2 x1
    have y2 := Qt.keep hal2 x2
    have y3 := Qt.keep hal2 x3
    have y4 := Qt.keep hal2 x4
    have y5 := Qt.keep hal2 x5
    have hkid : kd (l.getD n deadN).2.1 (qrK (px, py)) = ((kidN l n (qrK (px, py)) : Nat) : Int) := kid_cast hr hn hq4
    have hkis := kid_is hr hn hq4
    have hih := ih (by omega)
    obtain ⟨⟨lv, kk, pp⟩, hnode⟩ : ∃ x, x = l.getD n deadN := ⟨_, rfl⟩
    rw [← hnode] at y1 y2 y3 y4 y5 hkid
    dsimp only at y1 y2 y3 y4 y5 hkid
    have hnz : (n : Int) < (l.length : Int) := by have := hn.lt; omega
    have hs1 : (w.alloc (.cells #[.slice (some ⟨b0, off, none⟩) l.length c, .int .i64 room] 26)).heap.size = w.heap.size + 1 := by simp
    have hs2 : ((w.alloc (.cells #[.slice (some ⟨b0, off, none⟩) l.length c, .int .i64 room] 26)).alloc (.cells #[.int .i64 px, .int .i64 py] 28)).heap.size = w.heap.size + 1 + 1 := by simp
    have hal3 := hal2.alloc hal2.size (.cells #[.int .i64 ((k : Int) + 1), .int .i64 kk.1, .int .i64 kk.2.1, .int .i64 kk.2.2.1, .int .i64 kk.2.2.2, .int .i64 pp] 57)
    have HF0 := Lib.hid (show FlAt w (((w.alloc (.cells #[.slice (some ⟨b0, off, none⟩) l.length c, .int .i64 room] 26)).alloc (.cells #[.int .i64 px, .int .i64 py] 28)).alloc (.cells #[.int .i64 ((k : Int) + 1), .int .i64 kk.1, .int .i64 kk.2.1, .int .i64 kk.2.2.1, .int .i64 kk.2.2.2, .int .i64 pp] 57)) (some ⟨b0, off, none⟩) l.length c room (px, py) ((k : Int) + 1) kk pp from
      ⟨heap_old (heap_old (heap_new rfl)), ⟨heap_old (heap_new hs1)⟩, heap_new hs2, hal3, by simp⟩)
    have s0 : ((w.alloc (.cells #[.slice (some ⟨b0, off, none⟩) l.length c, .int .i64 room] 26)).alloc (.cells #[.int .i64 px, .int .i64 py] 28)).cell? ⟨w.heap.size, 0, none⟩ = some (.slice (some ⟨b0, off, none⟩) l.length c) := by rw [Lib.cell_of_heap (heap_old (heap_new rfl))]; rfl
    have l0 := HF0.out.nd.lev_
    have c0 := HF0.out.cl.c0
    have c1 := HF0.out.cl.c1
    dsimp only at c0 c1
    have hk1 : (((k : Int) + 1) == 0) = false := beq_eq_false_iff_ne.2 (by omega)
    have hk2 : ¬ (k : Int) + 1 = 0 := by omega
    have HIH := Lib.hid hih
    have HKIS := Lib.hid hkis
    have HKID := Lib.hid hkid
    have HINQ := Lib.hid hinq
    unfold cellV at hq
    dsimp only at hq
    obtain ⟨res, hres⟩ : ∃ r, r = alive l k (kidN l n (qrK (px, py))) (hfC k (qrD k (px, py))) := ⟨_, rfl⟩
    rw [← hres]
    have hget0 := fun W (hR' : RdN W W.heap.size (some ⟨b0, off, none⟩) l) => HIH.out (some ⟨b0, off, none⟩) c room (kidN l n (qrK (px, py))) (qrD k (px, py)) W HKIS.out hR' HINQ.out
    rw [← hres, ← hkid] at hget0
    unfold storeV cellV at hget0
    unfold storeV cellV
    generalize qrK (px, py) = kq at *
    generalize qrD k (px, py) = dd at *
    obtain ⟨dx, dy⟩ := dd
    dsimp only at hq hget0
    have HG0 := Lib.hid hget0
    have HQ := Lib.hid hq
    clear hcell x0 x1 x2 x3 x4 x5 hnode hkid hkis hal1 hal2 hal3 hR ih hih hs1 hs2 hinq hres hget0 HIH HKIS HKID HINQ hq hin hbd
    go_enter Tryz.func51, Tryz.ntmps51
    go_wp2_with fail
    clear y0 y1 y2 y3 y4 y5 l0 c0 c1 s0
    generalize (((w.alloc (.cells #[.slice (some ⟨b0, off, none⟩) l.length c, .int .i64 room] 26)).alloc (.cells #[.int .i64 px, .int .i64 py] 28)).alloc (.cells #[.int .i64 ((k : Int) + 1), .int .i64 kk.1, .int .i64 kk.2.1, .int .i64 kk.2.2.1, .int .i64 kk.2.2.2, .int .i64 pp] 57)) = w3 at *
    refine (HQ.out w3).mono ?_
    rintro r w4 ⟨rfl, hb4⟩
    have hF4 := HF0.out.next (hb4.mono HF0.out.sz)
    have hal := (Below.refl w4.heap.size w4).alloc (Nat.le_refl _) (.cells #[.int .i64 dx, .int .i64 dy] 28)
    have HF5 := Lib.hid (hF4.next (hal.mono hF4.sz))
    have HD5 := Lib.hid (clB_new (w := w4) (dx, dy))
    clear hb4 hF4 hal HF0 HQ
    go_wp2_with fail
    generalize (w4.alloc (.cells #[.int .i64 dx, .int .i64 dy] 28)) = v5 at *
    generalize w4.heap.size = db at *
    have k0 := Qt.cell_in HF5.out.s0
    have k1 := Qt.cell_in HF5.out.s1
    have k2 := Qt.cell_in (HF5.out.nd.kid hq4)
    have d0 := Qt.cell_in HD5.out.c0
    have d1 := Qt.cell_in HD5.out.c1
    dsimp only at d0 d1
    have hget := fun W (hW : Below v5.heap.size v5 W) => HG0.out W ((HRR.out.below (Qt.more HF5.out.bel HF5.out.bel.size hW) (Nat.le_refl _)).more (Qt.more HF5.out.bel HF5.out.bel.size hW).size)
    refine Qt.below_all (by kernel_rfl) (by kernel_rfl) ?_
    iterate 8 (go_big_quiet_step (first | (go_at_call 51; exact Qt.at_call' hget)))
    refine wpQuiet_nil ?_
    intro w6 hb6
    have HB6 := Lib.hid (Qt.more HF5.out.bel HF5.out.bel.size hb6)
    clear hget k0 k1 k2 d0 d1 hb6 HF5 HD5
    go_wp2_with fail
    go_ret
    exact ⟨rfl, HB6.out⟩
set_option maxHeartbeats 16000000 in
theorem refGet7_any (A : Option Addr) (l : List Nd) (c : Nat) (room n : Int) (p : Int × Int) (w : World) (hR : RdN w w.heap.size A l) (hl : l.length ≤ 1000000) (hc : l.length ≤ c) (hw : ∀ i, i < l.length → -9223372036854775808 ≤ (l.getD i deadN).1 ∧ (l.getD i deadN).1 ≤ 9223372036854775807) (hx : I64 p.1) (hy : I64 p.2) :
    Calls Tryz.prog 19 #[storeV A l.length c room, .int .i64 n, cellV p] w fun r w' => r = .returned (.tuple #[.bool (get7 l room n p).1, .int .i64 (get7 l room n p).2]) ∧ Below w.heap.size w w' := by
  have hG0 := gbAt_0 w A l.length c room p
  have hmay := refMay7_any A l c room n _ ((hR.below hG0.bel (Nat.le_refl _)).more hG0.bel.size) hl hw
  have s0 := hG0.s0
  have s1 := hG0.s1
  have HG := Lib.hid hG0
  have HRR := Lib.hid hR
  obtain ⟨px, py⟩ := p
  dsimp only at hx hy
  cases hb : (right6 l room && hasB l n) with
  | false =>
    rw [hb] at hmay
    have hz : get7 l room n (px, py) = (false, 1) := by unfold get7; rw [hb]; rfl
    rw [hz]
    unfold storeV at hmay ⊢
    unfold cellV
    clear hz hR hw hb hG0
    go_enter Tryz.func19, Tryz.ntmps19
    go_wp2_with fail
    refine hmay.mono ?_
    rintro r w1 ⟨rfl, hb1⟩
    have HB := Lib.hid (HG.out.below hb1).bel
    clear hb1 hmay s0 s1 HG
    go_wp2_with fail
    go_ret2
    exact ⟨rfl, HB.out⟩
  | true =>
    rw [hb] at hmay
    obtain ⟨hr, hh⟩ := Bool.and_eq_true_iff.1 hb
    have hr := right_iff.1 hr
    unfold hasB at hh
    rw [decide_eq_true_eq] at hh
    obtain ⟨h1, h2, h3⟩ := hh
    obtain ⟨m, rfl⟩ : ∃ m : Nat, n = (m : Int) := ⟨n.toNat, by omega⟩
    rw [ndAt_nat] at h3
    have hbd := right_bd hr m (by omega)
    obtain ⟨e, he⟩ : ∃ e : Nat, (l.getD m deadN).1 = (e : Int) + 1 := ⟨((l.getD m deadN).1 - 1).toNat, by omega⟩
    have hIs : Is l (e + 1) m := ⟨by omega, by rw [he]; omega⟩
    have hz : get7 l room (m : Int) (px, py) = (insideB e (px, py) && alive l (e + 1) m (hfC (e + 1) (px, py)), 0) := by
      unfold get7
      rw [if_pos hb, ndAt_nat, he, show ((e : Int) + 1).toNat - 1 = e by omega, show ((e : Int) + 1).toNat = e + 1 by omega, Int.toNat_natCast]
      rfl
    rw [hz]
    obtain ⟨b0, off, rfl, hbB, hcell⟩ := hR.at_ (by omega)
    have x0 := (hcell m (by omega)).1
    rw [he] at x0
    have HX := Lib.hid x0
    have hmz : (m : Int) < (l.length : Int) := by omega
    have hin := fun W => refIn7_any e (by omega) (px, py) hx hy W
    have hget0 := fun (hi : insideB e (px, py) = true) W (hR' : RdN W W.heap.size (some ⟨b0, off, none⟩) l) => get_at l hr (e + 1) (by omega) (some ⟨b0, off, none⟩) c room m (px, py) W hIs hR' hi
    unfold storeV cellV at hget0
    unfold cellV at hin
    dsimp only at hin hget0
    have HGET := Lib.hid hget0
    have HIN := Lib.hid hin
    unfold storeV at hmay ⊢
    unfold cellV
    clear hz hR hw hb hG0 hIs he hbd hr hcell x0 hget0 hin
    generalize alive l (e + 1) m (hfC (e + 1) (px, py)) = al at *
    go_enter Tryz.func19, Tryz.ntmps19
    go_wp2_with fail
    refine hmay.mono ?_
    rintro r w1 ⟨rfl, hb1⟩
    have hG1 := HG.out.below hb1
    have HG1 := Lib.hid hG1
    have k0 := Qt.cell_in hG1.s0
    have k1 := Qt.cell_in hG1.s1
    have c0 := Qt.cell_in hG1.cl.c0
    have c1 := Qt.cell_in hG1.cl.c1
    have x0 := Qt.cell_in (Qt.keep hG1.bel HX.out)
    dsimp only at c0 c1
    have hin := fun W (_ : Below w1.heap.size w1 W) => HIN.out W
    cases hi : insideB e (px, py) with
    | true =>
      rw [hi] at hin
      have HI := Lib.hid hi
      have hget := fun W (hW : Below w1.heap.size w1 W) => HGET.out hi W ((HRR.out.below (Qt.more HG1.out.bel HG1.out.bel.size hW) (Nat.le_refl _)).more (Qt.more HG1.out.bel HG1.out.bel.size hW).size)
      clear hb1 hmay s0 s1 HG hG1 hi HGET HIN
      go_wp2_with fail
      refine Qt.below_all (by kernel_rfl) (by kernel_rfl) ?_
      iterate 16 (go_big_quiet_step (first | (go_at_call 31; exact Qt.at_call' hin) | (go_at_call 51; exact Qt.at_call' hget)))
      refine wpQuiet_nil ?_
      intro w6 hb6
      have HB6 := Lib.hid (Qt.more HG1.out.bel HG1.out.bel.size hb6)
      clear hget hin k0 k1 c0 c1 x0 hb6 HG1
      go_wp2_with fail
      go_ret2
      exact ⟨by rw [HI.out]; rfl, HB6.out⟩
    | false =>
      rw [hi] at hin
      have HI := Lib.hid hi
      clear hb1 hmay s0 s1 HG hG1 hi HGET HIN
      go_wp2_with fail
      refine Qt.below_all (by kernel_rfl) (by kernel_rfl) ?_
      repeat (go_big_quiet_step (first | (go_at_call 31; exact Qt.at_call' hin)))
      refine wpQuiet_nil ?_
      intro w6 hb6
      have HB6 := Lib.hid (Qt.more HG1.out.bel HG1.out.bel.size hb6)
      clear hin k0 k1 c0 c1 x0 hb6 HG1
      go_wp2_with fail
      go_ret2
      exact ⟨by rw [HI.out]; rfl, HB6.out⟩
end Go.Proofs.YtmmaeikeafemaaaGreat
