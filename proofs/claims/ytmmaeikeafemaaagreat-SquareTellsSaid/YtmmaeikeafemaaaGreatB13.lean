/-
  Texts that the claims of this seat share, part 13.
-/
import Derived.Test.YtmmaeikeafemaaaGreatB11
import Derived.Test.YtmmaeikeafemaaaGreatB12
import Derived.Test.YtmmaeikeafemaaaGreatB09
import Derived.RangeFuncNested
import Derived.RangeFuncBound
import Derived.RangeFuncCalls
import Derived.RangeFuncLeaves
import Derived.Shelf.Abstract
import Derived.Shelf.RegionOpen
import Derived.WalkKit
import Derived.OwnWalkIn
import Derived.TacticsInMore
import Derived.LoopNIn
import Derived.LoopIn
import Derived.Test.YtmmaeikeafemaaaGreatB05
set_option linter.unusedVariables false
set_option linter.unusedSimpArgs false
namespace Go.Proofs.YtmmaeikeafemaaaGreat
set_option maxRecDepth 100000
set_option linter.unusedVariables false
set_option linter.unusedSimpArgs false

abbrev Bx := Int × Int × Int × Int
/-- the least box about two -/
def both7 (a b : Bx) : Bx :=
  if a.2.2.1 = 0 then b else if b.2.2.1 = 0 then a else
    (min a.1 b.1, min a.2.1 b.2.1, max (a.1 + a.2.2.1) (b.1 + b.2.2.1) - min a.1 b.1, max (a.2.1 + a.2.2.2) (b.2.1 + b.2.2.2) - min a.2.1 b.2.1)
def shift7 (b : Bx) (dx dy : Int) : Bx := (b.1 + dx, b.2.1 + dy, b.2.2.1, b.2.2.2)
/-- a box from a corner on, of a square's size -/
def GoodB (M : Int) (b : Bx) : Prop := 0 ≤ b.1 ∧ 0 ≤ b.2.1 ∧ 0 ≤ b.2.2.1 ∧ 0 ≤ b.2.2.2 ∧ b.1 + b.2.2.1 ≤ M ∧ b.2.1 + b.2.2.2 ≤ M
theorem both_good {M : Int} {a b : Bx} (ha : GoodB M a) (hb : GoodB M b) : GoodB M (both7 a b) := by
  unfold both7
  split
  · exact hb
  · split
    · exact ha
    · unfold GoodB at *
      dsimp only
      omega
theorem shift_good {M : Int} {b : Bx} (h : GoodB M b) {dx dy : Int} (hx : 0 ≤ dx ∧ dx ≤ M) (hy : 0 ≤ dy ∧ dy ≤ M) : GoodB (M * 2) (shift7 b dx dy) := by
  unfold GoodB shift7 at *
  dsimp only
  omega
/-- the box of a node, from its corner on -/
def boxN (l : List Nd) : Nat → Nat → Bx
  | 0, n => if n = 1 then (0, 0, 1, 1) else (0, 0, 0, 0)
  | k + 1, n => both7 (both7 (both7 (both7 (0, 0, 0, 0) (shift7 (boxN l k (kidN l n 0)) ((0 : Nat) * 2 ^ k) ((0 : Nat) * 2 ^ k))) (shift7 (boxN l k (kidN l n 1)) ((1 : Nat) * 2 ^ k) ((0 : Nat) * 2 ^ k))) (shift7 (boxN l k (kidN l n 2)) ((0 : Nat) * 2 ^ k) ((1 : Nat) * 2 ^ k))) (shift7 (boxN l k (kidN l n 3)) ((1 : Nat) * 2 ^ k) ((1 : Nat) * 2 ^ k))
def boxTo (l : List Nd) (k n : Nat) : Nat → Bx
  | 0 => (0, 0, 0, 0)
  | i + 1 => both7 (boxTo l k n i) (shift7 (boxN l k (kidN l n i)) (((i % 2 : Nat) : Int) * 2 ^ k) (((i / 2 : Nat) : Int) * 2 ^ k))
theorem boxTo_all (l : List Nd) (k n : Nat) : boxTo l k n 4 = boxN l (k + 1) n := rfl
theorem off_bd (k i : Nat) (hi : i < 4) : 0 ≤ ((i % 2 : Nat) : Int) * 2 ^ k ∧ ((i % 2 : Nat) : Int) * 2 ^ k ≤ 2 ^ k ∧ 0 ≤ ((i / 2 : Nat) : Int) * 2 ^ k ∧ ((i / 2 : Nat) : Int) * 2 ^ k ≤ 2 ^ k := by
  have hp := pow_pos7 k
  rcases (by omega : i = 0 ∨ i = 1 ∨ i = 2 ∨ i = 3) with rfl | rfl | rfl | rfl <;> simp <;> omega
mutual
theorem boxN_good (l : List Nd) : ∀ (k n : Nat), GoodB (2 ^ k) (boxN l k n)
  | 0, n => by
    unfold boxN GoodB
    split <;> decide
  | k + 1, n => by
    rw [← boxTo_all]
    exact boxTo_good l k n 4 (Nat.le_refl _)
theorem boxTo_good (l : List Nd) (k n : Nat) : ∀ (i : Nat), i ≤ 4 → GoodB (2 ^ (k + 1)) (boxTo l k n i)
  | 0, _ => by
    have := pow_pos7 (k + 1)
    unfold boxTo GoodB
    dsimp only
    omega
  | i + 1, hi => by
    have hb := off_bd k i (by omega)
    unfold boxTo
    refine both_good (boxTo_good l k n i (by omega)) ?_
    rw [show (2 : Int) ^ (k + 1) = 2 ^ k * 2 from Int.pow_succ ..]
    exact shift_good (boxN_good l k (kidN l n i)) ⟨hb.1, hb.2.1⟩ ⟨hb.2.2.1, hb.2.2.2⟩
end
/-- what Box answers -/
def box7 (l : List Nd) (room n : Int) (has : Bool) : Bx × Bool :=
  if (right6 l room && has && decide (¬ (ndAt l n).2.2 = 0)) = true then (shift7 (boxN l (ndAt l n).1.toNat n.toNat) (-(2 ^ ((ndAt l n).1.toNat - 1))) (-(2 ^ ((ndAt l n).1.toNat - 1))), true) else ((0, 0, 0, 0), false)
end Go.Proofs.YtmmaeikeafemaaaGreat
namespace Go.Proofs.YtmmaeikeafemaaaGreat
set_option maxRecDepth 100000
set_option linter.unusedVariables false
set_option linter.unusedSimpArgs false
open Go.RowKit Go.Sort

abbrev boxV (b : Bx) : Value := .agg #[.int .i64 b.1, .int .i64 b.2.1, .int .i64 b.2.2.1, .int .i64 b.2.2.2]
set_option maxHeartbeats 4000000 in
theorem shifted_any (b : Bx) (dx dy : Int) (h1 : I64 (b.1 + dx)) (h2 : I64 (b.2.1 + dy)) (w : World) : Calls Tryz.prog 43 #[boxV b, .int .i64 dx, .int .i64 dy] w fun r w' => r = .returned (boxV (shift7 b dx dy)) ∧ Below w.heap.size w w' := by
  obtain ⟨x, y, bw, bh⟩ := b
  unfold I64 at h1 h2
  dsimp only at h1 h2
  have w1 : IntKind.i64.wrap (x + dx) = x + dx := by rw [IntKind.wrap_i64]; omega
  have w2 : IntKind.i64.wrap (y + dy) = y + dy := by rw [IntKind.wrap_i64]; omega
  go_enter Tryz.func43, Tryz.ntmps43
  go_wp2_with fail
  refine bodyPost_ret (results_cell1 rfl _ _ (w.heap.size + 1) _ _ _ _ rfl (heap_new (by simp)) Tryz.underlying45 rfl (by kernel_rfl)) rfl ?_
  exact ⟨rfl, ((Below.refl _ _).alloc (Nat.le_refl _) _).alloc (by simp) _⟩
set_option maxHeartbeats 8000000 in
theorem both_any {M : Int} (hM : M ≤ 17592186044416) (a b : Bx) (ha : GoodB M a) (hb : GoodB M b) (w : World) : Calls Tryz.prog 76 #[boxV a, boxV b] w fun r w' => r = .returned (boxV (both7 a b)) ∧ Below w.heap.size w w' := by
  obtain ⟨ax, ay, aw, ah⟩ := a
  obtain ⟨bx, by_, bw, bh⟩ := b
  unfold GoodB at ha hb
  dsimp only at ha hb
  by_cases h1 : aw = 0
  · subst h1
    have hz : both7 (ax, ay, 0, ah) (bx, by_, bw, bh) = (bx, by_, bw, bh) := if_pos rfl
    rw [hz]
    go_enter Tryz.func76, Tryz.ntmps76
    go_wp2_with fail
    refine bodyPost_ret (results_cell1 rfl _ _ (w.heap.size + 1 + 1) _ _ _ _ rfl (heap_new (by simp)) Tryz.underlying45 rfl (by kernel_rfl)) rfl ?_
    exact ⟨rfl, (((Below.refl _ _).alloc (Nat.le_refl _) _).alloc (by simp) _).alloc (by simp; omega) _⟩
  have k1 : (aw == 0) = false := beq_eq_false_iff_ne.2 h1
  by_cases h2 : bw = 0
  · subst h2
    have hz : both7 (ax, ay, aw, ah) (bx, by_, 0, bh) = (ax, ay, aw, ah) := by unfold both7; rw [if_neg h1, if_pos rfl]
    rw [hz]
    go_enter Tryz.func76, Tryz.ntmps76
    go_wp2_with fail
    refine bodyPost_ret (results_cell1 rfl _ _ (w.heap.size + 1 + 1) _ _ _ _ rfl (heap_new (by simp)) Tryz.underlying45 rfl (by kernel_rfl)) rfl ?_
    exact ⟨rfl, (((Below.refl _ _).alloc (Nat.le_refl _) _).alloc (by simp) _).alloc (by simp; omega) _⟩
  have k2 : (bw == 0) = false := beq_eq_false_iff_ne.2 h2
  have hz : both7 (ax, ay, aw, ah) (bx, by_, bw, bh) = (min ax bx, min ay by_, max (ax + aw) (bx + bw) - min ax bx, max (ay + ah) (by_ + bh) - min ay by_) := by unfold both7; rw [if_neg h1, if_neg h2]
  rw [hz]
  have a1 : IntKind.i64.wrap (ax + aw) = ax + aw := by rw [IntKind.wrap_i64]; omega
  have a2 : IntKind.i64.wrap (bx + bw) = bx + bw := by rw [IntKind.wrap_i64]; omega
  have a3 : IntKind.i64.wrap (ay + ah) = ay + ah := by rw [IntKind.wrap_i64]; omega
  have a4 : IntKind.i64.wrap (by_ + bh) = by_ + bh := by rw [IntKind.wrap_i64]; omega
  have a5 : IntKind.i64.wrap (max (ax + aw) (bx + bw) - min ax bx) = max (ax + aw) (bx + bw) - min ax bx := by rw [IntKind.wrap_i64]; omega
  have a6 : IntKind.i64.wrap (max (ay + ah) (by_ + bh) - min ay by_) = max (ay + ah) (by_ + bh) - min ay by_ := by rw [IntKind.wrap_i64]; omega
  have hal := (((Below.refl w.heap.size w).alloc (Nat.le_refl _) (.cells #[.int .i64 ax, .int .i64 ay, .int .i64 aw, .int .i64 ah] 45)).alloc (by simp) (.cells #[.int .i64 bx, .int .i64 by_, .int .i64 bw, .int .i64 bh] 45)).alloc (by simp; omega) (.cells #[.int .i64 0, .int .i64 0, .int .i64 0, .int .i64 0] 45)
  have ra : (((w.alloc (.cells #[.int .i64 ax, .int .i64 ay, .int .i64 aw, .int .i64 ah] 45)).alloc (.cells #[.int .i64 bx, .int .i64 by_, .int .i64 bw, .int .i64 bh] 45)).alloc (.cells #[.int .i64 0, .int .i64 0, .int .i64 0, .int .i64 0] 45)).heap[w.heap.size]? = some (.cells #[.int .i64 ax, .int .i64 ay, .int .i64 aw, .int .i64 ah] 45 (0, 0)) := heap_old (heap_old (heap_new rfl))
  have rb : (((w.alloc (.cells #[.int .i64 ax, .int .i64 ay, .int .i64 aw, .int .i64 ah] 45)).alloc (.cells #[.int .i64 bx, .int .i64 by_, .int .i64 bw, .int .i64 bh] 45)).alloc (.cells #[.int .i64 0, .int .i64 0, .int .i64 0, .int .i64 0] 45)).heap[w.heap.size + 1]? = some (.cells #[.int .i64 bx, .int .i64 by_, .int .i64 bw, .int .i64 bh] 45 (0, 0)) := heap_old (heap_new (by simp))
  have rc : (((w.alloc (.cells #[.int .i64 ax, .int .i64 ay, .int .i64 aw, .int .i64 ah] 45)).alloc (.cells #[.int .i64 bx, .int .i64 by_, .int .i64 bw, .int .i64 bh] 45)).alloc (.cells #[.int .i64 0, .int .i64 0, .int .i64 0, .int .i64 0] 45)).heap[w.heap.size + 1 + 1]? = some (.cells #[.int .i64 0, .int .i64 0, .int .i64 0, .int .i64 0] 45 (0, 0)) := heap_new (by simp)
  have HA := Lib.hid hal
  have HR := Lib.hid (And.intro ra (And.intro rb rc))
  clear ha hb hz hal ra rb rc
  go_enter Tryz.func76, Tryz.ntmps76
  go_wp2_with fail
  generalize (((w.alloc (.cells #[.int .i64 ax, .int .i64 ay, .int .i64 aw, .int .i64 ah] 45)).alloc (.cells #[.int .i64 bx, .int .i64 by_, .int .i64 bw, .int .i64 bh] 45)).alloc (.cells #[.int .i64 0, .int .i64 0, .int .i64 0, .int .i64 0] 45)) = v at *
  have c0 : v.cell? ⟨w.heap.size, 0, none⟩ = some (.int .i64 ax) := by rw [Lib.cell_of_heap HR.out.1]; rfl
  have c1 : v.cell? ⟨w.heap.size, 1, none⟩ = some (.int .i64 ay) := by rw [Lib.cell_of_heap HR.out.1]; rfl
  have d0 : v.cell? ⟨w.heap.size + 1, 0, none⟩ = some (.int .i64 bx) := by rw [Lib.cell_of_heap HR.out.2.1]; rfl
  have d1 : v.cell? ⟨w.heap.size + 1, 1, none⟩ = some (.int .i64 by_) := by rw [Lib.cell_of_heap HR.out.2.1]; rfl
  have q0 := Qt.cell_in c0
  have q1 := Qt.cell_in c1
  have q2 := Qt.cell_in d0
  have q3 := Qt.cell_in d1
  clear c0 c1 d0 d1
  refine Qt.below_all (by kernel_rfl) (by kernel_rfl) ?_
  iterate 12 (go_big_quiet_step (fail))
  refine wpQuiet_nil ?_
  intro w2 hb2
  clear q0 q1 q2 q3
  have h1r := (hb2.block _ (lt_heap6 HR.out.1)).trans HR.out.1
  have h2r := (hb2.block _ (lt_heap6 HR.out.2.1)).trans HR.out.2.1
  have h3r := (hb2.block _ (lt_heap6 HR.out.2.2)).trans HR.out.2.2
  have c0 : w2.cell? ⟨w.heap.size, 0, none⟩ = some (.int .i64 ax) := by rw [Lib.cell_of_heap h1r]; rfl
  have c1 : w2.cell? ⟨w.heap.size, 1, none⟩ = some (.int .i64 ay) := by rw [Lib.cell_of_heap h1r]; rfl
  have c2 : w2.cell? ⟨w.heap.size, 2, none⟩ = some (.int .i64 aw) := by rw [Lib.cell_of_heap h1r]; rfl
  have c3 : w2.cell? ⟨w.heap.size, 3, none⟩ = some (.int .i64 ah) := by rw [Lib.cell_of_heap h1r]; rfl
  have d0 : w2.cell? ⟨w.heap.size + 1, 0, none⟩ = some (.int .i64 bx) := by rw [Lib.cell_of_heap h2r]; rfl
  have d1 : w2.cell? ⟨w.heap.size + 1, 1, none⟩ = some (.int .i64 by_) := by rw [Lib.cell_of_heap h2r]; rfl
  have d2 : w2.cell? ⟨w.heap.size + 1, 2, none⟩ = some (.int .i64 bw) := by rw [Lib.cell_of_heap h2r]; rfl
  have d3 : w2.cell? ⟨w.heap.size + 1, 3, none⟩ = some (.int .i64 bh) := by rw [Lib.cell_of_heap h2r]; rfl
  have r0 : w2.cell? ⟨w.heap.size + 1 + 1, 0, none⟩ = some (.int .i64 0) := by rw [Lib.cell_of_heap h3r]; rfl
  have r1 : w2.cell? ⟨w.heap.size + 1 + 1, 1, none⟩ = some (.int .i64 0) := by rw [Lib.cell_of_heap h3r]; rfl
  have r2 : w2.cell? ⟨w.heap.size + 1 + 1, 2, none⟩ = some (.int .i64 0) := by rw [Lib.cell_of_heap h3r]; rfl
  have r3 : w2.cell? ⟨w.heap.size + 1 + 1, 3, none⟩ = some (.int .i64 0) := by rw [Lib.cell_of_heap h3r]; rfl
  have f0 : w2.frozen? ⟨w.heap.size + 1 + 1, 0, none⟩ = false := Lib.frozen_of_heap h3r 0
  have f1 : w2.frozen? ⟨w.heap.size + 1 + 1, 1, none⟩ = false := Lib.frozen_of_heap h3r 1
  have f2 : w2.frozen? ⟨w.heap.size + 1 + 1, 2, none⟩ = false := Lib.frozen_of_heap h3r 2
  have f3 : w2.frozen? ⟨w.heap.size + 1 + 1, 3, none⟩ = false := Lib.frozen_of_heap h3r 3
  have hB := Qt.more HA.out HA.out.size hb2
  have HT : ∀ (x y z u : Value), Hid (((((w2.setCell ⟨w.heap.size + 1 + 1, 0, none⟩ x).setCell ⟨w.heap.size + 1 + 1, 1, none⟩ y).setCell ⟨w.heap.size + 1 + 1, 2, none⟩ z).setCell ⟨w.heap.size + 1 + 1, 3, none⟩ u).heap[w.heap.size + 1 + 1]? = some (.cells #[x, y, z, u] 45 (0, 0)) ∧ Below w.heap.size w ((((w2.setCell ⟨w.heap.size + 1 + 1, 0, none⟩ x).setCell ⟨w.heap.size + 1 + 1, 1, none⟩ y).setCell ⟨w.heap.size + 1 + 1, 2, none⟩ z).setCell ⟨w.heap.size + 1 + 1, 3, none⟩ u)) := by
    intro x y z u
    have hle : w.heap.size ≤ w.heap.size + 1 + 1 := by omega
    refine ⟨?_, (((hB.setCell hle _).setCell hle _).setCell hle _).setCell hle _⟩
    simp [World.setCell, Array.getElem?_modify, h3r]
  have HT2 := Lib.hid HT
  clear hb2 h1r h2r h3r hB HT HR HA
  go_wp2_with fail
  refine bodyPost_ret (results_cell1 rfl _ _ _ _ _ _ _ rfl (HT2.out _ _ _ _).out.1 Tryz.underlying45 rfl (by kernel_rfl)) rfl ?_
  exact ⟨rfl, (HT2.out _ _ _ _).out.2⟩
/-- boxes in a row, the first of which are told -/
structure BxRow (w : World) (q N : Nat) (f : Nat → Bx) (j : Nat) : Prop where
  row : ∃ cs : Array Value, w.heap[q]? = some (.cells cs 45 (0, 0)) ∧ cs.size = N * 4 ∧ ∀ i, i < j → i < N → cs[i * 4]? = some (.int .i64 (f i).1) ∧ cs[i * 4 + 1]? = some (.int .i64 (f i).2.1) ∧ cs[i * 4 + 2]? = some (.int .i64 (f i).2.2.1) ∧ cs[i * 4 + 3]? = some (.int .i64 (f i).2.2.2)
section
variable {w w' : World} {q N : Nat} {f : Nat → Bx} {j : Nat}
theorem BxRow.below (h : BxRow w q N f j) (hb : Below w.heap.size w w') : BxRow w' q N f j := by
  obtain ⟨cs, h1, h2, h3⟩ := h.row
  exact ⟨cs, (hb.block _ (lt_heap6 h1)).trans h1, h2, h3⟩
theorem BxRow.at_ (h : BxRow w q N f j) {i : Nat} (hi : i < j) (hN : i < N) : w.cell? ⟨q, i * 4, none⟩ = some (.int .i64 (f i).1) ∧ w.cell? ⟨q, i * 4 + 1, none⟩ = some (.int .i64 (f i).2.1) ∧ w.cell? ⟨q, i * 4 + 2, none⟩ = some (.int .i64 (f i).2.2.1) ∧ w.cell? ⟨q, i * 4 + 3, none⟩ = some (.int .i64 (f i).2.2.2) := by
  obtain ⟨cs, h1, h2, h3⟩ := h.row
  obtain ⟨a, b, c, d⟩ := h3 i hi hN
  exact ⟨by rw [Lib.cell_of_heap h1]; exact a, by rw [Lib.cell_of_heap h1]; exact b, by rw [Lib.cell_of_heap h1]; exact c, by rw [Lib.cell_of_heap h1]; exact d⟩
theorem BxRow.some_ (h : BxRow w q N f j) {i : Nat} (hi : i < N * 4) : ∃ v, w.cell? ⟨q, i, none⟩ = some v := by
  obtain ⟨cs, h1, h2, h3⟩ := h.row
  exact ⟨cs[i]'(by omega), by rw [Lib.cell_of_heap h1]; exact Array.getElem?_eq_getElem (by omega)⟩
theorem BxRow.free (h : BxRow w q N f j) (i : Nat) : w.frozen? ⟨q, i, none⟩ = false := by
  obtain ⟨cs, h1, h2, h3⟩ := h.row
  exact Lib.frozen_of_heap h1 i
theorem BxRow.next (h : BxRow w q N f j) (hN : j < N) : BxRow ((((w.setCell ⟨q, j * 4, none⟩ (.int .i64 (f j).1)).setCell ⟨q, j * 4 + 1, none⟩ (.int .i64 (f j).2.1)).setCell ⟨q, j * 4 + 2, none⟩ (.int .i64 (f j).2.2.1)).setCell ⟨q, j * 4 + 3, none⟩ (.int .i64 (f j).2.2.2)) q N f (j + 1) := by
  obtain ⟨cs, h1, h2, h3⟩ := h.row
  refine ⟨(((cs.setIfInBounds (j * 4) (.int .i64 (f j).1)).setIfInBounds (j * 4 + 1) (.int .i64 (f j).2.1)).setIfInBounds (j * 4 + 2) (.int .i64 (f j).2.2.1)).setIfInBounds (j * 4 + 3) (.int .i64 (f j).2.2.2), ?_, by simp [h2], fun i hi hiN => ?_⟩
  · simp [World.setCell, Array.getElem?_modify, h1]
  · rcases (by omega : i < j ∨ i = j) with h4 | rfl
    · obtain ⟨a, b, c, d⟩ := h3 i h4 hiN
      simp only [Array.getElem?_setIfInBounds]
      refine ⟨?_, ?_, ?_, ?_⟩
      · rw [if_neg (by omega), if_neg (by omega), if_neg (by omega), if_neg (by omega)]; exact a
      · rw [if_neg (by omega), if_neg (by omega), if_neg (by omega), if_neg (by omega)]; exact b
      · rw [if_neg (by omega), if_neg (by omega), if_neg (by omega), if_neg (by omega)]; exact c
      · rw [if_neg (by omega), if_neg (by omega), if_neg (by omega), if_neg (by omega)]; exact d
    · simp [Array.getElem?_setIfInBounds, h2]
      omega
end
end Go.Proofs.YtmmaeikeafemaaaGreat
namespace Go.Proofs.YtmmaeikeafemaaaGreat
set_option maxRecDepth 100000
set_option linter.unusedVariables false
set_option linter.unusedSimpArgs false
open Go.RowKit Go.Sort

/-- a box in a box -/
def BR (w : World) (b : Nat) (x : Bx) : Prop := w.heap[b]? = some (.cells #[.int .i64 x.1, .int .i64 x.2.1, .int .i64 x.2.2.1, .int .i64 x.2.2.2] 45 (0, 0))
section
variable {w w' : World} {b : Nat} {x : Bx}
theorem BR.below (h : BR w b x) (hb : Below w.heap.size w w') : BR w' b x := (hb.block _ (lt_heap6 h)).trans h
theorem BR.c (h : BR w b x) : w.cell? ⟨b, 0, none⟩ = some (.int .i64 x.1) ∧ w.cell? ⟨b, 1, none⟩ = some (.int .i64 x.2.1) ∧ w.cell? ⟨b, 2, none⟩ = some (.int .i64 x.2.2.1) ∧ w.cell? ⟨b, 3, none⟩ = some (.int .i64 x.2.2.2) := by
  refine ⟨?_, ?_, ?_, ?_⟩ <;> (rw [Lib.cell_of_heap h]; rfl)
theorem BR.f (h : BR w b x) (i : Nat) : w.frozen? ⟨b, i, none⟩ = false := Lib.frozen_of_heap h i
theorem BR.told (h : BR w b x) (y : Bx) : BR ((((w.setCell ⟨b, 0, none⟩ (.int .i64 y.1)).setCell ⟨b, 1, none⟩ (.int .i64 y.2.1)).setCell ⟨b, 2, none⟩ (.int .i64 y.2.2.1)).setCell ⟨b, 3, none⟩ (.int .i64 y.2.2.2)) b y := by
  unfold BR at h ⊢
  simp [World.setCell, Array.getElem?_modify, h]
end
/-- What is known in the loop over quarters. -/
structure AbAt (w wr : World) (lev : Int) (kk : Kd) (pp : Int) (o : Bx) : Prop where
  nd : NR wr w.heap.size lev kk pp
  res : BR wr (w.heap.size + 1) (0, 0, 0, 0)
  out : BR wr (w.heap.size + 1 + 1) o
  bel : Below w.heap.size w wr
section
variable {w wr w' : World} {lev : Int} {kk : Kd} {pp : Int} {o : Bx}
theorem AbAt.below (h : AbAt w wr lev kk pp o) (hb : Below wr.heap.size wr w') : AbAt w w' lev kk pp o := ⟨h.nd.below hb, h.res.below hb, h.out.below hb, Qt.more h.bel h.bel.size hb⟩
theorem set4_other {b i : Nat} (h : i ≠ b) (x y z u : Value) : ((((wr.setCell ⟨b, 0, none⟩ x).setCell ⟨b, 1, none⟩ y).setCell ⟨b, 2, none⟩ z).setCell ⟨b, 3, none⟩ u).heap[i]? = wr.heap[i]? := by
  rw [Below.heap_setCell _ _ _ _ (by show i ≠ b; exact h), Below.heap_setCell _ _ _ _ (by show i ≠ b; exact h), Below.heap_setCell _ _ _ _ (by show i ≠ b; exact h), Below.heap_setCell _ _ _ _ (by show i ≠ b; exact h)]
theorem AbAt.told (h : AbAt w wr lev kk pp o) (y : Bx) : AbAt w ((((wr.setCell ⟨w.heap.size + 1 + 1, 0, none⟩ (.int .i64 y.1)).setCell ⟨w.heap.size + 1 + 1, 1, none⟩ (.int .i64 y.2.1)).setCell ⟨w.heap.size + 1 + 1, 2, none⟩ (.int .i64 y.2.2.1)).setCell ⟨w.heap.size + 1 + 1, 3, none⟩ (.int .i64 y.2.2.2)) lev kk pp y := by
  have hle : w.heap.size ≤ w.heap.size + 1 + 1 := by omega
  refine ⟨?_, ?_, h.out.told y, (((h.bel.setCell hle _).setCell hle _).setCell hle _).setCell hle _⟩
  · have := h.nd; unfold NR at this ⊢; rw [set4_other (by omega)]; exact this
  · have := h.res; unfold BR at this ⊢; rw [set4_other (by omega)]; exact this
end
theorem abAt_0 (w : World) (lev : Int) (kk : Kd) (pp : Int) : AbAt w (((w.alloc (.cells #[.int .i64 lev, .int .i64 kk.1, .int .i64 kk.2.1, .int .i64 kk.2.2.1, .int .i64 kk.2.2.2, .int .i64 pp] 57)).alloc (.cells #[.int .i64 0, .int .i64 0, .int .i64 0, .int .i64 0] 45)).alloc (.cells #[.int .i64 0, .int .i64 0, .int .i64 0, .int .i64 0] 45)) lev kk pp (0, 0, 0, 0) := by
  have hal := (((Below.refl w.heap.size w).alloc (Nat.le_refl _) (.cells #[.int .i64 lev, .int .i64 kk.1, .int .i64 kk.2.1, .int .i64 kk.2.2.1, .int .i64 kk.2.2.2, .int .i64 pp] 57)).alloc (by simp) (.cells #[.int .i64 0, .int .i64 0, .int .i64 0, .int .i64 0] 45)).alloc (by simp; omega) (.cells #[.int .i64 0, .int .i64 0, .int .i64 0, .int .i64 0] 45)
  exact ⟨heap_old (heap_old (heap_new rfl)), heap_old (heap_new (by simp)), heap_new (by simp), hal⟩
set_option maxHeartbeats 16000000 in
theorem about_any {room : Int} (l : List Nd) (hr : Right6 l room) (q N n k : Nat) (hk : k ≤ 42) (hn : Is l k n) (hN : n < N) (hNb : N ≤ 1000001) (f : Nat → Bx) (hf : ∀ i k', i < n → Is l k' i → f i = boxN l k' i) (w : World) (hB : BxRow w q N f n) :
    Calls Tryz.prog 42 #[.agg #[.int .i64 (l.getD n deadN).1, .int .i64 (l.getD n deadN).2.1.1, .int .i64 (l.getD n deadN).2.1.2.1, .int .i64 (l.getD n deadN).2.1.2.2.1, .int .i64 (l.getD n deadN).2.1.2.2.2, .int .i64 (l.getD n deadN).2.2], .slice (some ⟨q, 0, none⟩) N N] w fun r w' => r = .returned (boxV (boxN l k n)) ∧ Below w.heap.size w w' := by
  cases k with
  | zero =>
    have hn2 := hn.zero hr
    have hlev : (l.getD n deadN).1 = 0 := hn.lev
    have hbx : boxN l 0 n = (0, 0, (l.getD n deadN).2.2, (l.getD n deadN).2.2) := by
      rcases (by omega : n = 0 ∨ n = 1) with h | h
      · rw [h, hr.dead]; rfl
      · rw [h, hr.live]; rfl
    rw [hbx, hlev]
    generalize (l.getD n deadN) = x at *
    obtain ⟨lv, kk, pp⟩ := x
    dsimp only
    clear hbx hlev hB hf hn hr
    go_enter Tryz.func42, Tryz.ntmps42
    go_wp2_with fail
    refine bodyPost_ret (results_cell1 rfl _ _ (w.heap.size + 1) _ _ _ _ rfl (heap_new (by simp)) Tryz.underlying45 rfl (by kernel_rfl)) rfl ?_
    exact ⟨rfl, ((Below.refl _ _).alloc (Nat.le_refl _) _).alloc (by simp) _⟩
  | succ k =>
    have hlev : (l.getD n deadN).1 = (k : Int) + 1 := by rw [hn.lev]; omega
    have hkid : ∀ i, i < 4 → kd (l.getD n deadN).2.1 i = ((kidN l n i : Nat) : Int) ∧ kidN l n i < n ∧ f (kidN l n i) = boxN l k (kidN l n i) := fun i hi => by
      have h1 := kid_cast hr hn hi
      have h2 := ((fits_iff.1 (hr.fits n (hn.two hr) hn.lt)).kid i hi).2.1
      rw [h1] at h2
      exact ⟨h1, by omega, hf _ k (by omega) (kid_is hr hn hi)⟩
    rw [hlev]
    have hall := boxTo_all l k n
    have HM : Hid (∀ i, i ≤ 4 → GoodB (2 ^ (k + 1)) (boxTo l k n i)) := fun i hi => boxTo_good l k n i hi
    have hpw : (2 : Int) ^ (k + 1) ≤ 4398046511104 := pow_le7 (f := 42) hk
    have hpk := pow_pos7 k
    have e2 : (2 : Int) ^ (k + 1) = 2 ^ k * 2 := Int.pow_succ ..
    obtain ⟨⟨lv, kk, pp⟩, hnode⟩ : ∃ x, x = l.getD n deadN := ⟨_, rfl⟩
    rw [← hnode] at hkid ⊢
    dsimp only at hkid ⊢
    have HA0 := Lib.hid (abAt_0 w ((k : Int) + 1) kk pp)
    have l0 := HA0.out.nd.lev_
    have k0 := HA0.out.nd.kid (i := 0) (by decide)
    have k1 := HA0.out.nd.kid (i := 1) (by decide)
    have k2 := HA0.out.nd.kid (i := 2) (by decide)
    have k3 := HA0.out.nd.kid (i := 3) (by decide)
    simp only [kd] at k0 k1 k2 k3
    have HIX := Lib.hid (kd_index kk)
    have hk1 : (((k : Int) + 1) == 0) = false := beq_eq_false_iff_ne.2 (by omega)
    have hk2 : ¬ (k : Int) + 1 = 0 := by omega
    have HB := Lib.hid hB
    have HK := Lib.hid hkid
    obtain ⟨z, hz⟩ : ∃ z, z = boxN l (k + 1) n := ⟨_, rfl⟩
    rw [← hz] at hall ⊢
    have HALL := Lib.hid hall
    have HQ : Hid (∀ i, GoodB (2 ^ k) (boxN l k i)) := fun i => boxN_good l k i
    clear hlev hkid hnode hB hf hn hr hall hz
    go_enter Tryz.func42, Tryz.ntmps42
    go_wp2_with fail
    clear l0 k0 k1 k2 k3
    generalize (((w.alloc (.cells #[.int .i64 ((k : Int) + 1), .int .i64 kk.1, .int .i64 kk.2.1, .int .i64 kk.2.2.1, .int .i64 kk.2.2.2, .int .i64 pp] 57)).alloc (.cells #[.int .i64 0, .int .i64 0, .int .i64 0, .int .i64 0] 45)).alloc (.cells #[.int .i64 0, .int .i64 0, .int .i64 0, .int .i64 0] 45)) = v0 at *
    go_loopw [20] (fun i wr => ∃ j : Nat, j ≤ 4 ∧ i = .int .i64 j ∧ Hid (AbAt w wr ((k : Int) + 1) kk pp (boxTo l k n j))) (fun i _ => 4 - (intOf i).toNat)
    case atStart => exact ⟨0, by omega, rfl, HA0.out⟩
    case round =>
      obtain ⟨j, hj, rfl, HH⟩ := hrel
      by_cases hlt : j < 4
      · have hltz : (j : Int) < 4 := by omega
        obtain ⟨hk3, hk4, hk5⟩ := HK.out j hlt
        have hixj := HIX.out j hlt
        rw [hk3] at hixj
        have l0 := HH.out.nd.lev_
        have has := fun W => aside_any k (by omega) j hlt W
        have hoff := off_bd k j hlt
        have hgo := HM.out j (by omega)
        have hgb := HQ.out (kidN l n j)
        have hnext : boxTo l k n (j + 1) = both7 (boxTo l k n j) (shift7 (boxN l k (kidN l n j)) (((j % 2 : Nat) : Int) * 2 ^ k) (((j / 2 : Nat) : Int) * 2 ^ k)) := rfl
        obtain ⟨b0, b1, b2, b3⟩ := (HB.out.below HH.out.bel).at_ hk4 (by omega)
        rw [hk5] at b0 b1 b2 b3
        obtain ⟨o0, o1, o2, o3⟩ := HH.out.out.c
        have hgs := shift_good hgb ⟨hoff.1, hoff.2.1⟩ ⟨hoff.2.2.1, hoff.2.2.2⟩
        rw [← e2] at hgs
        have hknN : ((kidN l n j : Nat) : Int) < (N : Int) := by omega
        generalize ((j % 2 : Nat) : Int) * 2 ^ k = rx at *
        generalize ((j / 2 : Nat) : Int) * 2 ^ k = ry at *
        generalize boxN l k (kidN l n j) = bb at *
        have HN2 := Lib.hid hnext
        have HS := Lib.hid HH
        generalize boxTo l k n j = oo at *
        generalize kidN l n j = kn at *
        have hsh := fun W => shifted_any bb rx ry (by unfold GoodB at hgs; unfold shift7 at hgs; unfold I64; dsimp only at hgs; omega) (by unfold GoodB at hgs; unfold shift7 at hgs; unfold I64; dsimp only at hgs; omega) W
        have hbo := fun W => both_any (M := 2 ^ (k + 1)) (by omega) oo (shift7 bb rx ry) hgo hgs W
        obtain ⟨bx, by_, bw, bh⟩ := bb
        obtain ⟨ox, oy, ow, oh⟩ := oo
        unfold boxV at hsh hbo
        dsimp only at hsh hbo b0 b1 b2 b3 o0 o1 o2 o3
        unfold shift7 at hsh hbo HN2
        dsimp only at hsh hbo HN2
        generalize hnn : both7 (ox, oy, ow, oh) (bx + rx, by_ + ry, bw, bh) = nn at *
        obtain ⟨nx, ny, nw, nh⟩ := nn
        dsimp only at hbo
        have hsh2 := fun W (_ : Below wr.heap.size wr W) => hsh W
        have hbo2 := fun W (_ : Below wr.heap.size wr W) => hbo W
        have p0 := Qt.cell_in b0
        have p1 := Qt.cell_in b1
        have p2 := Qt.cell_in b2
        have p3 := Qt.cell_in b3
        have p4 := Qt.cell_in o0
        have p5 := Qt.cell_in o1
        have p6 := Qt.cell_in o2
        have p7 := Qt.cell_in o3
        clear hnext hgo hgb hgs hoff hk3 hk5 HH hsh hbo hnn b0 b1 b2 b3 o0 o1 o2 o3
        go_wp2_with fail
        refine (has _).mono ?_
        rintro r w5 ⟨rfl, rfl⟩
        clear has l0
        go_wp2_with fail
        refine Qt.below_tail 9 (by kernel_rfl) (by kernel_rfl) ?_
        simp only [List.take_succ_cons, List.take_zero]
        iterate 9 (go_big_quiet_step (first | (go_at_call 43; exact Qt.at_call' hsh2) | (go_at_call 76; exact Qt.at_call' hbo2)))
        refine wpQuiet_nil ?_
        intro w7 hb7
        have hA7 := HS.out.out.below hb7
        have f0 := hA7.out.f 0
        have f1 := hA7.out.f 1
        have f2 := hA7.out.f 2
        have f3 := hA7.out.f 3
        obtain ⟨o0, o1, o2, o3⟩ := hA7.out.c
        dsimp only at o0 o1 o2 o3
        have hA8 := hA7.told (nx, ny, nw, nh)
        dsimp only at hA8
        have HA8 := Lib.hid hA8
        clear hb7 p0 p1 p2 p3 p4 p5 p6 p7 hsh2 hbo2 hA7 hA8 HS
        simp only [List.drop_succ_cons, List.drop_zero]
        go_wp2_with fail
        go_roundw
        case measure => simp [intOf]; omega
        case rel =>
          refine ⟨j + 1, by omega, by go_num, ?_⟩
          rw [HN2.out]
          exact HA8.out
      · obtain rfl : j = 4 := by omega
        have hltz : ¬ ((4 : Nat) : Int) < 4 := by decide
        have hA := HH.out
        rw [HALL.out] at hA
        obtain ⟨zx, zy, zw, zh⟩ := z
        have f0 := hA.res.f 0
        have f1 := hA.res.f 1
        have f2 := hA.res.f 2
        have f3 := hA.res.f 3
        obtain ⟨o0, o1, o2, o3⟩ := hA.out.c
        obtain ⟨r0, r1, r2, r3⟩ := hA.res.c
        dsimp only at o0 o1 o2 o3 r0 r1 r2 r3
        have ht := hA.res.told (zx, zy, zw, zh)
        have hle : w.heap.size ≤ w.heap.size + 1 := by omega
        have HBF := Lib.hid ((((hA.bel.setCell (p := ⟨w.heap.size + 1, 0, none⟩) hle (.int .i64 zx)).setCell (p := ⟨w.heap.size + 1, 1, none⟩) hle (.int .i64 zy)).setCell (p := ⟨w.heap.size + 1, 2, none⟩) hle (.int .i64 zw)).setCell (p := ⟨w.heap.size + 1, 3, none⟩) hle (.int .i64 zh))
        unfold BR at ht
        dsimp only at ht
        have HT := Lib.hid ht
        clear hA HH ht hlt hj HALL
        go_wp2_with fail
        refine bodyPost_ret (results_cell1 rfl _ _ _ _ _ _ _ rfl HT.out Tryz.underlying45 rfl (by kernel_rfl)) rfl ?_
        exact ⟨rfl, HBF.out⟩
end Go.Proofs.YtmmaeikeafemaaaGreat
namespace Go.Proofs.YtmmaeikeafemaaaGreat
set_option maxRecDepth 100000
set_option linter.unusedVariables false
set_option linter.unusedSimpArgs false
open Go.RowKit Go.Sort

theorem infoBox : (Tryz.prog.info? 45).map (fun i => (i.zero, i.size, i.bytes)) = some (some (.agg #[.int .i64 0, .int .i64 0, .int .i64 0, .int .i64 0]), 4, 32) := by kernel_rfl
/-- each node's box -/
def boxF (l : List Nd) (i : Nat) : Bx := boxN l (l.getD i deadN).1.toNat i
/-- the store and what is to be told -/
structure BbAt (w wr : World) (A : Option Addr) (n c : Nat) (room : Int) : Prop where
  st : StoreAt w wr A n c room
  res : BR wr (w.heap.size + 1) (0, 0, 0, 0)
section
variable {w wr w' : World} {A : Option Addr} {n c : Nat} {room : Int}
theorem BbAt.below (h : BbAt w wr A n c room) (hb : Below wr.heap.size wr w') : BbAt w w' A n c room := ⟨h.st.below7 hb, h.res.below hb⟩
theorem BbAt.past (h : BbAt w wr A n c room) {b : Nat} (hb : w.heap.size + 1 < b) (x y z u : Value) (o : Nat) : BbAt w ((((wr.setCell ⟨b, o, none⟩ x).setCell ⟨b, o + 1, none⟩ y).setCell ⟨b, o + 2, none⟩ z).setCell ⟨b, o + 3, none⟩ u) A n c room := by
  have hle : w.heap.size ≤ b := by omega
  have ho : ∀ i, i ≠ b → ((((wr.setCell ⟨b, o, none⟩ x).setCell ⟨b, o + 1, none⟩ y).setCell ⟨b, o + 2, none⟩ z).setCell ⟨b, o + 3, none⟩ u).heap[i]? = wr.heap[i]? := fun i h => by
    rw [Below.heap_setCell _ _ _ _ (by show i ≠ b; exact h), Below.heap_setCell _ _ _ _ (by show i ≠ b; exact h), Below.heap_setCell _ _ _ _ (by show i ≠ b; exact h), Below.heap_setCell _ _ _ _ (by show i ≠ b; exact h)]
  refine ⟨⟨(ho _ (by omega)).trans h.st.store, (((h.st.bel.setCell hle _).setCell hle _).setCell hle _).setCell hle _⟩, ?_⟩
  have := h.res
  unfold BR at this ⊢
  rw [ho _ (by omega)]
  exact this
end
theorem bbAt_0 (w : World) (A : Option Addr) (n c : Nat) (room : Int) : BbAt w ((w.alloc (.cells #[.slice A n c, .int .i64 room] 26)).alloc (.cells #[.int .i64 0, .int .i64 0, .int .i64 0, .int .i64 0] 45)) A n c room :=
  ⟨⟨heap_old (heap_new rfl), ((Below.refl _ _).alloc (Nat.le_refl _) _).alloc (by simp) _⟩, heap_new (by simp)⟩
def BoxR (p : Bx × Bool) (w : World) (r : Ending) (w' : World) : Prop := r = .returned (.tuple #[boxV p.1, .bool p.2]) ∧ Below w.heap.size w w'
set_option maxHeartbeats 16000000 in
theorem box7_any (A : Option Addr) (l : List Nd) (c : Nat) (room n : Int) (w : World) (hR : RdN w w.heap.size A l) (hl : l.length ≤ 1000000) (hc : l.length ≤ c) :
    Calls Tryz.prog 13 #[storeV A l.length c room, .int .i64 n] w (BoxR (box7 l room n (hasB l n)) w) := by
  have hG0 := bbAt_0 w A l.length c room
  have hright := nodeRight_any A l c room _ ((hR.below hG0.st.bel (Nat.le_refl _)).more hG0.st.bel.size) hl hc
  have s0 := hG0.st.s0
  have s1 := hG0.st.s1
  have HG := Lib.hid hG0
  unfold storeV at hright ⊢
  have hno : ∀ wr, BbAt w wr A l.length c room → Hid ((wr.cell? ⟨w.heap.size + 1, 0, none⟩ = some (.int .i64 0) ∧ wr.cell? ⟨w.heap.size + 1, 1, none⟩ = some (.int .i64 0) ∧ wr.cell? ⟨w.heap.size + 1, 2, none⟩ = some (.int .i64 0) ∧ wr.cell? ⟨w.heap.size + 1, 3, none⟩ = some (.int .i64 0)) ∧ ∀ y : Bx, ((((wr.setCell ⟨w.heap.size + 1, 0, none⟩ (.int .i64 y.1)).setCell ⟨w.heap.size + 1, 1, none⟩ (.int .i64 y.2.1)).setCell ⟨w.heap.size + 1, 2, none⟩ (.int .i64 y.2.2.1)).setCell ⟨w.heap.size + 1, 3, none⟩ (.int .i64 y.2.2.2)).heap[w.heap.size + 1]? = some (.cells #[.int .i64 y.1, .int .i64 y.2.1, .int .i64 y.2.2.1, .int .i64 y.2.2.2] 45 (0, 0)) ∧ Below w.heap.size w ((((wr.setCell ⟨w.heap.size + 1, 0, none⟩ (.int .i64 y.1)).setCell ⟨w.heap.size + 1, 1, none⟩ (.int .i64 y.2.1)).setCell ⟨w.heap.size + 1, 2, none⟩ (.int .i64 y.2.2.1)).setCell ⟨w.heap.size + 1, 3, none⟩ (.int .i64 y.2.2.2))) := by
    intro wr h
    have hle : w.heap.size ≤ w.heap.size + 1 := by omega
    exact ⟨h.res.c, fun y => ⟨h.res.told y, (((h.st.bel.setCell hle _).setCell hle _).setCell hle _).setCell hle _⟩⟩
  have HNO := Lib.hid hno
  clear hG0 hno
  cases hr : right6 l room with
  | false =>
    have hz : box7 l room n (hasB l n) = ((0, 0, 0, 0), false) := by unfold box7; rw [hr]; rfl
    rw [hz]
    rw [hr] at hright
    clear hz hr hR
    go_enter Tryz.func13, Tryz.ntmps13
    go_wp2_with (go_at_call 34; refine hright.mono ?_; rintro r w1 ⟨rfl, hb1⟩; have H1 := Lib.hid (HG.out.below hb1); have H2 := HNO.out w1 H1.out; obtain ⟨r0, r1, r2, r3⟩ := H2.out.1; have f0 := H1.out.res.f 0; have f1 := H1.out.res.f 1; have f2 := H1.out.res.f 2; have f3 := H1.out.res.f 3; clear hb1 hright s0 s1)
    refine bodyPost_ret (results_cell2 rfl _ _ _ _ _ _ _ rfl (H2.out.2 (0, 0, 0, 0)).1 Tryz.underlying45 rfl (by kernel_rfl)) rfl ?_
    exact ⟨rfl, (H2.out.2 (0, 0, 0, 0)).2⟩
  | true =>
    rw [hr] at hright
    have hR6 := right_iff.1 hr
    have h2 := hR6.two
    have hhs := fun W (h : BbAt w W A l.length c room) => hasSquare_any A l c room n W ((hR.below h.st.bel (Nat.le_refl _)).more h.st.bel.size) hl
    unfold storeV at hhs
    cases hb : hasB l n with
    | false =>
      have hz : box7 l room n false = ((0, 0, 0, 0), false) := by unfold box7; rw [hr]; rfl
      rw [hz]
      rw [hb] at hhs
      have HHS := Lib.hid hhs
      clear hz hr hR hb hhs hR6
      go_enter Tryz.func13, Tryz.ntmps13
      go_wp2_with fail
      refine hright.mono ?_
      rintro r w1 ⟨rfl, hb1⟩
      have H1 := Lib.hid (HG.out.below hb1)
      have t0 := H1.out.st.s0
      have t1 := H1.out.st.s1
      clear hb1 hright s0 s1
      go_wp2_with fail
      refine (HHS.out w1 H1.out).mono ?_
      rintro r w2 ⟨rfl, hb2⟩
      have H3 := Lib.hid (H1.out.below hb2)
      have H2 := HNO.out w2 H3.out
      obtain ⟨r0, r1, r2, r3⟩ := H2.out.1
      have f0 := H3.out.res.f 0
      have f1 := H3.out.res.f 1
      have f2 := H3.out.res.f 2
      have f3 := H3.out.res.f 3
      clear hb2 t0 t1
      go_wp2_with fail
      refine bodyPost_ret (results_cell2 rfl _ _ _ _ _ _ _ rfl (H2.out.2 (0, 0, 0, 0)).1 Tryz.underlying45 rfl (by kernel_rfl)) rfl ?_
      exact ⟨rfl, (H2.out.2 (0, 0, 0, 0)).2⟩
    | true =>
      rw [hb] at hhs
      have HHS := Lib.hid hhs
      unfold hasB at hb
      rw [decide_eq_true_eq] at hb
      obtain ⟨h1, h2', h3⟩ := hb
      obtain ⟨m, rfl⟩ : ∃ m : Nat, n = (m : Int) := ⟨n.toNat, by omega⟩
      rw [ndAt_nat] at h3
      have hbd := right_bd hR6 m (by omega)
      obtain ⟨e, he⟩ : ∃ e : Nat, (l.getD m deadN).1 = (e : Int) + 1 := ⟨((l.getD m deadN).1 - 1).toNat, by omega⟩
      have he41 : e ≤ 41 := by omega
      have hIs : Is l (e + 1) m := ⟨by omega, by rw [he]; omega⟩
      have hz : box7 l room (m : Int) true = if (l.getD m deadN).2.2 = 0 then ((0, 0, 0, 0), false) else (shift7 (boxN l (e + 1) m) (-(2 ^ e)) (-(2 ^ e)), true) := by
        unfold box7
        rw [hr, ndAt_nat, he, show ((e : Int) + 1).toNat = e + 1 by omega, show e + 1 - 1 = e by omega, Int.toNat_natCast]
        generalize (l.getD m deadN).2.2 = pq
        by_cases h : pq = 0
        · rw [if_pos h, if_neg (by simp [h])]
        · rw [if_neg h, if_pos (by simp [h])]
      have hmz : (m : Int) < (l.length : Int) := by omega
      have hl5 := hR6.small
      obtain ⟨b0, off, rfl, hbB, hcell⟩ := hR.at_ (by omega)
      have HC := Lib.hid hcell
      have HR6 := Lib.hid hR6
      have HIS := Lib.hid hIs
      have HE := Lib.hid he
      have HZ := Lib.hid hz
      clear hhs hR hr hz hcell hR6 hIs hbd h1 h2' h3 he
      by_cases hp0 : (l.getD m deadN).2.2 = 0
      · have hz := HZ.out
        rw [if_pos hp0] at hz
        rw [hz]
        clear HZ hz
        go_enter Tryz.func13, Tryz.ntmps13
        go_wp2_with fail
        refine hright.mono ?_
        rintro r w1 ⟨rfl, hb1⟩
        have H1 := Lib.hid (HG.out.below hb1)
        have t0 := H1.out.st.s0
        have t1 := H1.out.st.s1
        clear hb1 hright s0 s1
        go_wp2_with fail
        refine (HHS.out w1 H1.out).mono ?_
        rintro r w2 ⟨rfl, hb2⟩
        have H3 := Lib.hid (H1.out.below hb2)
        have p5 := Qt.keep H3.out.st.bel (HC.out m (by omega)).2.2.2.2.2
        rw [hp0] at p5
        have u0 := H3.out.st.s0
        have H2 := HNO.out w2 H3.out
        obtain ⟨r0, r1, r2, r3⟩ := H2.out.1
        have f0 := H3.out.res.f 0
        have f1 := H3.out.res.f 1
        have f2 := H3.out.res.f 2
        have f3 := H3.out.res.f 3
        clear hb2 t0 t1
        go_wp2_with fail
        refine bodyPost_ret (results_cell2 rfl _ _ _ _ _ _ _ rfl (H2.out.2 (0, 0, 0, 0)).1 Tryz.underlying45 rfl (by kernel_rfl)) rfl ?_
        exact ⟨rfl, (H2.out.2 (0, 0, 0, 0)).2⟩
      · have hz := HZ.out
        rw [if_neg hp0] at hz
        rw [hz]
        obtain ⟨i0, hi, hz0, hz1, hz2⟩ := info_parts infoBox
        have hmk : ∀ u : World, (Instr.makeSlice 77 (.int .i64 ((m : Int) + 1)) (.int .i64 ((m : Int) + 1))).run Tryz.prog u = .ok (.slice (some ⟨u.heap.size, 0, none⟩) (m + 1) (m + 1)) (u.alloc (.cells (madeCells #[.int .i64 0, .int .i64 0, .int .i64 0, .int .i64 0] ((m + 1) * 4)) 45)) := fun u => by
          have h := run_make (P := Tryz.prog) u 77 45 i0 _ Tryz.underlying77 hi hz0 .i64 .i64 ((m : Int) + 1) ((m : Int) + 1) (by omega) (Int.le_refl _) (by rw [hz2]; omega) (by omega)
          have e1 : ((m : Int) + 1).toNat = m + 1 := by omega
          simpa [hz1, Value.cells, e1] using h
        have hp1 : ((l.getD m deadN).2.2 == 0) = false := beq_eq_false_iff_ne.2 hp0
        obtain ⟨pp, hpp⟩ : ∃ pp, pp = (l.getD m deadN).2.2 := ⟨_, rfl⟩
        rw [← hpp] at hp0 hp1
        have HPP := Lib.hid hpp
        clear HZ hz hi hz0 hz1 hz2 hpp
        go_enter Tryz.func13, Tryz.ntmps13
        go_wp2_with fail
        refine hright.mono ?_
        rintro r w1 ⟨rfl, hb1⟩
        have H1 := Lib.hid (HG.out.below hb1)
        have t0 := H1.out.st.s0
        have t1 := H1.out.st.s1
        clear hb1 hright s0 s1
        go_wp2_with fail
        refine (HHS.out w1 H1.out).mono ?_
        rintro r w2 ⟨rfl, hb2⟩
        have H3 := H1.out.below hb2
        have p5 := Qt.keep H3.st.bel (HC.out m (by omega)).2.2.2.2.2
        rw [← HPP.out] at p5
        have u0 := H3.st.s0
        have hal := (Below.refl w2.heap.size w2).alloc (Nat.le_refl _) (.cells (madeCells #[.int .i64 0, .int .i64 0, .int .i64 0, .int .i64 0] ((m + 1) * 4)) 45)
        have hq : w.heap.size + 1 < w2.heap.size := lt_heap6 H3.res
        have HL0 : Hid (BbAt w (w2.alloc (.cells (madeCells #[.int .i64 0, .int .i64 0, .int .i64 0, .int .i64 0] ((m + 1) * 4)) 45)) (some ⟨b0, off, none⟩) l.length c room ∧ BxRow (w2.alloc (.cells (madeCells #[.int .i64 0, .int .i64 0, .int .i64 0, .int .i64 0] ((m + 1) * 4)) 45)) w2.heap.size (m + 1) (boxF l) 0) :=
          ⟨H3.below hal, ⟨_, heap_alloc_new w2 _, size_madeCells _ _, fun i hi => absurd hi (Nat.not_lt_zero i)⟩⟩
        clear hb2 t0 t1 H1 H3 hal HHS
        go_wp2_with fail
        clear hmk p5 u0
        generalize (w2.alloc (.cells (madeCells #[.int .i64 0, .int .i64 0, .int .i64 0, .int .i64 0] ((m + 1) * 4)) 45)) = w3 at *
        generalize w2.heap.size = q at *
        go_loopw [33] (fun i wr => ∃ j : Nat, j ≤ m + 1 ∧ i = .int .i64 j ∧ Hid (BbAt w wr (some ⟨b0, off, none⟩) l.length c room ∧ BxRow wr q (m + 1) (boxF l) j)) (fun i _ => m + 1 - (intOf i).toNat)
        case atStart => exact ⟨0, by omega, rfl, HL0.out⟩
        case round =>
          obtain ⟨j, hj, rfl, HH⟩ := hrel
          by_cases hlt : j < m + 1
          · have hltz : (j : Int) < (m : Int) + 1 := by omega
            obtain ⟨n0, n1, n2, n3, n4, n5⟩ := HC.out j (by omega)
            have m0 := Qt.keep HH.out.1.st.bel n0
            have m1 := Qt.keep HH.out.1.st.bel n1
            have m2 := Qt.keep HH.out.1.st.bel n2
            have m3 := Qt.keep HH.out.1.st.bel n3
            have m4 := Qt.keep HH.out.1.st.bel n4
            have m5 := Qt.keep HH.out.1.st.bel n5
            have u0 := HH.out.1.st.s0
            have hbj := right_bd HR6.out j (by omega)
            have hIj : Is l (l.getD j deadN).1.toNat j := ⟨by omega, by omega⟩
            have hab := about_any l HR6.out q (m + 1) j (l.getD j deadN).1.toNat (by omega) hIj (by omega) (by omega) (boxF l) (fun i k' _ hi => by unfold boxF; rw [hi.lev, Int.toNat_natCast]) wr HH.out.2
            have hjz : (j : Int) < (l.length : Int) := by omega
            have hjm : (j : Int) < ((m + 1 : Nat) : Int) := by omega
            have hbv : boxF l j = boxN l (l.getD j deadN).1.toNat j := rfl
            rw [← hbv] at hab
            generalize (l.getD j deadN) = x at *
            obtain ⟨lv, kk, pq⟩ := x
            dsimp only at m0 m1 m2 m3 m4 m5 hab
            have HS := Lib.hid HH
            clear n0 n1 n2 n3 n4 n5 hbj hIj HH hbv HL0
            go_wp2_with fail
            clear m0 m1 m2 m3 m4 m5 u0
            refine hab.mono ?_
            rintro r w5 ⟨rfl, hb5⟩
            have hB5 := HS.out.out.1.below hb5
            have hX5 := HS.out.out.2.below hb5
            obtain ⟨o0, g0⟩ := hX5.some_ (i := j * 4) (by omega)
            obtain ⟨o1, g1⟩ := hX5.some_ (i := j * 4 + 1) (by omega)
            obtain ⟨o2, g2⟩ := hX5.some_ (i := j * 4 + 2) (by omega)
            obtain ⟨o3, g3⟩ := hX5.some_ (i := j * 4 + 3) (by omega)
            have f0 := hX5.free (j * 4)
            have f1 := hX5.free (j * 4 + 1)
            have f2 := hX5.free (j * 4 + 2)
            have f3 := hX5.free (j * 4 + 3)
            have hX6 := hX5.next (by omega)
            have hB6 := hB5.past hq (.int .i64 (boxF l j).1) (.int .i64 (boxF l j).2.1) (.int .i64 (boxF l j).2.2.1) (.int .i64 (boxF l j).2.2.2) (j * 4)
            have HN6 := Lib.hid (And.intro hB6 hX6)
            generalize boxF l j = bb at *
            clear hab hb5 hB5 hX5 hX6 hB6 HS
            go_wp2_with fail
            go_roundw
            case measure => simp [intOf]; omega
            case rel => exact ⟨j + 1, by omega, by go_num, HN6.out⟩
          · obtain rfl : j = m + 1 := by omega
            have hltz : ¬ (((m + 1 : Nat)) : Int) < (m : Int) + 1 := by omega
            have m0 := Qt.keep HH.out.1.st.bel (HC.out m (by omega)).1
            rw [HE.out] at m0
            have u0 := HH.out.1.st.s0
            obtain ⟨x0, x1, x2, x3⟩ := HH.out.2.at_ (i := m) (by omega) (by omega)
            have hbF : boxF l m = boxN l (e + 1) m := by unfold boxF; rw [HE.out, show ((e : Int) + 1).toNat = e + 1 by omega]
            rw [hbF] at x0 x1 x2 x3
            have hgd := boxN_good l (e + 1) m
            obtain ⟨q1, q2⟩ := pow_bd7 (e := e) (by omega)
            have q4 : (2 : Int) ^ (e + 1) ≤ 4398046511104 := pow_le7 (f := 42) (by omega)
            have hneg : IntKind.i64.wrap (-(2 ^ e)) = -(2 ^ e) := by rw [IntKind.wrap_i64]; generalize (2 : Int) ^ e = p at *; omega
            have hhf := fun W => half_any e (by omega) W
            have hmm : (m : Int) < ((m + 1 : Nat) : Int) := by omega
            generalize boxN l (e + 1) m = bb at *
            have hsh := fun W => shifted_any bb (-(2 ^ e)) (-(2 ^ e)) (by unfold GoodB at hgd; unfold I64; generalize (2 : Int) ^ e = p at *; generalize (2 : Int) ^ (e + 1) = p2 at *; omega) (by unfold GoodB at hgd; unfold I64; generalize (2 : Int) ^ e = p at *; generalize (2 : Int) ^ (e + 1) = p2 at *; omega) W
            obtain ⟨bx, by_, bw, bh⟩ := bb
            unfold shift7 boxV at hsh
            unfold shift7
            dsimp only at hsh x0 x1 x2 x3 ⊢
            have HS := Lib.hid HH.out.1
            clear HH hlt hj HL0 hbF hgd q4 HG
            go_wp2_with fail
            refine (hhf wr).mono ?_
            rintro r w5 ⟨rfl, rfl⟩
            clear hhf m0
            go_wp2_with fail
            refine (hsh _).mono ?_
            rintro r w6 ⟨rfl, hb6⟩
            have H6 := HS.out.below hb6
            have H2 := HNO.out w6 H6
            obtain ⟨r0, r1, r2, r3⟩ := H2.out.1
            have f0 := H6.res.f 0
            have f1 := H6.res.f 1
            have f2 := H6.res.f 2
            have f3 := H6.res.f 3
            clear hsh hb6 H6 x0 x1 x2 x3 u0 HS HNO
            go_wp2_with fail
            refine bodyPost_ret (results_cell2 rfl _ _ _ _ _ _ _ rfl (H2.out.2 (bx + -(2 ^ e), by_ + -(2 ^ e), bw, bh)).1 Tryz.underlying45 rfl (by kernel_rfl)) rfl ?_
            exact ⟨rfl, (H2.out.2 (bx + -(2 ^ e), by_ + -(2 ^ e), bw, bh)).2⟩
end Go.Proofs.YtmmaeikeafemaaaGreat
namespace Go.Proofs.YtmmaeikeafemaaaGreat
set_option maxRecDepth 100000
def aw7S : List Nd := new6 ++ [(1, (0, 0, 0, 1), 1)]
def aw7T : List Nd := aw7S ++ [(1, (0, 0, 0, 0), 0), (1, (1, 0, 0, 0), 1), (2, (3, 3, 3, 4), 1)]
def aw7U : List Nd := aw7T ++ [(1, (0, 0, 1, 0), 1), (2, (3, 3, 6, 4), 2)]
theorem aw7_1 : make7 new6 50 [(0, 0)] 1 = (aw7S, 2, 0) := by kernel_rfl
theorem aw7_2 : grow7 aw7S 50 2 = (aw7T, 5, 0) := by kernel_rfl
theorem aw7_3 : cells7 aw7T 50 5 = ([(0, 0)], 0) := by kernel_rfl
theorem aw7_4 : get7 aw7T 50 5 (0, 0) = (true, 0) := by kernel_rfl
theorem aw7_5 : set7 aw7T 50 5 (-2, 1) true = (aw7U, 7, 0) := by kernel_rfl
theorem aw7_6 : box7 aw7U 50 7 (hasB aw7U 7) = ((-2, 0, 3, 2), true) := by kernel_rfl
theorem aw7_7 : make7 aw7S 50 [(1, 0)] 1 = (aw7S, 0, 2) := by kernel_rfl
theorem aw7_8 : box7 aw7S 50 0 (hasB aw7S 0) = ((0, 0, 0, 0), false) := by kernel_rfl
end Go.Proofs.YtmmaeikeafemaaaGreat
namespace Go.Proofs.YtmmaeikeafemaaaGreat
set_option maxRecDepth 100000
set_option linter.unusedVariables false
set_option linter.unusedSimpArgs false
open Go.RowKit Go.Sort

/-- a row of cells -/
def RowV (w : World) (q T : Nat) (xs : List Value) : Prop := w.heap[q]? = some (.cells xs.toArray T (0, 0))
section
variable {w w' : World} {q T : Nat} {xs : List Value}
theorem RowV.lt (h : RowV w q T xs) : q < w.heap.size := lt_heap6 h
theorem RowV.cell (h : RowV w q T xs) {i : Nat} {v : Value} (hi : xs[i]? = some v) : w.cell? ⟨q, i, none⟩ = some v := by
  rw [Lib.cell_of_heap h]
  simpa using hi
theorem RowV.free (h : RowV w q T xs) (i : Nat) : w.frozen? ⟨q, i, none⟩ = false := Lib.frozen_of_heap h i
theorem RowV.set (h : RowV w q T xs) (i : Nat) (u : Value) : RowV (w.setCell ⟨q, i, none⟩ u) q T (xs.set i u) := by
  unfold RowV at h ⊢
  simp [World.setCell, Array.getElem?_modify, h]
theorem RowV.other (h : RowV w q T xs) {p : Nat} (hne : q ≠ p) (i : Nat) (u : Value) : RowV (w.setCell ⟨p, i, none⟩ u) q T xs := by
  unfold RowV at h ⊢
  have hne' : p ≠ q := fun e => hne e.symm
  simp [World.setCell, Array.getElem?_modify, hne', h]
theorem RowV.below (h : RowV w q T xs) {B : Nat} (hb : Below B w w') (hB : q < B) : RowV w' q T xs := (hb.block _ hB).trans h
theorem RowV.now (h : RowV w q T xs) (hb : Below w.heap.size w w') : RowV w' q T xs := h.below hb h.lt
theorem RowV.drew (h : RowV w q T xs) : RowV w.drew q T xs := h
theorem RowV.made (w : World) (T : Nat) (xs : List Value) : RowV (w.alloc (.cells xs.toArray T)) w.heap.size T xs := heap_alloc_new w _
end
def boolsL (n : Nat) (f : Nat → Bool) : List Value := (List.range n).map fun i => .bool (f i)
def intsL (l : List Int) : List Value := l.map fun x => .int .i64 x
theorem intsL_set (l : List Int) (i : Nat) (x : Int) : (intsL l).set i (.int .i64 x) = intsL (l.set i x) := by
  unfold intsL
  rw [List.map_set]
/-- numbers told place by place: those below n by f, the others 0 -/
def numsL (n : Nat) (f : Nat → Int) : List Int := (List.range n).map f
theorem numsL_set (n i : Nat) (f : Nat → Int) (x : Int) : (numsL n f).set i x = numsL n (fun k => if k = i then x else f k) := by
  refine List.ext_getElem? fun k => ?_
  rw [List.getElem?_set]
  unfold numsL
  by_cases hk : k < n
  · rw [List.getElem?_map, List.getElem?_map, List.getElem?_range hk]
    by_cases hik : i = k
    · rw [if_pos hik, if_pos (by simp; omega)]
      simp [hik]
    · rw [if_neg hik]
      have : ¬ k = i := fun e => hik e.symm
      simp [this]
  · have h1 : ∀ g : Nat → Int, ((List.range n).map g)[k]? = none := fun g => List.getElem?_eq_none (by simp; omega)
    rw [h1, h1]
    split
    · rw [if_neg (by simp; omega)]
    · rfl
end Go.Proofs.YtmmaeikeafemaaaGreat
namespace Go.Proofs.YtmmaeikeafemaaaGreat
set_option maxRecDepth 100000
set_option linter.unusedVariables false
set_option linter.unusedSimpArgs false
open Go.RowKit Go.Sort Go.Shelf
attribute [local go_sem] Oper.semAt_some

/-- a node's place -/
abbrev Ind (l : List Nd) := { i : Nat // i < l.length }
/-- the last k places, from behind -/
def come (l : List Nd) (k : Nat) : List (Ind l) := (List.range k).filterMap fun j => if h : l.length - 1 - j < l.length then some ⟨l.length - 1 - j, h⟩ else none
/-- what lay below m, and block B, lies as it lay -/
def KpA (m B : Nat) (W W' : World) : Prop := ∀ k, (k < m ∨ k = B) → W'.heap[k]? = W.heap[k]?
theorem KpA.refl (m B : Nat) (W : World) : KpA m B W W := fun _ _ => rfl
theorem KpA.trans {m B : Nat} {W W' W'' : World} (h : KpA m B W W') (h' : KpA m B W' W'') : KpA m B W W'' := fun k hk => (h' k hk).trans (h k hk)
theorem KpA.nd {m B b o : Nat} {W W' : World} {x : Nd} (h : KpA m B W W') (hb : b < m) (hx : NdAt W b o x) : NdAt W' b o x := by
  have hc : ∀ i, W'.cell? ⟨b, i, none⟩ = W.cell? ⟨b, i, none⟩ := fun i => World.cell?_of_block (w := W) (h b (.inl hb))
  obtain ⟨h0, h1, h2, h3, h4, h5⟩ := hx
  exact ⟨(hc _).trans h0, (hc _).trans h1, (hc _).trans h2, (hc _).trans h3, (hc _).trans h4, (hc _).trans h5⟩

theorem KpA.setCell {m B : Nat} (W : World) {q i : Nat} (u : Value) (hm : m ≤ q) (hB : q ≠ B) : KpA m B W (W.setCell ⟨q, i, none⟩ u) := fun k hk => by
  have hne : q ≠ k := by rcases hk with h | h <;> omega
  simp [World.setCell, Array.getElem?_modify, hne]
theorem KpA.alloc {m B : Nat} (W : World) (o : Obj) (hm : m ≤ W.heap.size) (hB : B < W.heap.size) : KpA m B W (W.alloc o) := fun k hk => Lib.alloc_old _ _ _ (by omega)
/-! ### the flags -/
end Go.Proofs.YtmmaeikeafemaaaGreat
namespace Go.Proofs.YtmmaeikeafemaaaGreat
set_option maxRecDepth 100000
set_option linter.unusedVariables false
set_option linter.unusedSimpArgs false
open Go.RowKit Go.Sort

/-- a root is no place -/
def beyondB (n : Nat) (r : Int) : Bool := decide (r < 0) || decide ((n : Int) ≤ r)
def rootsB (l : List Nd) (R : List Int) : Bool := R.all fun r => decide (0 ≤ r) && decide (r < l.length)
theorem beyond_any (l : List Nd) (R : List Int) : (R.any fun r => beyondB l.length r) = !rootsB l R := by
  unfold rootsB
  rw [List.not_all_eq_any_not]
  congr 1
  funext r
  unfold beyondB
  rw [Bool.not_and]
  rw [Bool.eq_iff_iff]
  simp only [Bool.or_eq_true, decide_eq_true_eq, Bool.not_eq_true', decide_eq_false_iff_not]
  omega
end Go.Proofs.YtmmaeikeafemaaaGreat
namespace Go.Proofs.YtmmaeikeafemaaaGreat
set_option maxRecDepth 100000
set_option linter.unusedVariables false
set_option linter.unusedSimpArgs false
open Go.RowKit Go.Sort

/-- where the nodes seen so far are in the new store -/
def toF (K : Nat → Bool) (n : Nat) : Nat → Int := fun i => if i < n ∧ K i = true then (cnt K i : Int) else 0
section
variable {l : List Nd} {room : Int} {R : List Int} {K : Nat → Bool}
end
/-- What is known at the head of the loop over nodes. -/
structure LvAt (w wr : World) (A : Option Addr) (l : List Nd) (c : Nat) (room : Int) (K : Nat → Bool) (o q t n : Nat) (v : Value) : Prop where
  head : EmpHead w wr A l.length c room
  flg : RowV wr q 4 (boolsL l.length K)
  tor : RowV wr t 3 (intsL (numsL l.length (toF K n)))
  out : wr.heap[o]? = some (.cells #[v, .int .i64 room] 26 (0, 0))
  own : OwnN wr (w.heap.size + 2) v (newTo l K n)
  lo : w.heap.size + 2 ≤ o ∧ w.heap.size + 2 ≤ q ∧ w.heap.size + 2 ≤ t
section
variable {w wr w' : World} {A : Option Addr} {l : List Nd} {c : Nat} {room : Int} {K : Nat → Bool} {o q t n : Nat} {v : Value}
theorem LvAt.below (h : LvAt w wr A l c room K o q t n v) (hb : Below wr.heap.size wr w') : LvAt w w' A l c room K o q t n v :=
  ⟨h.head.below hb, h.flg.now hb, h.tor.now hb, (hb.block _ (lt_heap6 h.out)).trans h.out, h.own.below hb, h.lo⟩
theorem LvAt.c0 (h : LvAt w wr A l c room K o q t n v) : wr.cell? ⟨o, 0, none⟩ = some v := by rw [Lib.cell_of_heap h.out]; rfl
theorem LvAt.c1 (h : LvAt w wr A l c room K o q t n v) : wr.cell? ⟨o, 1, none⟩ = some (.int .i64 room) := by rw [Lib.cell_of_heap h.out]; rfl
theorem LvAt.f0 (h : LvAt w wr A l c room K o q t n v) : wr.frozen? ⟨o, 0, none⟩ = false := Lib.frozen_of_heap h.out 0
theorem LvAt.ot (h : LvAt w wr A l c room K o q t n v) : o ≠ t := by
  intro e
  have h1 := h.out
  have h2 := h.tor
  unfold RowV at h2
  rw [e, h2] at h1
  injection h1 with h1
  injection h1 with _ h1 _
  exact absurd h1 (by decide)
theorem LvAt.qt (h : LvAt w wr A l c room K o q t n v) : q ≠ t := by
  intro e
  have h1 := h.flg
  have h2 := h.tor
  unfold RowV at h1 h2
  rw [e, h2] at h1
  injection h1 with h1
  injection h1 with _ h1 _
  exact absurd h1 (by decide)
theorem own_ne {B i T : Nat} {cs : Array Value} {m : List Nd} (ho : OwnN wr B v m) (hi : wr.heap[i]? = some (.cells cs T (0, 0))) (hT : T ≠ 57) : v.ownBlock ≠ some i := by
  intro e
  obtain ⟨_, _, cs', fz, hc⟩ := ownN_kind ho i e
  rw [hi] at hc
  injection hc with hc
  injection hc with _ hc _
  exact hT hc
/-- a node's place is told -/
theorem LvAt.told (h : LvAt w wr A l c room K o q t n v) (i : Nat) (x : Int) (f : Nat → Int) (hf : (fun k => if k = i then x else toF K n k) = f) :
    EmpHead w (wr.setCell ⟨t, i, none⟩ (.int .i64 x)) A l.length c room ∧ RowV (wr.setCell ⟨t, i, none⟩ (.int .i64 x)) q 4 (boolsL l.length K) ∧ RowV (wr.setCell ⟨t, i, none⟩ (.int .i64 x)) t 3 (intsL (numsL l.length f)) ∧ (wr.setCell ⟨t, i, none⟩ (.int .i64 x)).heap[o]? = some (.cells #[v, .int .i64 room] 26 (0, 0)) ∧ OwnN (wr.setCell ⟨t, i, none⟩ (.int .i64 x)) (w.heap.size + 2) v (newTo l K n) := by
  have hb := h.lo.2.2
  have hset := h.tor.set i (.int .i64 x)
  rw [intsL_set, numsL_set, hf] at hset
  have hk : ∀ p, p < t → (wr.setCell ⟨t, i, none⟩ (.int .i64 x)).heap[p]? = wr.heap[p]? := fun p hp => Below.heap_setCell _ _ _ _ (by show p ≠ t; omega)
  have htor : wr.heap[t]? = some (.cells (intsL (numsL l.length (toF K n))).toArray 3 (0, 0)) := h.tor
  refine ⟨⟨(hk _ (by omega)).trans h.head.store, (hk _ (by omega)).trans h.head.res, h.head.bel.setCell (by show w.heap.size ≤ t; omega) _⟩, h.flg.other h.qt _ _, hset, ?_, World.ownsRow.kept h.own (but_set i _) (.inr (own_ne h.own htor (by decide)))⟩
  rw [Below.heap_setCell _ _ _ _ (by show o ≠ t; exact h.ot)]
  exact h.out
theorem LvAt.pushed {w7 w8 : World} {v v' : Value} {x : Nd} {ob : Obj} {m : List Nd} (hhead : EmpHead w w7 A l.length c room) (hflg : RowV w7 q 4 (boolsL l.length K)) (htor : RowV w7 t 3 (intsL (numsL l.length (toF K (n + 1)))))
    (hout : w7.heap[o]? = some (.cells #[v, .int .i64 room] 26 (0, 0))) (hown : OwnN w7 (w.heap.size + 2) v m) (hlo : w.heap.size + 2 ≤ o ∧ w.heap.size + 2 ≤ q ∧ w.heap.size + 2 ≤ t)
    (hg : (w7.alloc ob).grownBy w8 v.ownBlock) (hbp : Below (w.heap.size + 2) w7 w8) (ho : OwnN w8 (w.heap.size + 2) v' (m ++ [x])) (hs : newTo l K (n + 1) = m ++ [x]) :
    LvAt w (w8.setCell ⟨o, 0, none⟩ v') A l c room K o q t (n + 1) v' ∧ w8.heap[o]? = some (.cells #[v, .int .i64 room] 26 (0, 0)) := by
  have hsz : (w7.alloc ob).heap.size = w7.heap.size + 1 := by simp
  have hkeep : ∀ {i T : Nat} {cs : Array Value}, w7.heap[i]? = some (.cells cs T (0, 0)) → T ≠ 57 → w8.heap[i]? = some (.cells cs T (0, 0)) := by
    intro i T cs hi hT
    rw [hg.block i (by have := lt_heap6 hi; omega) (fun e => own_ne hown hi hT e.symm), Lib.alloc_old _ _ _ (lt_heap6 hi)]
    exact hi
  have hout8 := hkeep hout (by decide)
  have hflg8 : RowV w8 q 4 (boolsL l.length K) := hkeep hflg (by decide)
  have htor8 : RowV w8 t 3 (intsL (numsL l.length (toF K (n + 1)))) := hkeep htor (by decide)
  have hoq : q ≠ o := by
    intro e
    have h1 := hflg8
    unfold RowV at h1
    rw [e, hout8] at h1
    injection h1 with h1
    injection h1 with _ h1 _
    exact absurd h1 (by decide)
  have hot : t ≠ o := by
    intro e
    have h1 := htor8
    unfold RowV at h1
    rw [e, hout8] at h1
    injection h1 with h1
    injection h1 with _ h1 _
    exact absurd h1 (by decide)
  have hk : ∀ p, p < o → (w8.setCell ⟨o, 0, none⟩ v').heap[p]? = w8.heap[p]? := fun p hp => Below.heap_setCell _ _ _ _ (by show p ≠ o; omega)
  refine ⟨⟨⟨?_, ?_, (hhead.bel.trans (hbp.mono (by omega))).setCell (by show w.heap.size ≤ o; omega) _⟩, hflg8.other hoq _ _, htor8.other hot _ _, ?_, ?_, hlo⟩, hout8⟩
  · rw [hk _ (by omega), hbp.block _ (by omega)]
    exact hhead.store
  · rw [hk _ (by omega), hbp.block _ (by omega)]
    exact hhead.res
  · simp [World.setCell, Array.getElem?_modify, hout8]
  · rw [hs]
    exact World.ownsRow.kept ho (but_set 0 _) (.inr (own_ne ho hout8 (by decide)))
end
end Go.Proofs.YtmmaeikeafemaaaGreat
namespace Go.Proofs.YtmmaeikeafemaaaGreat
set_option maxRecDepth 100000
set_option linter.unusedVariables false
set_option linter.unusedSimpArgs false
open Go.RowKit Go.Sort

/-- A store in a box. -/
structure StB (w : World) (b : Nat) (A : Option Addr) (l : List Nd) (c : Nat) (room : Int) : Prop where
  row : w.heap[b]? = some (.cells #[.slice A l.length c, .int .i64 room] 26 (0, 0))
  rd : NowN w A l
  cap : l.length ≤ c
section
variable {w w' : World} {b : Nat} {A : Option Addr} {l : List Nd} {c : Nat} {room : Int}
theorem StB.below (h : StB w b A l c room) (hb : Below w.heap.size w w') : StB w' b A l c room := ⟨(hb.block _ (lt_heap6 h.row)).trans h.row, h.rd.below hb, h.cap⟩
theorem StB.s0 (h : StB w b A l c room) : w.cell? ⟨b, 0, none⟩ = some (.slice A l.length c) := by rw [Lib.cell_of_heap h.row]; rfl
theorem StB.s1 (h : StB w b A l c room) : w.cell? ⟨b, 1, none⟩ = some (.int .i64 room) := by rw [Lib.cell_of_heap h.row]; rfl
theorem StB.f0 (h : StB w b A l c room) : w.frozen? ⟨b, 0, none⟩ = false := Lib.frozen_of_heap h.row 0
theorem StB.f1 (h : StB w b A l c room) : w.frozen? ⟨b, 1, none⟩ = false := Lib.frozen_of_heap h.row 1
theorem stB_new (hr : NowN w A l) (hc : l.length ≤ c) (room : Int) : StB (w.alloc (.cells #[.slice A l.length c, .int .i64 room] 26)) w.heap.size A l c room :=
  ⟨heap_alloc_new w _, hr.below ((Below.refl _ _).alloc (Nat.le_refl _) _), hc⟩
theorem StB.nd (h : StB w b A l c room) (hl : 0 < l.length) : ∃ q off, A = some ⟨q, off, none⟩ ∧ q < w.heap.size ∧ ∀ j, j < l.length → NdAt w q (off + j * 6) (l.getD j deadN) := h.rd.at_ hl
end
theorem putR_box {p : List Nd × Int × Int} {room : Int} {w : World} {e : Ending} {w' : World} (h : PutR p room w e w') : ∃ A c, e = .returned (.tuple #[.agg #[.slice A p.1.length c, .int .i64 room], .int .i64 p.2.1, .int .i64 p.2.2]) ∧ p.1.length ≤ c ∧ NowN w' A p.1 ∧ Below w.heap.size w w' := by
  obtain ⟨v, rfl, ⟨A, c, rfl, hc, hN⟩, hb⟩ := h
  exact ⟨A, c, rfl, hc, hN, hb⟩
end Go.Proofs.YtmmaeikeafemaaaGreat
