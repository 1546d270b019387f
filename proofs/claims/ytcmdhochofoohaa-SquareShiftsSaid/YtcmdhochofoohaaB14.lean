/-
  Texts that the claims of this seat share, part 14.
-/
import Derived.Test.YtcmdhochofoohaaB13
import Derived.Test.YtcmdhochofoohaaB08
import Derived.Test.YtcmdhochofoohaaB10
import Derived.Deep.RegionWith
set_option linter.unusedVariables false
set_option linter.unusedSimpArgs false
namespace Go.Proofs.Ytcmdhochofoohaa
set_option maxRecDepth 100000
set_option linter.unusedVariables false
set_option linter.unusedSimpArgs false
open Go.RowKit Go.Sort

abbrev boxV (b : Bx) : Value := .agg #[.int .i64 b.1, .int .i64 b.2.1, .int .i64 b.2.2.1, .int .i64 b.2.2.2]
set_option maxHeartbeats 4000000 in
theorem shifted_any (b : Bx) (dx dy : Int) (h1 : I64 (b.1 + dx)) (h2 : I64 (b.2.1 + dy)) (w : World) : Calls Try.prog 72 #[boxV b, .int .i64 dx, .int .i64 dy] w fun r w' => r = .returned (boxV (shift7 b dx dy)) ∧ Below w.heap.size w w' := by
  obtain ⟨x, y, bw, bh⟩ := b
  unfold I64 at h1 h2
  dsimp only at h1 h2
  have w1 : IntKind.i64.wrap (x + dx) = x + dx := by rw [IntKind.wrap_i64]; omega
  have w2 : IntKind.i64.wrap (y + dy) = y + dy := by rw [IntKind.wrap_i64]; omega
  go_enter Try.func72, Try.ntmps72
  go_wp2_with fail
  refine bodyPost_ret (results_cell1 rfl _ _ (w.heap.size + 1) _ _ _ _ rfl (heap_new (by simp)) Try.underlying71 rfl (by kernel_rfl)) rfl ?_
  exact ⟨rfl, ((Below.refl _ _).alloc (Nat.le_refl _) _).alloc (by simp) _⟩
set_option maxHeartbeats 8000000 in
theorem both_any {M : Int} (hM : M ≤ 17592186044416) (a b : Bx) (ha : GoodB M a) (hb : GoodB M b) (w : World) : Calls Try.prog 95 #[boxV a, boxV b] w fun r w' => r = .returned (boxV (both7 a b)) ∧ Below w.heap.size w w' := by
  obtain ⟨ax, ay, aw, ah⟩ := a
  obtain ⟨bx, by_, bw, bh⟩ := b
  unfold GoodB at ha hb
  dsimp only at ha hb
  by_cases h1 : aw = 0
  · subst h1
    have hz : both7 (ax, ay, 0, ah) (bx, by_, bw, bh) = (bx, by_, bw, bh) := if_pos rfl
    rw [hz]
    go_enter Try.func95, Try.ntmps95
    go_wp2_with fail
    refine bodyPost_ret (results_cell1 rfl _ _ (w.heap.size + 1 + 1) _ _ _ _ rfl (heap_new (by simp)) Try.underlying71 rfl (by kernel_rfl)) rfl ?_
    exact ⟨rfl, (((Below.refl _ _).alloc (Nat.le_refl _) _).alloc (by simp) _).alloc (by simp; omega) _⟩
  have k1 : (aw == 0) = false := beq_eq_false_iff_ne.2 h1
  by_cases h2 : bw = 0
  · subst h2
    have hz : both7 (ax, ay, aw, ah) (bx, by_, 0, bh) = (ax, ay, aw, ah) := by unfold both7; rw [if_neg h1, if_pos rfl]
    rw [hz]
    go_enter Try.func95, Try.ntmps95
    go_wp2_with fail
    refine bodyPost_ret (results_cell1 rfl _ _ (w.heap.size + 1 + 1) _ _ _ _ rfl (heap_new (by simp)) Try.underlying71 rfl (by kernel_rfl)) rfl ?_
    exact ⟨rfl, (((Below.refl _ _).alloc (Nat.le_refl _) _).alloc (by simp) _).alloc (by simp; omega) _⟩
  have k2 : (bw == 0) = false := beq_eq_false_iff_ne.2 h2
  have hz : both7 (ax, ay, aw, ah) (bx, by_, bw, bh) = (min ax bx, min ay by_, max (ax + aw) (bx + bw) - min ax bx, max (ay + ah) (by_ + bh) - min ay by_) := by unfold both7; rw [if_neg h1, if_neg h2]
  rw [hz]
  have a1 : IntKind.i64.wrap (ax + aw) = ax + aw := by rw [IntKind.wrap_i64]; omega
  have a2 : IntKind.i64.wrap (bx + bw) = bx + bw := by rw [IntKind.wrap_i64]; omega
  have a3 : IntKind.i64.wrap (ay + ah) = ay + ah := by rw [IntKind.wrap_i64]; omega
  have a4 : IntKind.i64.wrap (by_ + bh) = by_ + bh := by rw [IntKind.wrap_i64]; omega
  have a5 : IntKind.i64.wrap (max (ax + aw) (bx + bw) - min ax bx) = max (ax + aw) (bx + bw) - min ax bx := by rw [IntKind.wrap_i64]; omega
  have a6 : IntKind.i64.wrap (max (ay + ah) (by_ + bh) - min ay by_) = max (ay + ah) (by_ + bh) - min ay by_ := by rw [IntKind.wrap_i64]; omega
  have hal := (((Below.refl w.heap.size w).alloc (Nat.le_refl _) (.cells #[.int .i64 ax, .int .i64 ay, .int .i64 aw, .int .i64 ah] 71)).alloc (by simp) (.cells #[.int .i64 bx, .int .i64 by_, .int .i64 bw, .int .i64 bh] 71)).alloc (by simp; omega) (.cells #[.int .i64 0, .int .i64 0, .int .i64 0, .int .i64 0] 71)
  have ra : (((w.alloc (.cells #[.int .i64 ax, .int .i64 ay, .int .i64 aw, .int .i64 ah] 71)).alloc (.cells #[.int .i64 bx, .int .i64 by_, .int .i64 bw, .int .i64 bh] 71)).alloc (.cells #[.int .i64 0, .int .i64 0, .int .i64 0, .int .i64 0] 71)).heap[w.heap.size]? = some (.cells #[.int .i64 ax, .int .i64 ay, .int .i64 aw, .int .i64 ah] 71 (0, 0)) := heap_old (heap_old (heap_new rfl))
  have rb : (((w.alloc (.cells #[.int .i64 ax, .int .i64 ay, .int .i64 aw, .int .i64 ah] 71)).alloc (.cells #[.int .i64 bx, .int .i64 by_, .int .i64 bw, .int .i64 bh] 71)).alloc (.cells #[.int .i64 0, .int .i64 0, .int .i64 0, .int .i64 0] 71)).heap[w.heap.size + 1]? = some (.cells #[.int .i64 bx, .int .i64 by_, .int .i64 bw, .int .i64 bh] 71 (0, 0)) := heap_old (heap_new (by simp))
  have rc : (((w.alloc (.cells #[.int .i64 ax, .int .i64 ay, .int .i64 aw, .int .i64 ah] 71)).alloc (.cells #[.int .i64 bx, .int .i64 by_, .int .i64 bw, .int .i64 bh] 71)).alloc (.cells #[.int .i64 0, .int .i64 0, .int .i64 0, .int .i64 0] 71)).heap[w.heap.size + 1 + 1]? = some (.cells #[.int .i64 0, .int .i64 0, .int .i64 0, .int .i64 0] 71 (0, 0)) := heap_new (by simp)
  have HA := Lib.hid hal
  have HR := Lib.hid (And.intro ra (And.intro rb rc))
  clear ha hb hz hal ra rb rc
  go_enter Try.func95, Try.ntmps95
  go_wp2_with fail
  generalize (((w.alloc (.cells #[.int .i64 ax, .int .i64 ay, .int .i64 aw, .int .i64 ah] 71)).alloc (.cells #[.int .i64 bx, .int .i64 by_, .int .i64 bw, .int .i64 bh] 71)).alloc (.cells #[.int .i64 0, .int .i64 0, .int .i64 0, .int .i64 0] 71)) = v at *
  have c0 : v.cell? ⟨w.heap.size, 0, none⟩ = some (.int .i64 ax) := by rw [Lib.cell_of_heap HR.out.1]; rfl
  have c1 : v.cell? ⟨w.heap.size, 1, none⟩ = some (.int .i64 ay) := by rw [Lib.cell_of_heap HR.out.1]; rfl
  have d0 : v.cell? ⟨w.heap.size + 1, 0, none⟩ = some (.int .i64 bx) := by rw [Lib.cell_of_heap HR.out.2.1]; rfl
  have d1 : v.cell? ⟨w.heap.size + 1, 1, none⟩ = some (.int .i64 by_) := by rw [Lib.cell_of_heap HR.out.2.1]; rfl
  have q0 := Qt.cell_in c0
  have q1 := Qt.cell_in c1
  have q2 := Qt.cell_in d0
  have q3 := Qt.cell_in d1
  clear c0 c1 d0 d1
  refine Qt.below_all (by kernel_rfl) (by kernel_rfl) ?_
  iterate 12 (go_big_quiet_step (fail))
  refine wpQuiet_nil ?_
  intro w2 hb2
  clear q0 q1 q2 q3
  have h1r := (hb2.block _ (lt_heap6 HR.out.1)).trans HR.out.1
  have h2r := (hb2.block _ (lt_heap6 HR.out.2.1)).trans HR.out.2.1
  have h3r := (hb2.block _ (lt_heap6 HR.out.2.2)).trans HR.out.2.2
  have c0 : w2.cell? ⟨w.heap.size, 0, none⟩ = some (.int .i64 ax) := by rw [Lib.cell_of_heap h1r]; rfl
  have c1 : w2.cell? ⟨w.heap.size, 1, none⟩ = some (.int .i64 ay) := by rw [Lib.cell_of_heap h1r]; rfl
  have c2 : w2.cell? ⟨w.heap.size, 2, none⟩ = some (.int .i64 aw) := by rw [Lib.cell_of_heap h1r]; rfl
  have c3 : w2.cell? ⟨w.heap.size, 3, none⟩ = some (.int .i64 ah) := by rw [Lib.cell_of_heap h1r]; rfl
  have d0 : w2.cell? ⟨w.heap.size + 1, 0, none⟩ = some (.int .i64 bx) := by rw [Lib.cell_of_heap h2r]; rfl
  have d1 : w2.cell? ⟨w.heap.size + 1, 1, none⟩ = some (.int .i64 by_) := by rw [Lib.cell_of_heap h2r]; rfl
  have d2 : w2.cell? ⟨w.heap.size + 1, 2, none⟩ = some (.int .i64 bw) := by rw [Lib.cell_of_heap h2r]; rfl
  have d3 : w2.cell? ⟨w.heap.size + 1, 3, none⟩ = some (.int .i64 bh) := by rw [Lib.cell_of_heap h2r]; rfl
  have r0 : w2.cell? ⟨w.heap.size + 1 + 1, 0, none⟩ = some (.int .i64 0) := by rw [Lib.cell_of_heap h3r]; rfl
  have r1 : w2.cell? ⟨w.heap.size + 1 + 1, 1, none⟩ = some (.int .i64 0) := by rw [Lib.cell_of_heap h3r]; rfl
  have r2 : w2.cell? ⟨w.heap.size + 1 + 1, 2, none⟩ = some (.int .i64 0) := by rw [Lib.cell_of_heap h3r]; rfl
  have r3 : w2.cell? ⟨w.heap.size + 1 + 1, 3, none⟩ = some (.int .i64 0) := by rw [Lib.cell_of_heap h3r]; rfl
  have f0 : w2.frozen? ⟨w.heap.size + 1 + 1, 0, none⟩ = false := Lib.frozen_of_heap h3r 0
  have f1 : w2.frozen? ⟨w.heap.size + 1 + 1, 1, none⟩ = false := Lib.frozen_of_heap h3r 1
  have f2 : w2.frozen? ⟨w.heap.size + 1 + 1, 2, none⟩ = false := Lib.frozen_of_heap h3r 2
  have f3 : w2.frozen? ⟨w.heap.size + 1 + 1, 3, none⟩ = false := Lib.frozen_of_heap h3r 3
  have hB := Qt.more HA.out HA.out.size hb2
  have HT : ∀ (x y z u : Value), Hid (((((w2.setCell ⟨w.heap.size + 1 + 1, 0, none⟩ x).setCell ⟨w.heap.size + 1 + 1, 1, none⟩ y).setCell ⟨w.heap.size + 1 + 1, 2, none⟩ z).setCell ⟨w.heap.size + 1 + 1, 3, none⟩ u).heap[w.heap.size + 1 + 1]? = some (.cells #[x, y, z, u] 71 (0, 0)) ∧ Below w.heap.size w ((((w2.setCell ⟨w.heap.size + 1 + 1, 0, none⟩ x).setCell ⟨w.heap.size + 1 + 1, 1, none⟩ y).setCell ⟨w.heap.size + 1 + 1, 2, none⟩ z).setCell ⟨w.heap.size + 1 + 1, 3, none⟩ u)) := by
    intro x y z u
    have hle : w.heap.size ≤ w.heap.size + 1 + 1 := by omega
    refine ⟨?_, (((hB.setCell hle _).setCell hle _).setCell hle _).setCell hle _⟩
    simp [World.setCell, Array.getElem?_modify, h3r]
  have HT2 := Lib.hid HT
  clear hb2 h1r h2r h3r hB HT HR HA
  go_wp2_with fail
  refine bodyPost_ret (results_cell1 rfl _ _ _ _ _ _ _ rfl (HT2.out _ _ _ _).out.1 Try.underlying71 rfl (by kernel_rfl)) rfl ?_
  exact ⟨rfl, (HT2.out _ _ _ _).out.2⟩
/-- boxes in a row, the first of which are told -/
structure BxRow (w : World) (q N : Nat) (f : Nat → Bx) (j : Nat) : Prop where
  row : ∃ cs : Array Value, w.heap[q]? = some (.cells cs 71 (0, 0)) ∧ cs.size = N * 4 ∧ ∀ i, i < j → i < N → cs[i * 4]? = some (.int .i64 (f i).1) ∧ cs[i * 4 + 1]? = some (.int .i64 (f i).2.1) ∧ cs[i * 4 + 2]? = some (.int .i64 (f i).2.2.1) ∧ cs[i * 4 + 3]? = some (.int .i64 (f i).2.2.2)
section
variable {w w' : World} {q N : Nat} {f : Nat → Bx} {j : Nat}
theorem BxRow.below (h : BxRow w q N f j) (hb : Below w.heap.size w w') : BxRow w' q N f j := by
  obtain ⟨cs, h1, h2, h3⟩ := h.row
  exact ⟨cs, (hb.block _ (lt_heap6 h1)).trans h1, h2, h3⟩
theorem BxRow.at_ (h : BxRow w q N f j) {i : Nat} (hi : i < j) (hN : i < N) : w.cell? ⟨q, i * 4, none⟩ = some (.int .i64 (f i).1) ∧ w.cell? ⟨q, i * 4 + 1, none⟩ = some (.int .i64 (f i).2.1) ∧ w.cell? ⟨q, i * 4 + 2, none⟩ = some (.int .i64 (f i).2.2.1) ∧ w.cell? ⟨q, i * 4 + 3, none⟩ = some (.int .i64 (f i).2.2.2) := by
  obtain ⟨cs, h1, h2, h3⟩ := h.row
  obtain ⟨a, b, c, d⟩ := h3 i hi hN
  exact ⟨by rw [Lib.cell_of_heap h1]; exact a, by rw [Lib.cell_of_heap h1]; exact b, by rw [Lib.cell_of_heap h1]; exact c, by rw [Lib.cell_of_heap h1]; exact d⟩
theorem BxRow.some_ (h : BxRow w q N f j) {i : Nat} (hi : i < N * 4) : ∃ v, w.cell? ⟨q, i, none⟩ = some v := by
  obtain ⟨cs, h1, h2, h3⟩ := h.row
  exact ⟨cs[i]'(by omega), by rw [Lib.cell_of_heap h1]; exact Array.getElem?_eq_getElem (by omega)⟩
theorem BxRow.free (h : BxRow w q N f j) (i : Nat) : w.frozen? ⟨q, i, none⟩ = false := by
  obtain ⟨cs, h1, h2, h3⟩ := h.row
  exact Lib.frozen_of_heap h1 i
theorem BxRow.next (h : BxRow w q N f j) (hN : j < N) : BxRow ((((w.setCell ⟨q, j * 4, none⟩ (.int .i64 (f j).1)).setCell ⟨q, j * 4 + 1, none⟩ (.int .i64 (f j).2.1)).setCell ⟨q, j * 4 + 2, none⟩ (.int .i64 (f j).2.2.1)).setCell ⟨q, j * 4 + 3, none⟩ (.int .i64 (f j).2.2.2)) q N f (j + 1) := by
  obtain ⟨cs, h1, h2, h3⟩ := h.row
  refine ⟨(((cs.setIfInBounds (j * 4) (.int .i64 (f j).1)).setIfInBounds (j * 4 + 1) (.int .i64 (f j).2.1)).setIfInBounds (j * 4 + 2) (.int .i64 (f j).2.2.1)).setIfInBounds (j * 4 + 3) (.int .i64 (f j).2.2.2), ?_, by simp [h2], fun i hi hiN => ?_⟩
  · simp [World.setCell, Array.getElem?_modify, h1]
  · rcases (by omega : i < j ∨ i = j) with h4 | rfl
    · obtain ⟨a, b, c, d⟩ := h3 i h4 hiN
      simp only [Array.getElem?_setIfInBounds]
      refine ⟨?_, ?_, ?_, ?_⟩
      · rw [if_neg (by omega), if_neg (by omega), if_neg (by omega), if_neg (by omega)]; exact a
      · rw [if_neg (by omega), if_neg (by omega), if_neg (by omega), if_neg (by omega)]; exact b
      · rw [if_neg (by omega), if_neg (by omega), if_neg (by omega), if_neg (by omega)]; exact c
      · rw [if_neg (by omega), if_neg (by omega), if_neg (by omega), if_neg (by omega)]; exact d
    · simp [Array.getElem?_setIfInBounds, h2]
      omega
end
end Go.Proofs.Ytcmdhochofoohaa
namespace Go.Proofs.Ytcmdhochofoohaa
set_option maxRecDepth 100000
set_option linter.unusedVariables false
set_option linter.unusedSimpArgs false
open Go.RowKit Go.Sort

/-- a box in a box -/
def BR (w : World) (b : Nat) (x : Bx) : Prop := w.heap[b]? = some (.cells #[.int .i64 x.1, .int .i64 x.2.1, .int .i64 x.2.2.1, .int .i64 x.2.2.2] 71 (0, 0))
section
variable {w w' : World} {b : Nat} {x : Bx}
theorem BR.below (h : BR w b x) (hb : Below w.heap.size w w') : BR w' b x := (hb.block _ (lt_heap6 h)).trans h
theorem BR.c (h : BR w b x) : w.cell? ⟨b, 0, none⟩ = some (.int .i64 x.1) ∧ w.cell? ⟨b, 1, none⟩ = some (.int .i64 x.2.1) ∧ w.cell? ⟨b, 2, none⟩ = some (.int .i64 x.2.2.1) ∧ w.cell? ⟨b, 3, none⟩ = some (.int .i64 x.2.2.2) := by
  refine ⟨?_, ?_, ?_, ?_⟩ <;> (rw [Lib.cell_of_heap h]; rfl)
theorem BR.f (h : BR w b x) (i : Nat) : w.frozen? ⟨b, i, none⟩ = false := Lib.frozen_of_heap h i
theorem BR.told (h : BR w b x) (y : Bx) : BR ((((w.setCell ⟨b, 0, none⟩ (.int .i64 y.1)).setCell ⟨b, 1, none⟩ (.int .i64 y.2.1)).setCell ⟨b, 2, none⟩ (.int .i64 y.2.2.1)).setCell ⟨b, 3, none⟩ (.int .i64 y.2.2.2)) b y := by
  unfold BR at h ⊢
  simp [World.setCell, Array.getElem?_modify, h]
end
/-- What is known in the loop over quarters. -/
structure AbAt (w wr : World) (lev : Int) (kk : Kd) (pp : Int) (o : Bx) : Prop where
  nd : NR wr w.heap.size lev kk pp
  res : BR wr (w.heap.size + 1) (0, 0, 0, 0)
  out : BR wr (w.heap.size + 1 + 1) o
  bel : Below w.heap.size w wr
section
variable {w wr w' : World} {lev : Int} {kk : Kd} {pp : Int} {o : Bx}
theorem AbAt.below (h : AbAt w wr lev kk pp o) (hb : Below wr.heap.size wr w') : AbAt w w' lev kk pp o := ⟨h.nd.below hb, h.res.below hb, h.out.below hb, Qt.more h.bel h.bel.size hb⟩
theorem set4_other {b i : Nat} (h : i ≠ b) (x y z u : Value) : ((((wr.setCell ⟨b, 0, none⟩ x).setCell ⟨b, 1, none⟩ y).setCell ⟨b, 2, none⟩ z).setCell ⟨b, 3, none⟩ u).heap[i]? = wr.heap[i]? := by
  rw [Below.heap_setCell _ _ _ _ (by show i ≠ b; exact h), Below.heap_setCell _ _ _ _ (by show i ≠ b; exact h), Below.heap_setCell _ _ _ _ (by show i ≠ b; exact h), Below.heap_setCell _ _ _ _ (by show i ≠ b; exact h)]
theorem AbAt.told (h : AbAt w wr lev kk pp o) (y : Bx) : AbAt w ((((wr.setCell ⟨w.heap.size + 1 + 1, 0, none⟩ (.int .i64 y.1)).setCell ⟨w.heap.size + 1 + 1, 1, none⟩ (.int .i64 y.2.1)).setCell ⟨w.heap.size + 1 + 1, 2, none⟩ (.int .i64 y.2.2.1)).setCell ⟨w.heap.size + 1 + 1, 3, none⟩ (.int .i64 y.2.2.2)) lev kk pp y := by
  have hle : w.heap.size ≤ w.heap.size + 1 + 1 := by omega
  refine ⟨?_, ?_, h.out.told y, (((h.bel.setCell hle _).setCell hle _).setCell hle _).setCell hle _⟩
  · have := h.nd; unfold NR at this ⊢; rw [set4_other (by omega)]; exact this
  · have := h.res; unfold BR at this ⊢; rw [set4_other (by omega)]; exact this
end
theorem abAt_0 (w : World) (lev : Int) (kk : Kd) (pp : Int) : AbAt w (((w.alloc (.cells #[.int .i64 lev, .int .i64 kk.1, .int .i64 kk.2.1, .int .i64 kk.2.2.1, .int .i64 kk.2.2.2, .int .i64 pp] 49)).alloc (.cells #[.int .i64 0, .int .i64 0, .int .i64 0, .int .i64 0] 71)).alloc (.cells #[.int .i64 0, .int .i64 0, .int .i64 0, .int .i64 0] 71)) lev kk pp (0, 0, 0, 0) := by
  have hal := (((Below.refl w.heap.size w).alloc (Nat.le_refl _) (.cells #[.int .i64 lev, .int .i64 kk.1, .int .i64 kk.2.1, .int .i64 kk.2.2.1, .int .i64 kk.2.2.2, .int .i64 pp] 49)).alloc (by simp) (.cells #[.int .i64 0, .int .i64 0, .int .i64 0, .int .i64 0] 71)).alloc (by simp; omega) (.cells #[.int .i64 0, .int .i64 0, .int .i64 0, .int .i64 0] 71)
  exact ⟨heap_old (heap_old (heap_new rfl)), heap_old (heap_new (by simp)), heap_new (by simp), hal⟩
set_option maxHeartbeats 16000000 in
theorem about_any {room : Int} (l : List Nd) (hr : Right6 l room) (q N n k : Nat) (hk : k ≤ 42) (hn : Is l k n) (hN : n < N) (hNb : N ≤ 1000001) (f : Nat → Bx) (hf : ∀ i k', i < n → Is l k' i → f i = boxN l k' i) (w : World) (hB : BxRow w q N f n) :
    Calls Try.prog 71 #[.agg #[.int .i64 (l.getD n deadN).1, .int .i64 (l.getD n deadN).2.1.1, .int .i64 (l.getD n deadN).2.1.2.1, .int .i64 (l.getD n deadN).2.1.2.2.1, .int .i64 (l.getD n deadN).2.1.2.2.2, .int .i64 (l.getD n deadN).2.2], .slice (some ⟨q, 0, none⟩) N N] w fun r w' => r = .returned (boxV (boxN l k n)) ∧ Below w.heap.size w w' := by
  cases k with
  | zero =>
    have hn2 := hn.zero hr
    have hlev : (l.getD n deadN).1 = 0 := hn.lev
    have hbx : boxN l 0 n = (0, 0, (l.getD n deadN).2.2, (l.getD n deadN).2.2) := by
      rcases (by omega : n = 0 ∨ n = 1) with h | h
      · rw [h, hr.dead]; rfl
      · rw [h, hr.live]; rfl
    rw [hbx, hlev]
    generalize (l.getD n deadN) = x at *
    obtain ⟨lv, kk, pp⟩ := x
    dsimp only
    clear hbx hlev hB hf hn hr
    go_enter Try.func71, Try.ntmps71
    go_wp2_with fail
    refine bodyPost_ret (results_cell1 rfl _ _ (w.heap.size + 1) _ _ _ _ rfl (heap_new (by simp)) Try.underlying71 rfl (by kernel_rfl)) rfl ?_
    exact ⟨rfl, ((Below.refl _ _).alloc (Nat.le_refl _) _).alloc (by simp) _⟩
  | succ k =>
    have hlev : (l.getD n deadN).1 = (k : Int) + 1 := by rw [hn.lev]; omega
    have hkid : ∀ i, i < 4 → kd (l.getD n deadN).2.1 i = ((kidN l n i : Nat) : Int) ∧ kidN l n i < n ∧ f (kidN l n i) = boxN l k (kidN l n i) := fun i hi => by
      have h1 := kid_cast hr hn hi
      have h2 := ((fits_iff.1 (hr.fits n (hn.two hr) hn.lt)).kid i hi).2.1
      rw [h1] at h2
      exact ⟨h1, by omega, hf _ k (by omega) (kid_is hr hn hi)⟩
    rw [hlev]
    have hall := boxTo_all l k n
    have HM : Hid (∀ i, i ≤ 4 → GoodB (2 ^ (k + 1)) (boxTo l k n i)) := fun i hi => boxTo_good l k n i hi
    have hpw : (2 : Int) ^ (k + 1) ≤ 4398046511104 := pow_le7 (f := 42) hk
    have hpk := pow_pos7 k
    have e2 : (2 : Int) ^ (k + 1) = 2 ^ k * 2 := Int.pow_succ ..
    obtain ⟨⟨lv, kk, pp⟩, hnode⟩ : ∃ x, x = l.getD n deadN := ⟨_, rfl⟩
    rw [← hnode] at hkid ⊢
    dsimp only at hkid ⊢
    have HA0 := Lib.hid (abAt_0 w ((k : Int) + 1) kk pp)
    have l0 := HA0.out.nd.lev_
    have k0 := HA0.out.nd.kid (i := 0) (by decide)
    have k1 := HA0.out.nd.kid (i := 1) (by decide)
    have k2 := HA0.out.nd.kid (i := 2) (by decide)
    have k3 := HA0.out.nd.kid (i := 3) (by decide)
    simp only [kd] at k0 k1 k2 k3
    have HIX := Lib.hid (kd_index kk)
    have hk1 : (((k : Int) + 1) == 0) = false := beq_eq_false_iff_ne.2 (by omega)
    have hk2 : ¬ (k : Int) + 1 = 0 := by omega
    have HB := Lib.hid hB
    have HK := Lib.hid hkid
    obtain ⟨z, hz⟩ : ∃ z, z = boxN l (k + 1) n := ⟨_, rfl⟩
    rw [← hz] at hall ⊢
    have HALL := Lib.hid hall
    have HQ : Hid (∀ i, GoodB (2 ^ k) (boxN l k i)) := fun i => boxN_good l k i
    clear hlev hkid hnode hB hf hn hr hall hz
    go_enter Try.func71, Try.ntmps71
    go_wp2_with fail
    clear l0 k0 k1 k2 k3
    generalize (((w.alloc (.cells #[.int .i64 ((k : Int) + 1), .int .i64 kk.1, .int .i64 kk.2.1, .int .i64 kk.2.2.1, .int .i64 kk.2.2.2, .int .i64 pp] 49)).alloc (.cells #[.int .i64 0, .int .i64 0, .int .i64 0, .int .i64 0] 71)).alloc (.cells #[.int .i64 0, .int .i64 0, .int .i64 0, .int .i64 0] 71)) = v0 at *
    go_loopw [20] (fun i wr => ∃ j : Nat, j ≤ 4 ∧ i = .int .i64 j ∧ Hid (AbAt w wr ((k : Int) + 1) kk pp (boxTo l k n j))) (fun i _ => 4 - (intOf i).toNat)
    case atStart => exact ⟨0, by omega, rfl, HA0.out⟩
    case round =>
      obtain ⟨j, hj, rfl, HH⟩ := hrel
      by_cases hlt : j < 4
      · have hltz : (j : Int) < 4 := by omega
        obtain ⟨hk3, hk4, hk5⟩ := HK.out j hlt
        have hixj := HIX.out j hlt
        rw [hk3] at hixj
        have l0 := HH.out.nd.lev_
        have has := fun W => aside_any k (by omega) j hlt W
        have hoff := off_bd k j hlt
        have hgo := HM.out j (by omega)
        have hgb := HQ.out (kidN l n j)
        have hnext : boxTo l k n (j + 1) = both7 (boxTo l k n j) (shift7 (boxN l k (kidN l n j)) (((j % 2 : Nat) : Int) * 2 ^ k) (((j / 2 : Nat) : Int) * 2 ^ k)) := rfl
        obtain ⟨b0, b1, b2, b3⟩ := (HB.out.below HH.out.bel).at_ hk4 (by omega)
        rw [hk5] at b0 b1 b2 b3
        obtain ⟨o0, o1, o2, o3⟩ := HH.out.out.c
        have hgs := shift_good hgb ⟨hoff.1, hoff.2.1⟩ ⟨hoff.2.2.1, hoff.2.2.2⟩
        rw [← e2] at hgs
        have hknN : ((kidN l n j : Nat) : Int) < (N : Int) := by omega
        generalize ((j % 2 : Nat) : Int) * 2 ^ k = rx at *
        generalize ((j / 2 : Nat) : Int) * 2 ^ k = ry at *
        generalize boxN l k (kidN l n j) = bb at *
        have HN2 := Lib.hid hnext
        have HS := Lib.hid HH
        generalize boxTo l k n j = oo at *
        generalize kidN l n j = kn at *
        have hsh := fun W => shifted_any bb rx ry (by unfold GoodB at hgs; unfold shift7 at hgs; unfold I64; dsimp only at hgs; omega) (by unfold GoodB at hgs; unfold shift7 at hgs; unfold I64; dsimp only at hgs; omega) W
        have hbo := fun W => both_any (M := 2 ^ (k + 1)) (by omega) oo (shift7 bb rx ry) hgo hgs W
        obtain ⟨bx, by_, bw, bh⟩ := bb
        obtain ⟨ox, oy, ow, oh⟩ := oo
        unfold boxV at hsh hbo
        dsimp only at hsh hbo b0 b1 b2 b3 o0 o1 o2 o3
        unfold shift7 at hsh hbo HN2
        dsimp only at hsh hbo HN2
        generalize hnn : both7 (ox, oy, ow, oh) (bx + rx, by_ + ry, bw, bh) = nn at *
        obtain ⟨nx, ny, nw, nh⟩ := nn
        dsimp only at hbo
        have hsh2 := fun W (_ : Below wr.heap.size wr W) => hsh W
        have hbo2 := fun W (_ : Below wr.heap.size wr W) => hbo W
        have p0 := Qt.cell_in b0
        have p1 := Qt.cell_in b1
        have p2 := Qt.cell_in b2
        have p3 := Qt.cell_in b3
        have p4 := Qt.cell_in o0
        have p5 := Qt.cell_in o1
        have p6 := Qt.cell_in o2
        have p7 := Qt.cell_in o3
        clear hnext hgo hgb hgs hoff hk3 hk5 HH hsh hbo hnn b0 b1 b2 b3 o0 o1 o2 o3
        go_wp2_with fail
        refine (has _).mono ?_
        rintro r w5 ⟨rfl, rfl⟩
        clear has l0
        go_wp2_with fail
        refine Qt.below_tail 9 (by kernel_rfl) (by kernel_rfl) ?_
        simp only [List.take_succ_cons, List.take_zero]
        iterate 9 (go_big_quiet_step (first | (go_at_call 72; exact Qt.at_call' hsh2) | (go_at_call 95; exact Qt.at_call' hbo2)))
        refine wpQuiet_nil ?_
        intro w7 hb7
        have hA7 := HS.out.out.below hb7
        have f0 := hA7.out.f 0
        have f1 := hA7.out.f 1
        have f2 := hA7.out.f 2
        have f3 := hA7.out.f 3
        obtain ⟨o0, o1, o2, o3⟩ := hA7.out.c
        dsimp only at o0 o1 o2 o3
        have hA8 := hA7.told (nx, ny, nw, nh)
        dsimp only at hA8
        have HA8 := Lib.hid hA8
        clear hb7 p0 p1 p2 p3 p4 p5 p6 p7 hsh2 hbo2 hA7 hA8 HS
        simp only [List.drop_succ_cons, List.drop_zero]
        go_wp2_with fail
        go_roundw
        case measure => simp [intOf]; omega
        case rel =>
          refine ⟨j + 1, by omega, by go_num, ?_⟩
          rw [HN2.out]
          exact HA8.out
      · obtain rfl : j = 4 := by omega
        have hltz : ¬ ((4 : Nat) : Int) < 4 := by decide
        have hA := HH.out
        rw [HALL.out] at hA
        obtain ⟨zx, zy, zw, zh⟩ := z
        have f0 := hA.res.f 0
        have f1 := hA.res.f 1
        have f2 := hA.res.f 2
        have f3 := hA.res.f 3
        obtain ⟨o0, o1, o2, o3⟩ := hA.out.c
        obtain ⟨r0, r1, r2, r3⟩ := hA.res.c
        dsimp only at o0 o1 o2 o3 r0 r1 r2 r3
        have ht := hA.res.told (zx, zy, zw, zh)
        have hle : w.heap.size ≤ w.heap.size + 1 := by omega
        have HBF := Lib.hid ((((hA.bel.setCell (p := ⟨w.heap.size + 1, 0, none⟩) hle (.int .i64 zx)).setCell (p := ⟨w.heap.size + 1, 1, none⟩) hle (.int .i64 zy)).setCell (p := ⟨w.heap.size + 1, 2, none⟩) hle (.int .i64 zw)).setCell (p := ⟨w.heap.size + 1, 3, none⟩) hle (.int .i64 zh))
        unfold BR at ht
        dsimp only at ht
        have HT := Lib.hid ht
        clear hA HH ht hlt hj HALL
        go_wp2_with fail
        refine bodyPost_ret (results_cell1 rfl _ _ _ _ _ _ _ rfl HT.out Try.underlying71 rfl (by kernel_rfl)) rfl ?_
        exact ⟨rfl, HBF.out⟩
end Go.Proofs.Ytcmdhochofoohaa
namespace Go.Proofs.Ytcmdhochofoohaa
set_option maxRecDepth 100000
set_option linter.unusedVariables false
set_option linter.unusedSimpArgs false
open Go.RowKit Go.Sort

theorem infoBox : (Try.prog.info? 71).map (fun i => (i.zero, i.size, i.bytes)) = some (some (.agg #[.int .i64 0, .int .i64 0, .int .i64 0, .int .i64 0]), 4, 32) := by kernel_rfl
/-- each node's box -/
def boxF (l : List Nd) (i : Nat) : Bx := boxN l (l.getD i deadN).1.toNat i
/-- the store and what is to be told -/
structure BbAt (w wr : World) (A : Option Addr) (n c : Nat) (room : Int) : Prop where
  st : StoreAt w wr A n c room
  res : BR wr (w.heap.size + 1) (0, 0, 0, 0)
section
variable {w wr w' : World} {A : Option Addr} {n c : Nat} {room : Int}
theorem BbAt.below (h : BbAt w wr A n c room) (hb : Below wr.heap.size wr w') : BbAt w w' A n c room := ⟨h.st.below7 hb, h.res.below hb⟩
theorem BbAt.past (h : BbAt w wr A n c room) {b : Nat} (hb : w.heap.size + 1 < b) (x y z u : Value) (o : Nat) : BbAt w ((((wr.setCell ⟨b, o, none⟩ x).setCell ⟨b, o + 1, none⟩ y).setCell ⟨b, o + 2, none⟩ z).setCell ⟨b, o + 3, none⟩ u) A n c room := by
  have hle : w.heap.size ≤ b := by omega
  have ho : ∀ i, i ≠ b → ((((wr.setCell ⟨b, o, none⟩ x).setCell ⟨b, o + 1, none⟩ y).setCell ⟨b, o + 2, none⟩ z).setCell ⟨b, o + 3, none⟩ u).heap[i]? = wr.heap[i]? := fun i h => by
    rw [Below.heap_setCell _ _ _ _ (by show i ≠ b; exact h), Below.heap_setCell _ _ _ _ (by show i ≠ b; exact h), Below.heap_setCell _ _ _ _ (by show i ≠ b; exact h), Below.heap_setCell _ _ _ _ (by show i ≠ b; exact h)]
  refine ⟨⟨(ho _ (by omega)).trans h.st.store, (((h.st.bel.setCell hle _).setCell hle _).setCell hle _).setCell hle _⟩, ?_⟩
  have := h.res
  unfold BR at this ⊢
  rw [ho _ (by omega)]
  exact this
end
theorem bbAt_0 (w : World) (A : Option Addr) (n c : Nat) (room : Int) : BbAt w ((w.alloc (.cells #[.slice A n c, .int .i64 room] 25)).alloc (.cells #[.int .i64 0, .int .i64 0, .int .i64 0, .int .i64 0] 71)) A n c room :=
  ⟨⟨heap_old (heap_new rfl), ((Below.refl _ _).alloc (Nat.le_refl _) _).alloc (by simp) _⟩, heap_new (by simp)⟩
def BoxR (p : Bx × Bool) (w : World) (r : Ending) (w' : World) : Prop := r = .returned (.tuple #[boxV p.1, .bool p.2]) ∧ Below w.heap.size w w'
set_option maxHeartbeats 16000000 in
theorem box7_any (A : Option Addr) (l : List Nd) (c : Nat) (room n : Int) (w : World) (hR : RdN w w.heap.size A l) (hl : l.length ≤ 1000000) (hc : l.length ≤ c) :
    Calls Try.prog 39 #[storeV A l.length c room, .int .i64 n] w (BoxR (box7 l room n (hasB l n)) w) := by
  have hG0 := bbAt_0 w A l.length c room
  have hright := nodeRight_any A l c room _ ((hR.below hG0.st.bel (Nat.le_refl _)).more hG0.st.bel.size) hl hc
  have s0 := hG0.st.s0
  have s1 := hG0.st.s1
  have HG := Lib.hid hG0
  unfold storeV at hright ⊢
  have hno : ∀ wr, BbAt w wr A l.length c room → Hid ((wr.cell? ⟨w.heap.size + 1, 0, none⟩ = some (.int .i64 0) ∧ wr.cell? ⟨w.heap.size + 1, 1, none⟩ = some (.int .i64 0) ∧ wr.cell? ⟨w.heap.size + 1, 2, none⟩ = some (.int .i64 0) ∧ wr.cell? ⟨w.heap.size + 1, 3, none⟩ = some (.int .i64 0)) ∧ ∀ y : Bx, ((((wr.setCell ⟨w.heap.size + 1, 0, none⟩ (.int .i64 y.1)).setCell ⟨w.heap.size + 1, 1, none⟩ (.int .i64 y.2.1)).setCell ⟨w.heap.size + 1, 2, none⟩ (.int .i64 y.2.2.1)).setCell ⟨w.heap.size + 1, 3, none⟩ (.int .i64 y.2.2.2)).heap[w.heap.size + 1]? = some (.cells #[.int .i64 y.1, .int .i64 y.2.1, .int .i64 y.2.2.1, .int .i64 y.2.2.2] 71 (0, 0)) ∧ Below w.heap.size w ((((wr.setCell ⟨w.heap.size + 1, 0, none⟩ (.int .i64 y.1)).setCell ⟨w.heap.size + 1, 1, none⟩ (.int .i64 y.2.1)).setCell ⟨w.heap.size + 1, 2, none⟩ (.int .i64 y.2.2.1)).setCell ⟨w.heap.size + 1, 3, none⟩ (.int .i64 y.2.2.2))) := by
    intro wr h
    have hle : w.heap.size ≤ w.heap.size + 1 := by omega
    exact ⟨h.res.c, fun y => ⟨h.res.told y, (((h.st.bel.setCell hle _).setCell hle _).setCell hle _).setCell hle _⟩⟩
  have HNO := Lib.hid hno
  clear hG0 hno
  cases hr : right6 l room with
  | false =>
    have hz : box7 l room n (hasB l n) = ((0, 0, 0, 0), false) := by unfold box7; rw [hr]; rfl
    rw [hz]
    rw [hr] at hright
    clear hz hr hR
    go_enter Try.func39, Try.ntmps39
    go_wp2_with (go_at_call 16; refine hright.mono ?_; rintro r w1 ⟨rfl, hb1⟩; have H1 := Lib.hid (HG.out.below hb1); have H2 := HNO.out w1 H1.out; obtain ⟨r0, r1, r2, r3⟩ := H2.out.1; have f0 := H1.out.res.f 0; have f1 := H1.out.res.f 1; have f2 := H1.out.res.f 2; have f3 := H1.out.res.f 3; clear hb1 hright s0 s1)
    refine bodyPost_ret (results_cell2 rfl _ _ _ _ _ _ _ rfl (H2.out.2 (0, 0, 0, 0)).1 Try.underlying71 rfl (by kernel_rfl)) rfl ?_
    exact ⟨rfl, (H2.out.2 (0, 0, 0, 0)).2⟩
  | true =>
    rw [hr] at hright
    have hR6 := right_iff.1 hr
    have h2 := hR6.two
    have hhs := fun W (h : BbAt w W A l.length c room) => hasSquare_any A l c room n W ((hR.below h.st.bel (Nat.le_refl _)).more h.st.bel.size) hl
    unfold storeV at hhs
    cases hb : hasB l n with
    | false =>
      have hz : box7 l room n false = ((0, 0, 0, 0), false) := by unfold box7; rw [hr]; rfl
      rw [hz]
      rw [hb] at hhs
      have HHS := Lib.hid hhs
      clear hz hr hR hb hhs hR6
      go_enter Try.func39, Try.ntmps39
      go_wp2_with fail
      refine hright.mono ?_
      rintro r w1 ⟨rfl, hb1⟩
      have H1 := Lib.hid (HG.out.below hb1)
      have t0 := H1.out.st.s0
      have t1 := H1.out.st.s1
      clear hb1 hright s0 s1
      go_wp2_with fail
      refine (HHS.out w1 H1.out).mono ?_
      rintro r w2 ⟨rfl, hb2⟩
      have H3 := Lib.hid (H1.out.below hb2)
      have H2 := HNO.out w2 H3.out
      obtain ⟨r0, r1, r2, r3⟩ := H2.out.1
      have f0 := H3.out.res.f 0
      have f1 := H3.out.res.f 1
      have f2 := H3.out.res.f 2
      have f3 := H3.out.res.f 3
      clear hb2 t0 t1
      go_wp2_with fail
      refine bodyPost_ret (results_cell2 rfl _ _ _ _ _ _ _ rfl (H2.out.2 (0, 0, 0, 0)).1 Try.underlying71 rfl (by kernel_rfl)) rfl ?_
      exact ⟨rfl, (H2.out.2 (0, 0, 0, 0)).2⟩
    | true =>
      rw [hb] at hhs
      have HHS := Lib.hid hhs
      unfold hasB at hb
      rw [decide_eq_true_eq] at hb
      obtain ⟨h1, h2', h3⟩ := hb
      obtain ⟨m, rfl⟩ : ∃ m : Nat, n = (m : Int) := ⟨n.toNat, by omega⟩
      rw [ndAt_nat] at h3
      have hbd := right_bd hR6 m (by omega)
      obtain ⟨e, he⟩ : ∃ e : Nat, (l.getD m deadN).1 = (e : Int) + 1 := ⟨((l.getD m deadN).1 - 1).toNat, by omega⟩
      have he41 : e ≤ 41 := by omega
      have hIs : Is l (e + 1) m := ⟨by omega, by rw [he]; omega⟩
      have hz : box7 l room (m : Int) true = if (l.getD m deadN).2.2 = 0 then ((0, 0, 0, 0), false) else (shift7 (boxN l (e + 1) m) (-(2 ^ e)) (-(2 ^ e)), true) := by
        unfold box7
        rw [hr, ndAt_nat, he, show ((e : Int) + 1).toNat = e + 1 by omega, show e + 1 - 1 = e by omega, Int.toNat_natCast]
        generalize (l.getD m deadN).2.2 = pq
        by_cases h : pq = 0
        · rw [if_pos h, if_neg (by simp [h])]
        · rw [if_neg h, if_pos (by simp [h])]
      have hmz : (m : Int) < (l.length : Int) := by omega
      have hl5 := hR6.small
      obtain ⟨b0, off, rfl, hbB, hcell⟩ := hR.at_ (by omega)
      have HC := Lib.hid hcell
      have HR6 := Lib.hid hR6
      have HIS := Lib.hid hIs
      have HE := Lib.hid he
      have HZ := Lib.hid hz
      clear hhs hR hr hz hcell hR6 hIs hbd h1 h2' h3 he
      by_cases hp0 : (l.getD m deadN).2.2 = 0
      · have hz := HZ.out
        rw [if_pos hp0] at hz
        rw [hz]
        clear HZ hz
        go_enter Try.func39, Try.ntmps39
        go_wp2_with fail
        refine hright.mono ?_
        rintro r w1 ⟨rfl, hb1⟩
        have H1 := Lib.hid (HG.out.below hb1)
        have t0 := H1.out.st.s0
        have t1 := H1.out.st.s1
        clear hb1 hright s0 s1
        go_wp2_with fail
        refine (HHS.out w1 H1.out).mono ?_
        rintro r w2 ⟨rfl, hb2⟩
        have H3 := Lib.hid (H1.out.below hb2)
        have p5 := Qt.keep H3.out.st.bel (HC.out m (by omega)).2.2.2.2.2
        rw [hp0] at p5
        have u0 := H3.out.st.s0
        have H2 := HNO.out w2 H3.out
        obtain ⟨r0, r1, r2, r3⟩ := H2.out.1
        have f0 := H3.out.res.f 0
        have f1 := H3.out.res.f 1
        have f2 := H3.out.res.f 2
        have f3 := H3.out.res.f 3
        clear hb2 t0 t1
        go_wp2_with fail
        refine bodyPost_ret (results_cell2 rfl _ _ _ _ _ _ _ rfl (H2.out.2 (0, 0, 0, 0)).1 Try.underlying71 rfl (by kernel_rfl)) rfl ?_
        exact ⟨rfl, (H2.out.2 (0, 0, 0, 0)).2⟩
      · have hz := HZ.out
        rw [if_neg hp0] at hz
        rw [hz]
        obtain ⟨i0, hi, hz0, hz1, hz2⟩ := info_parts infoBox
        have hmk : ∀ u : World, (Instr.makeSlice 113 (.int .i64 ((m : Int) + 1)) (.int .i64 ((m : Int) + 1))).run Try.prog u = .ok (.slice (some ⟨u.heap.size, 0, none⟩) (m + 1) (m + 1)) (u.alloc (.cells (madeCells #[.int .i64 0, .int .i64 0, .int .i64 0, .int .i64 0] ((m + 1) * 4)) 71)) := fun u => by
          have h := run_make (P := Try.prog) u 113 71 i0 _ Try.underlying113 hi hz0 .i64 .i64 ((m : Int) + 1) ((m : Int) + 1) (by omega) (Int.le_refl _) (by rw [hz2]; omega) (by omega)
          have e1 : ((m : Int) + 1).toNat = m + 1 := by omega
          simpa [hz1, Value.cells, e1] using h
        have hp1 : ((l.getD m deadN).2.2 == 0) = false := beq_eq_false_iff_ne.2 hp0
        obtain ⟨pp, hpp⟩ : ∃ pp, pp = (l.getD m deadN).2.2 := ⟨_, rfl⟩
        rw [← hpp] at hp0 hp1
        have HPP := Lib.hid hpp
        clear HZ hz hi hz0 hz1 hz2 hpp
        go_enter Try.func39, Try.ntmps39
        go_wp2_with fail
        refine hright.mono ?_
        rintro r w1 ⟨rfl, hb1⟩
        have H1 := Lib.hid (HG.out.below hb1)
        have t0 := H1.out.st.s0
        have t1 := H1.out.st.s1
        clear hb1 hright s0 s1
        go_wp2_with fail
        refine (HHS.out w1 H1.out).mono ?_
        rintro r w2 ⟨rfl, hb2⟩
        have H3 := H1.out.below hb2
        have p5 := Qt.keep H3.st.bel (HC.out m (by omega)).2.2.2.2.2
        rw [← HPP.out] at p5
        have u0 := H3.st.s0
        have hal := (Below.refl w2.heap.size w2).alloc (Nat.le_refl _) (.cells (madeCells #[.int .i64 0, .int .i64 0, .int .i64 0, .int .i64 0] ((m + 1) * 4)) 71)
        have hq : w.heap.size + 1 < w2.heap.size := lt_heap6 H3.res
        have HL0 : Hid (BbAt w (w2.alloc (.cells (madeCells #[.int .i64 0, .int .i64 0, .int .i64 0, .int .i64 0] ((m + 1) * 4)) 71)) (some ⟨b0, off, none⟩) l.length c room ∧ BxRow (w2.alloc (.cells (madeCells #[.int .i64 0, .int .i64 0, .int .i64 0, .int .i64 0] ((m + 1) * 4)) 71)) w2.heap.size (m + 1) (boxF l) 0) :=
          ⟨H3.below hal, ⟨_, heap_alloc_new w2 _, size_madeCells _ _, fun i hi => absurd hi (Nat.not_lt_zero i)⟩⟩
        clear hb2 t0 t1 H1 H3 hal HHS
        go_wp2_with fail
        clear hmk p5 u0
        generalize (w2.alloc (.cells (madeCells #[.int .i64 0, .int .i64 0, .int .i64 0, .int .i64 0] ((m + 1) * 4)) 71)) = w3 at *
        generalize w2.heap.size = q at *
        go_loopw [33] (fun i wr => ∃ j : Nat, j ≤ m + 1 ∧ i = .int .i64 j ∧ Hid (BbAt w wr (some ⟨b0, off, none⟩) l.length c room ∧ BxRow wr q (m + 1) (boxF l) j)) (fun i _ => m + 1 - (intOf i).toNat)
        case atStart => exact ⟨0, by omega, rfl, HL0.out⟩
        case round =>
          obtain ⟨j, hj, rfl, HH⟩ := hrel
          by_cases hlt : j < m + 1
          · have hltz : (j : Int) < (m : Int) + 1 := by omega
            obtain ⟨n0, n1, n2, n3, n4, n5⟩ := HC.out j (by omega)
            have m0 := Qt.keep HH.out.1.st.bel n0
            have m1 := Qt.keep HH.out.1.st.bel n1
            have m2 := Qt.keep HH.out.1.st.bel n2
            have m3 := Qt.keep HH.out.1.st.bel n3
            have m4 := Qt.keep HH.out.1.st.bel n4
            have m5 := Qt.keep HH.out.1.st.bel n5
            have u0 := HH.out.1.st.s0
            have hbj := right_bd HR6.out j (by omega)
            have hIj : Is l (l.getD j deadN).1.toNat j := ⟨by omega, by omega⟩
            have hab := about_any l HR6.out q (m + 1) j (l.getD j deadN).1.toNat (by omega) hIj (by omega) (by omega) (boxF l) (fun i k' _ hi => by unfold boxF; rw [hi.lev, Int.toNat_natCast]) wr HH.out.2
            have hjz : (j : Int) < (l.length : Int) := by omega
            have hjm : (j : Int) < ((m + 1 : Nat) : Int) := by omega
            have hbv : boxF l j = boxN l (l.getD j deadN).1.toNat j := rfl
            rw [← hbv] at hab
            generalize (l.getD j deadN) = x at *
            obtain ⟨lv, kk, pq⟩ := x
            dsimp only at m0 m1 m2 m3 m4 m5 hab
            have HS := Lib.hid HH
            clear n0 n1 n2 n3 n4 n5 hbj hIj HH hbv HL0
            go_wp2_with fail
            clear m0 m1 m2 m3 m4 m5 u0
            refine hab.mono ?_
            rintro r w5 ⟨rfl, hb5⟩
            have hB5 := HS.out.out.1.below hb5
            have hX5 := HS.out.out.2.below hb5
            obtain ⟨o0, g0⟩ := hX5.some_ (i := j * 4) (by omega)
            obtain ⟨o1, g1⟩ := hX5.some_ (i := j * 4 + 1) (by omega)
            obtain ⟨o2, g2⟩ := hX5.some_ (i := j * 4 + 2) (by omega)
            obtain ⟨o3, g3⟩ := hX5.some_ (i := j * 4 + 3) (by omega)
            have f0 := hX5.free (j * 4)
            have f1 := hX5.free (j * 4 + 1)
            have f2 := hX5.free (j * 4 + 2)
            have f3 := hX5.free (j * 4 + 3)
            have hX6 := hX5.next (by omega)
            have hB6 := hB5.past hq (.int .i64 (boxF l j).1) (.int .i64 (boxF l j).2.1) (.int .i64 (boxF l j).2.2.1) (.int .i64 (boxF l j).2.2.2) (j * 4)
            have HN6 := Lib.hid (And.intro hB6 hX6)
            generalize boxF l j = bb at *
            clear hab hb5 hB5 hX5 hX6 hB6 HS
            go_wp2_with fail
            go_roundw
            case measure => simp [intOf]; omega
            case rel => exact ⟨j + 1, by omega, by go_num, HN6.out⟩
          · obtain rfl : j = m + 1 := by omega
            have hltz : ¬ (((m + 1 : Nat)) : Int) < (m : Int) + 1 := by omega
            have m0 := Qt.keep HH.out.1.st.bel (HC.out m (by omega)).1
            rw [HE.out] at m0
            have u0 := HH.out.1.st.s0
            obtain ⟨x0, x1, x2, x3⟩ := HH.out.2.at_ (i := m) (by omega) (by omega)
            have hbF : boxF l m = boxN l (e + 1) m := by unfold boxF; rw [HE.out, show ((e : Int) + 1).toNat = e + 1 by omega]
            rw [hbF] at x0 x1 x2 x3
            have hgd := boxN_good l (e + 1) m
            obtain ⟨q1, q2⟩ := pow_bd7 (e := e) (by omega)
            have q4 : (2 : Int) ^ (e + 1) ≤ 4398046511104 := pow_le7 (f := 42) (by omega)
            have hneg : IntKind.i64.wrap (-(2 ^ e)) = -(2 ^ e) := by rw [IntKind.wrap_i64]; generalize (2 : Int) ^ e = p at *; omega
            have hhf := fun W => half_any e (by omega) W
            have hmm : (m : Int) < ((m + 1 : Nat) : Int) := by omega
            generalize boxN l (e + 1) m = bb at *
            have hsh := fun W => shifted_any bb (-(2 ^ e)) (-(2 ^ e)) (by unfold GoodB at hgd; unfold I64; generalize (2 : Int) ^ e = p at *; generalize (2 : Int) ^ (e + 1) = p2 at *; omega) (by unfold GoodB at hgd; unfold I64; generalize (2 : Int) ^ e = p at *; generalize (2 : Int) ^ (e + 1) = p2 at *; omega) W
            obtain ⟨bx, by_, bw, bh⟩ := bb
            unfold shift7 boxV at hsh
            unfold shift7
            dsimp only at hsh x0 x1 x2 x3 ⊢
            have HS := Lib.hid HH.out.1
            clear HH hlt hj HL0 hbF hgd q4 HG
            go_wp2_with fail
            refine (hhf wr).mono ?_
            rintro r w5 ⟨rfl, rfl⟩
            clear hhf m0
            go_wp2_with fail
            refine (hsh _).mono ?_
            rintro r w6 ⟨rfl, hb6⟩
            have H6 := HS.out.below hb6
            have H2 := HNO.out w6 H6
            obtain ⟨r0, r1, r2, r3⟩ := H2.out.1
            have f0 := H6.res.f 0
            have f1 := H6.res.f 1
            have f2 := H6.res.f 2
            have f3 := H6.res.f 3
            clear hsh hb6 H6 x0 x1 x2 x3 u0 HS HNO
            go_wp2_with fail
            refine bodyPost_ret (results_cell2 rfl _ _ _ _ _ _ _ rfl (H2.out.2 (bx + -(2 ^ e), by_ + -(2 ^ e), bw, bh)).1 Try.underlying71 rfl (by kernel_rfl)) rfl ?_
            exact ⟨rfl, (H2.out.2 (bx + -(2 ^ e), by_ + -(2 ^ e), bw, bh)).2⟩
end Go.Proofs.Ytcmdhochofoohaa
namespace Go.Proofs.Ytcmdhochofoohaa
set_option maxRecDepth 100000
def aw7S : List Nd := new6 ++ [(1, (0, 0, 0, 1), 1)]
def aw7T : List Nd := aw7S ++ [(1, (0, 0, 0, 0), 0), (1, (1, 0, 0, 0), 1), (2, (3, 3, 3, 4), 1)]
def aw7U : List Nd := aw7T ++ [(1, (0, 0, 1, 0), 1), (2, (3, 3, 6, 4), 2)]
theorem aw7_1 : make7 new6 50 [(0, 0)] 1 = (aw7S, 2, 0) := by kernel_rfl
theorem aw7_2 : grow7 aw7S 50 2 = (aw7T, 5, 0) := by kernel_rfl
theorem aw7_3 : cells7 aw7T 50 5 = ([(0, 0)], 0) := by kernel_rfl
theorem aw7_4 : get7 aw7T 50 5 (0, 0) = (true, 0) := by kernel_rfl
theorem aw7_5 : set7 aw7T 50 5 (-2, 1) true = (aw7U, 7, 0) := by kernel_rfl
theorem aw7_6 : box7 aw7U 50 7 (hasB aw7U 7) = ((-2, 0, 3, 2), true) := by kernel_rfl
theorem aw7_7 : make7 aw7S 50 [(1, 0)] 1 = (aw7S, 0, 2) := by kernel_rfl
theorem aw7_8 : box7 aw7S 50 0 (hasB aw7S 0) = ((0, 0, 0, 0), false) := by kernel_rfl
end Go.Proofs.Ytcmdhochofoohaa
namespace Go.Proofs.Ytcmdhochofoohaa
set_option maxRecDepth 100000
set_option linter.unusedVariables false
set_option linter.unusedSimpArgs false
open Go.RowKit Go.Sort

theorem storeR_box7 {l : List Nd} {room : Int} {w : World} {e : Ending} {w' : World} (h : StoreR l room w e w') : ∃ A c, e = .returned (.agg #[.slice A l.length c, .int .i64 room]) ∧ l.length ≤ c ∧ NowN w' A l ∧ Below w.heap.size w w' := by
  obtain ⟨v, rfl, ⟨A, c, rfl, hc, hN⟩, hb⟩ := h
  exact ⟨A, c, rfl, hc, hN, hb⟩
theorem rdC_one (W : World) (x y : Int) : RdC (W.alloc (.cells #[.int .i64 x, .int .i64 y] 63)) (W.alloc (.cells #[.int .i64 x, .int .i64 y] 63)).heap.size (some ⟨W.heap.size, 0, none⟩) [(x, y)] := fun j hj => by
  have hj0 : j = 0 := by simp at hj; omega
  subst hj0
  have hn := heap_alloc_new W (.cells #[.int .i64 x, .int .i64 y] 63 (0, 0))
  refine ⟨W.heap.size, 0, rfl, by simp, ?_, ?_⟩ <;> · rw [Lib.cell_of_heap hn]; rfl
theorem rdC_one' (W : World) (x y : Int) (b : Nat) (h : W.heap.size = b) : RdC (W.alloc (.cells #[.int .i64 x, .int .i64 y] 63)) (W.alloc (.cells #[.int .i64 x, .int .i64 y] 63)).heap.size (some ⟨b, 0, none⟩) [(x, y)] := by
  subst h
  exact rdC_one W x y
def BxB (w : World) (b : Nat) (x y u v : Int) : Prop := w.heap[b]? = some (.cells #[.int .i64 x, .int .i64 y, .int .i64 u, .int .i64 v] 71 (0, 0))
theorem BxB.below {w w' : World} {b : Nat} {x y u v : Int} (h : BxB w b x y u v) (hb : Below w.heap.size w w') : BxB w' b x y u v := (hb.block _ (lt_heap6 h)).trans h
theorem BxB.s0 {w : World} {b : Nat} {x y u v : Int} (h : BxB w b x y u v) : w.cell? ⟨b, 0, none⟩ = some (.int .i64 x) := by rw [Lib.cell_of_heap h]; rfl
theorem BxB.s1 {w : World} {b : Nat} {x y u v : Int} (h : BxB w b x y u v) : w.cell? ⟨b, 1, none⟩ = some (.int .i64 y) := by rw [Lib.cell_of_heap h]; rfl
theorem BxB.s2 {w : World} {b : Nat} {x y u v : Int} (h : BxB w b x y u v) : w.cell? ⟨b, 2, none⟩ = some (.int .i64 u) := by rw [Lib.cell_of_heap h]; rfl
theorem BxB.s3 {w : World} {b : Nat} {x y u v : Int} (h : BxB w b x y u v) : w.cell? ⟨b, 3, none⟩ = some (.int .i64 v) := by rw [Lib.cell_of_heap h]; rfl
theorem i64_of (x : Int) (h : -1000 ≤ x ∧ x ≤ 1000) : I64 x := by unfold I64; omega
set_option maxHeartbeats 16000000 in
set_option maxRecDepth 100000 in
theorem awake7_any (w : World) : Calls Try.prog 28 #[] w fun e w' => e = .returned (.bool true) ∧ Below w.heap.size w w' := by
  have hn := refNew6_any 50 w
  rw [show newL 50 = new6 from rfl, show newRoom 50 = 50 from rfl] at hn
  go_enter Try.func28, Try.ntmps28
  go_wp2_with fail
  refine hn.mono ?_
  clear hn
  intro e w1 h1
  obtain ⟨A1, c1, rfl, hcap1, N1, hb1⟩ := storeR_box7 h1
  have hal1 := (Below.refl w1.heap.size w1).alloc (Nat.le_refl _) (.cells #[.int .i64 0, .int .i64 0] 63)
  have HC1 := rdC_one w1 0 0
  have hB1 := Qt.more hb1 hb1.size hal1
  have hc2 := make7_any A1 new6 c1 50 (some ⟨w1.heap.size, 0, none⟩) [(0, 0)] 1 1 _ (N1.below hal1) (by decide) hcap1 HC1 (by decide) (by decide)
  rw [aw7_1] at hc2
  unfold storeV at hc2
  clear h1 HC1 N1
  go_wp2_with fail
  refine hc2.mono ?_
  generalize (w1.alloc (.cells #[.int .i64 0, .int .i64 0] 63)) = v1 at *
  intro e w2 h2
  obtain ⟨A2, c2, rfl, hcap2, N2, hb2⟩ := putR_box h2
  have hB2 := Qt.more hB1 hB1.size hb2
  have hal := fun o => (Below.refl w2.heap.size w2).alloc (Nat.le_refl _) o
  have HS := Lib.hid (stB_new N2 hcap2 50)
  have HB := Lib.hid (Qt.more hB2 hB2.size (hal (.cells #[.slice A2 aw7S.length c2, .int .i64 50] 25)))
  clear h2 hc2 hb1 hb2 hB1 hB2 N2 hal hal1
  go_wp2_with fail
  generalize (w2.alloc (.cells #[.slice A2 aw7S.length c2, .int .i64 50] 25)) = v2 at *
  generalize w2.heap.size = b2 at *
  have hc2 := grow7_any A2 aw7S c2 50 2 v2 HS.out.rd (by decide) hcap2
  rw [aw7_2] at hc2
  unfold storeV at hc2
  refine hc2.mono ?_
  intro e w3 h
  obtain ⟨A3, c3, rfl, hcap3, N, hb⟩ := putR_box h
  have hal := fun o => (Below.refl w3.heap.size w3).alloc (Nat.le_refl _) o
  have HT := Lib.hid (stB_new N hcap3 50)
  have HS3 := Lib.hid ((HS.out.below hb).below (hal (.cells #[.slice A3 aw7T.length c3, .int .i64 50] 25)))
  have HB3 := Lib.hid (Qt.more (Qt.more HB.out HB.out.size hb) (Qt.more HB.out HB.out.size hb).size (hal (.cells #[.slice A3 aw7T.length c3, .int .i64 50] 25)))
  clear h hc2 hb N hal HB HS
  go_wp2_with fail
  generalize (w3.alloc (.cells #[.slice A3 aw7T.length c3, .int .i64 50] 25)) = v3 at *
  generalize w3.heap.size = b3 at *
  have hc2 := cells7_any A3 aw7T c3 50 5 v3 HT.out.rd (by decide) hcap3
  rw [aw7_3] at hc2
  unfold storeV at hc2
  refine hc2.mono ?_
  intro e w4 h
  obtain ⟨A4, c4, rfl, hcap4, hC4, hb⟩ := h
  have HC4 := Lib.hid hC4
  have HS4 := Lib.hid (HS3.out.below hb)
  have HT4 := Lib.hid (HT.out.below hb)
  have HB4 := Lib.hid (Qt.more HB3.out HB3.out.size hb)
  have t0 := HT4.out.s0
  have t1 := HT4.out.s1
  clear hc2 hb hC4 HB3 HS3 HT
  go_wp2_with fail
  have hc2 := get7_any A3 aw7T c3 50 5 (0, 0) w4 HT4.out.rd (by decide) hcap3 (i64_of _ (by decide)) (i64_of _ (by decide))
  rw [aw7_4] at hc2
  unfold storeV cellV at hc2
  clear t0 t1
  refine hc2.mono ?_
  rintro e w5 ⟨rfl, hb⟩
  have HC5 := Lib.hid ((HC4.out.below hb (Nat.le_refl _)).more hb.size)
  have HS5 := Lib.hid (HS4.out.below hb)
  have HT5 := Lib.hid (HT4.out.below hb)
  have HB5 := Lib.hid (Qt.more HB4.out HB4.out.size hb)
  have t0 := HT5.out.s0
  have t1 := HT5.out.s1
  clear hc2 hb HC4 HB4 HS4 HT4
  go_wp2_with fail
  clear t0 t1
  have hc2 := set7_any A3 aw7T c3 50 5 (-2, 1) true w5 HT5.out.rd (by decide) hcap3 (i64_of _ (by decide)) (i64_of _ (by decide))
  rw [aw7_5] at hc2
  unfold storeV cellV at hc2
  refine hc2.mono ?_
  intro e w6 h
  obtain ⟨A6, c6, rfl, hcap6, N, hb⟩ := putR_box h
  have hal := fun o => (Below.refl w6.heap.size w6).alloc (Nat.le_refl _) o
  have hb' := Qt.more (B := w5.heap.size) hb hb.size (hal (.cells #[.slice A6 aw7U.length c6, .int .i64 50] 25))
  have HU6 := Lib.hid (stB_new N hcap6 50)
  have HC6 := Lib.hid ((HC5.out.below hb' (Nat.le_refl _)).more hb'.size)
  have HS6 := Lib.hid (HS5.out.below hb')
  have HT6 := Lib.hid (HT5.out.below hb')
  have HB6 := Lib.hid (Qt.more HB5.out HB5.out.size hb')
  clear h hc2 hb hb' N hal HC5 HB5 HS5 HT5
  go_wp2_with fail
  generalize (w6.alloc (.cells #[.slice A6 aw7U.length c6, .int .i64 50] 25)) = v6 at *
  generalize w6.heap.size = b6 at *
  have hc2 := box7_any A6 aw7U c6 50 7 v6 HU6.out.rd (by decide) hcap6
  rw [aw7_6] at hc2
  unfold storeV at hc2
  refine hc2.mono ?_
  rintro e w7 ⟨rfl, hb⟩
  have hal := (Below.refl w7.heap.size w7).alloc (Nat.le_refl _) (.cells #[.int .i64 (-2), .int .i64 0, .int .i64 3, .int .i64 2] 71)
  have hb' := Qt.more (B := v6.heap.size) hb hb.size hal
  have HX7 := Lib.hid (show BxB (w7.alloc (.cells #[.int .i64 (-2), .int .i64 0, .int .i64 3, .int .i64 2] 71)) w7.heap.size (-2) 0 3 2 from heap_alloc_new w7 _)
  have HC7 := Lib.hid ((HC6.out.below hb' (Nat.le_refl _)).more hb'.size)
  have HS7 := Lib.hid (HS6.out.below hb')
  have HT7 := Lib.hid (HT6.out.below hb')
  have HB7 := Lib.hid (Qt.more HB6.out HB6.out.size hb')
  have s0o := fun o => ((HS6.out.below hb).below ((Below.refl w7.heap.size w7).alloc (Nat.le_refl _) o)).s0
  have s1o := fun o => ((HS6.out.below hb).below ((Below.refl w7.heap.size w7).alloc (Nat.le_refl _) o)).s1
  clear hc2 hb hb' hal HC6 HB6 HS6 HT6 HU6
  go_wp2_with fail
  clear s0o s1o
  have hs7 : (w7.alloc (.cells #[.int .i64 (-2), .int .i64 0, .int .i64 3, .int .i64 2] 71)).heap.size = w7.heap.size + 1 := by simp
  have hal := (Below.refl (w7.alloc (.cells #[.int .i64 (-2), .int .i64 0, .int .i64 3, .int .i64 2] 71)).heap.size (w7.alloc (.cells #[.int .i64 (-2), .int .i64 0, .int .i64 3, .int .i64 2] 71))).alloc (Nat.le_refl _) (.cells #[.int .i64 1, .int .i64 0] 63)
  have HR := rdC_one' (w7.alloc (.cells #[.int .i64 (-2), .int .i64 0, .int .i64 3, .int .i64 2] 71)) 1 0 _ hs7
  have HS8 := Lib.hid (HS7.out.below hal)
  have HT8 := Lib.hid (HT7.out.below hal)
  have HX8 := Lib.hid (HX7.out.below hal)
  have HC8 := Lib.hid ((HC7.out.below hal (Nat.le_refl _)).more hal.size)
  have HB8 := Lib.hid (Qt.more HB7.out HB7.out.size hal)
  have hc2 := make7_any A2 aw7S c2 50 (some ⟨w7.heap.size + 1, 0, none⟩) [(1, 0)] 1 1 _ HS8.out.rd (by decide) hcap2 HR (by decide) (by decide)
  rw [aw7_7] at hc2
  unfold storeV at hc2
  clear HS7 HT7 HX7 HC7 HB7 hal HR hs7
  refine hc2.mono ?_
  generalize ((w7.alloc (.cells #[.int .i64 (-2), .int .i64 0, .int .i64 3, .int .i64 2] 71)).alloc (.cells #[.int .i64 1, .int .i64 0] 63)) = v8 at *
  generalize w7.heap.size = b7 at *
  intro e w9 h
  obtain ⟨A9, c9, rfl, hcap9, N, hb⟩ := putR_box h
  have hal := (Below.refl w9.heap.size w9).alloc (Nat.le_refl _) (.cells #[.slice A9 aw7S.length c9, .int .i64 50] 25)
  have hb' := Qt.more (B := v8.heap.size) hb hb.size hal
  have HX9 := Lib.hid (HX8.out.below hb')
  have HC9 := Lib.hid ((HC8.out.below hb' (Nat.le_refl _)).more hb'.size)
  have HS9 := Lib.hid (HS8.out.below hb')
  have HT9 := Lib.hid (HT8.out.below hb')
  have HB9 := Lib.hid (Qt.more HB8.out HB8.out.size hb')
  have s0o := fun o => ((HS8.out.below hb).below ((Below.refl w9.heap.size w9).alloc (Nat.le_refl _) o)).s0
  have s1o := fun o => ((HS8.out.below hb).below ((Below.refl w9.heap.size w9).alloc (Nat.le_refl _) o)).s1
  clear h hc2 hb hb' hal N HC8 HX8 HB8 HS8 HT8
  go_wp2_with fail
  clear s0o s1o
  generalize (w9.alloc (.cells #[.slice A9 aw7S.length c9, .int .i64 50] 25)) = v9 at *
  have hc2 := box7_any A2 aw7S c2 50 0 v9 HS9.out.rd (by decide) hcap2
  rw [aw7_8] at hc2
  unfold storeV at hc2
  refine hc2.mono ?_
  rintro e w10 ⟨rfl, hb⟩
  have hbo := fun o => Qt.more (B := v9.heap.size) hb hb.size ((Below.refl w10.heap.size w10).alloc (Nat.le_refl _) o)
  have HB := Lib.hid (Qt.more HB9.out HB9.out.size (hbo (.cells #[.int .i64 0, .int .i64 0, .int .i64 0, .int .i64 0] 71)))
  have haS : (aw7S.length : Int) = 3 := rfl
  have haT : (aw7T.length : Int) = 6 := rfl
  have haC : (([(0, 0)] : List (Int × Int)).length : Int) = 1 := rfl
  have s0 := fun o => (HS9.out.below (hbo o)).s0
  have t0 := fun o => (HT9.out.below (hbo o)).s0
  have p0 := fun o => (HX9.out.below (hbo o)).s0
  have p1 := fun o => (HX9.out.below (hbo o)).s1
  have p2 := fun o => (HX9.out.below (hbo o)).s2
  have p3 := fun o => (HX9.out.below (hbo o)).s3
  obtain ⟨qs, os, rfl, hls, hns⟩ := HS9.out.nd (by decide)
  obtain ⟨qt, ot, rfl, hlt, hnt⟩ := HT9.out.nd (by decide)
  obtain ⟨qc, oc, rfl, hlc, hc⟩ := HC9.out.at_ (by decide)
  obtain ⟨_, y1, y2, y3, y4, _⟩ := hns 2 (by decide)
  have y5 := (hnt 5 (by decide)).1
  obtain ⟨y6, y7⟩ := hc 0 (by decide)
  have x1 : ∀ o, (w10.alloc o).cell? ⟨qs, os + 2 * 6 + 1, none⟩ = some (.int .i64 0) := fun o => ((hbo o).cell hls).trans y1
  have x2 : ∀ o, (w10.alloc o).cell? ⟨qs, os + 2 * 6 + 2, none⟩ = some (.int .i64 0) := fun o => ((hbo o).cell hls).trans y2
  have x3 : ∀ o, (w10.alloc o).cell? ⟨qs, os + 2 * 6 + 3, none⟩ = some (.int .i64 0) := fun o => ((hbo o).cell hls).trans y3
  have x4 : ∀ o, (w10.alloc o).cell? ⟨qs, os + 2 * 6 + 4, none⟩ = some (.int .i64 1) := fun o => ((hbo o).cell hls).trans y4
  have x5 : ∀ o, (w10.alloc o).cell? ⟨qt, ot + 5 * 6, none⟩ = some (.int .i64 2) := fun o => ((hbo o).cell hlt).trans y5
  have x6 : ∀ o, (w10.alloc o).cell? ⟨qc, oc, none⟩ = some (.int .i64 0) := fun o => ((hbo o).cell hlc).trans y6
  have x7 : ∀ o, (w10.alloc o).cell? ⟨qc, oc + 1, none⟩ = some (.int .i64 0) := fun o => ((hbo o).cell hlc).trans y7
  have he := fun W => eqlK (0, 0, 0, 1) (0, 0, 0, 1) W
  dsimp only at he
  clear hc2 hb hbo HB9 HC9 HX9 HS9 HT9 hns hnt hc y1 y2 y3 y4 y5 y6 y7
  go_wp2_with fail
  go_ret
  exact ⟨rfl, HB.out⟩
end Go.Proofs.Ytcmdhochofoohaa
namespace Go.Proofs.Ytcmdhochofoohaa
set_option maxRecDepth 100000
set_option linter.unusedVariables false
set_option linter.unusedSimpArgs false

theorem kid_alive (l : List Nd) (k n : Nat) {i : Nat} (hi : i < 4) (c : Int × Int) : ∃ c', q7 k c' = i ∧ Agree k c' c ∧ alive l k (kidN l n i) c = alive l (k + 1) n c' := by
  obtain ⟨c', h1, h2⟩ := with_bit k i c hi
  refine ⟨c', h1, h2, ?_⟩
  show _ = alive l k (kidN l n (q7 k c')) c'
  rw [h1, alive_agree k _ h2]
/-- a node without cells is the empty one of its level -/
theorem emp_of {l : List Nd} {room : Int} (hr : Right6 l room) : ∀ (k n : Nat), Is l k n → (∀ c, alive l k n c = false) → Emp l k n
  | 0, n, h, ha => by
    have h0 : decide (n = 1) = false := ha (0, 0)
    have h1 := h.zero hr
    have h2 : ¬ n = 1 := by simpa using h0
    show n = 0
    omega
  | k + 1, n, h, ha => by
    have hk : ∀ i, i < 4 → ∀ c, alive l k (kidN l n i) c = false := fun i hi c => by
      obtain ⟨c', _, _, e⟩ := kid_alive l k n hi c
      rw [e]
      exact ha c'
    have he : ∀ i, i < 4 → kidN l n i = kidN l n 0 := fun i hi => alive_inj hr k _ _ (kid_is hr h hi) (kid_is hr h (by decide)) fun c => by rw [hk i hi c, hk 0 (by decide) c]
    have h0 := emp_of hr k _ (kid_is hr h (i := 0) (by decide)) (hk 0 (by decide))
    refine ⟨kidN l n 0, h0, ?_⟩
    have f1 := (fits_iff.1 (hr.fits n (h.two hr) h.lt)).first
    have e : (l.getD n deadN).2.1 = (((kidN l n 0 : Nat) : Int), ((kidN l n 0 : Nat) : Int), ((kidN l n 0 : Nat) : Int), ((kidN l n 0 : Nat) : Int)) := kd_ext fun i hi => by rw [kid_cast hr h hi, he i hi, kd_four _ i hi]
    rw [e] at f1
    exact f1
theorem kids_fit7 {l : List Nd} {room : Int} (hr : Right6 l room) {k n : Nat} (h : Is l (k + 1) n) (hk : k + 1 ≤ 42) : Fit4 l (l.getD n deadN).2.1 := by
  refine ⟨fun i hi => ?_, ?_⟩
  · have hi' := kid_is hr h hi
    have h0 := kid_is hr h (i := 0) (by decide)
    have c0 : (l.getD n deadN).2.1.1 = _ := kid_cast hr h (i := 0) (by decide)
    rw [kid_cast hr h hi, c0, ndAt_nat, ndAt_nat, hi'.lev, h0.lev]
    exact ⟨by omega, by have := hi'.lt; omega, rfl⟩
  · have h0 := kid_is hr h (i := 0) (by decide)
    have c0 : (l.getD n deadN).2.1.1 = _ := kid_cast hr h (i := 0) (by decide)
    rw [c0, ndAt_nat, h0.lev]
    omega
/-- a node that is there is found -/
theorem build_had {l : List Nd} {room : Int} (hr : Right6 l room) : ∀ (k n : Nat) (S : List (Int × Int)), k ≤ 42 → Is l k n → (∀ c, alive l k n c = S.any fun s => agreeB k s c) → buildC room k l S = (l, (n : Int), 0)
  | 0, n, S, _, h, ha => by
    have h0 : decide (n = 1) = S.any fun s => agreeB 0 s (0, 0) := ha (0, 0)
    have h1 := h.zero hr
    unfold buildC
    by_cases hS : S = []
    · subst hS
      have : ¬ n = 1 := by simpa using h0
      obtain rfl : n = 0 := by omega
      rfl
    · rw [if_neg hS]
      obtain ⟨s, t, rfl⟩ := List.exists_cons_of_ne_nil hS
      have e : agreeB 0 s (0, 0) = true := rfl
      rw [List.any_cons, e, Bool.true_or] at h0
      obtain rfl : n = 1 := by simpa using h0
      rfl
  | k + 1, n, S, hk, h, ha => by
    by_cases hS : S = []
    · subst hS
      rw [buildC_nil]
      exact empty_had hr _ _ hk (emp_of hr _ _ h fun c => by rw [ha c]; rfl)
    · unfold buildC
      rw [if_neg hS]
      have hq : ∀ i, i < 4 → buildC room k l (S.filter fun c => decide (q7 k c = i)) = (l, ((kidN l n i : Nat) : Int), 0) := fun i hi => by
        refine build_had hr k _ _ (by omega) (kid_is hr h hi) fun c => ?_
        obtain ⟨c', h1, h2, e⟩ := kid_alive l k n hi c
        rw [e, ha c', Bool.eq_iff_iff, List.any_eq_true, List.any_eq_true]
        constructor
        · rintro ⟨s, hs, hs2⟩
          obtain ⟨g1, g2⟩ := agree_succ.1 (agree_iff.1 hs2)
          exact ⟨s, List.mem_filter.2 ⟨hs, by simpa using g1.trans h1⟩, agree_iff.2 (g2.trans h2)⟩
        · rintro ⟨s, hs, hs2⟩
          obtain ⟨g1, g2⟩ := List.mem_filter.1 hs
          have g3 : q7 k s = i := by simpa using g2
          exact ⟨s, g1, agree_iff.2 (agree_succ.2 ⟨g3.trans h1.symm, (agree_iff.1 hs2).trans h2.symm⟩)⟩
      have h4 : fourTo (fun i l => buildC room k l (S.filter fun c => decide (q7 k c = i))) l 4 = (l, (l.getD n deadN).2.1, 0) := by
        have e : (l.getD n deadN).2.1 = (((kidN l n 0 : Nat) : Int), ((kidN l n 1 : Nat) : Int), ((kidN l n 2 : Nat) : Int), ((kidN l n 3 : Nat) : Int)) := kd_ext fun i hi => by
          rw [kid_cast hr h hi]
          rcases (by omega : i = 0 ∨ i = 1 ∨ i = 2 ∨ i = 3) with rfl | rfl | rfl | rfl <;> rfl
        have q0 := hq 0 (by decide)
        have q1 := hq 1 (by decide)
        have q2 := hq 2 (by decide)
        have q3 := hq 3 (by decide)
        rw [e]
        simp only [fourTo, q0, q1, q2, q3, if_pos, kset]
      unfold four
      rw [h4, if_pos rfl]
      exact put_again (kids_fit7 hr h hk) (fits_iff.1 (hr.fits n (h.two hr) h.lt)).first

/-- A node that stands for a set. -/
structure Sq (l : List Nd) (room : Int) (e n : Nat) (S : List (Int × Int)) : Prop where
  right : Right6 l room
  is : Is l (e + 1) n
  low : e ≤ 41
  set : Cel.rightB S = true
  ins : ∀ s ∈ S, insideB e s = true
  alive : ∀ c, alive l (e + 1) n c = (S.map (inwardC e)).any fun s => agreeB (e + 1) s c
section
variable {l m : List Nd} {room : Int} {e n p : Nat} {S T : List (Int × Int)}
theorem Sq.grows (h : Sq l room e n S) (g : Grows l m) (hr : Right6 m room) : Sq m room e n S := ⟨hr, h.is.grows g, h.low, h.set, h.ins, fun c => by rw [alive_grows h.right g c _ _ h.is, h.alive c]⟩
theorem inside_sq {e : Nat} {c : Int × Int} (h : insideB e c = true) : InSq (e + 1) (inwardC e c) := by
  unfold insideB at h
  have h' := of_decide_eq_true h
  have hp : (2 : Int) ^ (e + 1) = 2 ^ e * 2 := Int.pow_succ _ _
  unfold InSq inwardC
  rw [hp]
  generalize (2 : Int) ^ e = P at *
  refine ⟨?_, ?_, ?_, ?_⟩ <;> simp only <;> omega
theorem Sq.mem (h : Sq l room e n S) {c : Int × Int} (hc : insideB e c = true) : Go.Proofs.Ytcmdhochofoohaa.alive l (e + 1) n (inwardC e c) = true ↔ c ∈ S := by
  rw [h.alive, List.any_eq_true]
  constructor
  · rintro ⟨s, hs, ha⟩
    obtain ⟨t, ht, rfl⟩ := List.mem_map.1 hs
    have := agree_ext (inside_sq (h.ins t ht)) (inside_sq hc) (agree_iff.1 ha)
    unfold inwardC at this
    injection this with e1 e2
    have : t = c := Prod.ext (by omega) (by omega)
    exact this ▸ ht
  · intro hs
    exact ⟨inwardC e c, List.mem_map_of_mem hs, agree_iff.2 (Agree.refl _ _)⟩
theorem Sq.same (h : Sq l room e n S) (h2 : Sq l room e n T) : S = T :=
  Cel.rises_ext ((Cel.rightB_iff _).1 h.set).2.2 ((Cel.rightB_iff _).1 h2.set).2.2 fun y => ⟨fun hy => (h2.mem (h.ins y hy)).1 ((h.mem (h.ins y hy)).2 hy), fun hy => (h.mem (h2.ins y hy)).1 ((h2.mem (h2.ins y hy)).2 hy)⟩
theorem Sq.one (h : Sq l room e n S) (h2 : Sq l room e p S) : n = p := alive_inj h.right _ _ _ h.is h2.is fun c => by rw [h.alive, h2.alive]
theorem Sq.iff (h : Sq l room e n S) (h2 : Sq l room e p T) : n = p ↔ S = T := ⟨fun q => by subst q; exact h.same h2, fun q => by subst q; exact h.one h2⟩
theorem makeZ_yes (hlow : e ≤ 41) (hS : Cel.rightB S = true) (hin : ∀ s ∈ S, insideB e s = true) : makeZ room l S ((e : Int) + 1) = buildC room (e + 1) l (S.map (inwardC e)) := by
  unfold makeZ
  have e1 : ((e : Int) + 1).toNat = e + 1 := by omega
  rw [e1, Nat.add_sub_cancel, if_pos, if_pos]
  · exact List.all_eq_true.2 hin
  · simp only [hS, Bool.and_true, Bool.and_eq_true, decide_eq_true_eq]
    omega
theorem make_ok (hr : Right6 l room) (hlow : e ≤ 41) (hS : Cel.rightB S = true) (hin : ∀ s ∈ S, insideB e s = true) (hroom : ((l.length + S.length * (e + 1) + (e + 1) : Nat) : Int) ≤ room) :
    ∃ (m : List Nd) (n : Nat), make7 l room S ((e : Int) + 1) = (m, (n : Int), 0) ∧ Grows l m ∧ Sq m room e n S ∧ m.length ≤ l.length + S.length * (e + 1) + (e + 1) := by
  obtain ⟨m, n, h', e1, hm⟩ := build_res (room := room) (K := e + 1) (by omega) (e + 1) (Nat.le_refl _) l 0 (S.map (inwardC e)) hr (by omega) ⟨0, rfl⟩ (by rw [List.length_map]; omega)
  refine ⟨m, n, ?_, hm.grows, ⟨hm.right, hm.is, hlow, hS, hin, hm.alive⟩, ?_⟩
  · unfold make7 grown6
    rw [if_pos (right_iff.2 hr), makeZ_yes hlow hS hin, e1, if_pos rfl]
  · have := hm.len
    have := hm.hi
    rw [List.length_map] at *
    omega
theorem Sq.again (h : Sq l room e n S) : make7 l room S ((e : Int) + 1) = (l, (n : Int), 0) := by
  unfold make7 grown6
  rw [if_pos (right_iff.2 h.right), makeZ_yes h.low h.set h.ins, build_had h.right _ _ _ (by have := h.low; omega) h.is h.alive, if_pos rfl]
theorem Sq.flat (h : Sq l room e n S) (c : Int × Int) : c ∈ about7 l e n ↔ c ∈ S := by
  unfold about7
  rw [mem_flat]
  have hp : (2 : Int) ^ (e + 1) = 2 ^ e * 2 := Int.pow_succ _ _
  have e2 : (c.1 - -(2 ^ e), c.2 - -(2 ^ e)) = inwardC e c := by unfold inwardC; exact Prod.ext (by omega) (by omega)
  have e3 : InAt7 (e + 1) (-(2 ^ e), -(2 ^ e)) c ↔ insideB e c = true := by
    unfold InAt7 insideB
    rw [hp, decide_eq_true_iff]
    generalize (2 : Int) ^ e = P
    simp only
    omega
  rw [e2, e3]
  exact ⟨fun ⟨h1, h2⟩ => (h.mem h1).1 h2, fun hc => ⟨h.ins c hc, (h.mem (h.ins c hc)).2 hc⟩⟩
theorem Sq.len (h : Sq l room e n S) : (about7 l e n).length = S.length :=
  ((List.perm_ext_iff_of_nodup (flat_nodup _ _ _) (((Cel.rightB_iff _).1 h.set).2.2.imp fun {a b} hab hE => by subst hE; exact absurd hab (by simp [Cel.lessB]))).2 h.flat).length_eq
theorem Sq.pop (h : Sq l room e n S) : (l.getD n deadN).2.2 = S.length := by
  have h1 := flat_pop h.right _ _ (-(2 ^ e), -(2 ^ e)) h.is
  have h2 := h.len
  have h3 := ((Cel.rightB_iff _).1 h.set).1
  unfold about7 at h2
  rw [h2] at h1
  omega
theorem Sq.has (h : Sq l room e n S) : hasB l n = true := by
  unfold hasB
  rw [decide_eq_true_iff, ndAt_nat, h.is.lev]
  have := h.is.lt
  omega
theorem Sq.cells (h : Sq l room e n S) : cells7 l room n = (S, 0) := by
  unfold cells7
  have h3 := (Cel.rightB_iff _).1 h.set
  have e1 : ((l.getD n deadN).1).toNat - 1 = e := by rw [h.is.lev]; omega
  rw [if_pos (by rw [right_iff.2 h.right, h.has]; rfl), ndAt_nat, h.pop, if_neg (by omega), e1, Int.toNat_natCast, if_neg, Cel.rises_ext (Cel.rises_setL _) h3.2.2 fun y => (Cel.mem_setL _ y).trans (h.flat y)]
  intro ha
  obtain ⟨c, hc, hb⟩ := List.any_eq_true.1 ha
  rw [h3.2.1 c ((h.flat c).1 hc)] at hb
  exact absurd hb (by decide)
end
end Go.Proofs.Ytcmdhochofoohaa
namespace Go.Proofs.Ytcmdhochofoohaa.Cel
open Go.RowKit Go.Sort

def rawCell (p : Int × Int) : Int × Int := (pickI p.1 16 - 8, pickI p.2 16 - 8)
/-- the cells that the first k raw numbers tell -/
def rawTo (raw : List (Int × Int)) (k : Nat) : List (Int × Int) := (raw.take k).map rawCell
/-- the set that the laws make of raw numbers -/
def rawSet (raw : List (Int × Int)) : List (Int × Int) := setL (rawTo raw 60)
theorem rawTo_succ {raw : List (Int × Int)} {k : Nat} (hk : k < raw.length) : rawTo raw (k + 1) = rawTo raw k ++ [rawCell (raw.getD k (0, 0))] := by
  unfold rawTo; rw [take_snoc hk, List.map_append]; rfl
theorem length_rawTo (raw : List (Int × Int)) (k : Nat) : (rawTo raw k).length ≤ k := by
  unfold rawTo; rw [List.length_map, List.length_take]; omega
theorem rawCell_bd (p : Int × Int) : -8 ≤ (rawCell p).1 ∧ (rawCell p).1 ≤ 7 ∧ -8 ≤ (rawCell p).2 ∧ (rawCell p).2 ≤ 7 := by
  have h1 := pickI_bd p.1 16 (by omega)
  have h2 := pickI_bd p.2 16 (by omega)
  unfold rawCell
  simp only
  omega
theorem rawTo_bd {raw : List (Int × Int)} {k : Nat} {p : Int × Int} (h : p ∈ rawTo raw k) : -8 ≤ p.1 ∧ p.1 ≤ 7 ∧ -8 ≤ p.2 ∧ p.2 ≤ 7 := by
  unfold rawTo at h
  obtain ⟨q, _, rfl⟩ := List.mem_map.1 h
  exact rawCell_bd q

/-- A slice that reads as a list, whatever its place and capacity. -/
def Reads (w : World) (v : Value) (l : List (Int × Int)) : Prop := ∃ A c, v = .slice A l.length c ∧ l.length ≤ c ∧ Rd w w.heap.size A l
theorem Reads.below {w w' : World} {v : Value} {l : List (Int × Int)} (h : Reads w v l) (hb : Below w.heap.size w w') : Reads w' v l := by
  obtain ⟨A, c, e, hc, hr⟩ := h
  exact ⟨A, c, e, hc, (hr.below hb (Nat.le_refl _)).more hb.size⟩

def I64 (x : Int) : Prop := -9223372036854775808 ≤ x ∧ x ≤ 9223372036854775807

/-- where a slice of cells of the call's own lies -/
def Shape (A : Option Addr) (n c : Nat) : Prop := (A = none ∧ c = 0 ∧ n = 0) ∨ ∃ g, A = some ⟨g, 0, none⟩
theorem shape_own {w : World} {B T : Nat} {A : Option Addr} {n c : Nat} {l : List (Int × Int)} (h : Own w B T (.slice A n c) l) : Shape A n c := by
  rcases h.2 with ⟨h1, h2⟩ | ⟨g, cap, cur, h1, _⟩
  · simp only [Value.slice.injEq] at h1
    exact .inl ⟨h1.1, h1.2.2, h1.2.1⟩
  · simp only [Value.slice.injEq] at h1
    exact .inr ⟨g, h1.1⟩

set_option maxHeartbeats 1000000 in
theorem set_own (A : Option Addr) (raw : List (Int × Int)) (c : Nat) (w : World) (hR : Rd w w.heap.size A raw) (hl : raw.length ≤ 9223372036854775807) (hc : raw.length ≤ c) (hw : ∀ p ∈ raw, I64 p.1 ∧ I64 p.2) :
    Calls Try.prog 29 #[.slice A raw.length c] w fun e w' => ∃ v, e = .returned v ∧ Own w' 0 63 v (rawSet raw) ∧ Below w.heap.size w w' := by
  have HW := Lib.hid hw
  clear hw
  go_enter Try.func29, Try.ntmps29
  go_wp2
  go_loopw [3, 4] (fun v i wr => ∃ k : Nat, k ≤ raw.length ∧ k ≤ 60 ∧ i = .int .i64 k ∧ Aside (Own wr 0 63 v (setL (rawTo raw k))) ∧ Below w.heap.size w wr) (fun _ i _ => 60 - (intOf i).toNat)
  case atStart => exact ⟨0, Nat.zero_le _, by omega, rfl, World.ownsRow_nil _ _ _ _, Below.refl _ _⟩
  case round =>
    obtain ⟨k, hk, hk60, rfl, HO, hb⟩ := hrel
    by_cases hlt : k < raw.length ∧ k < 60
    · obtain ⟨hlt, h60⟩ := hlt
      have hltz : (k : Int) < (raw.length : Int) := by omega
      have h60z : (k : Int) < 60 := by omega
      obtain ⟨b, off, rfl, hbB, hcell⟩ := hR.at_ (by omega)
      obtain ⟨⟨x, y⟩, hxy⟩ : ∃ p, p = raw.getD k (0, 0) := ⟨_, rfl⟩
      obtain ⟨c0, c1⟩ := hcell k hlt
      rw [← hxy] at c0 c1
      simp only at c0 c1
      have c0 := Qt.keep hb c0
      have c1 := Qt.keep hb c1
      have hwf := HW.out _ (getD_mem hlt)
      rw [← hxy] at hwf
      have HWF := Lib.hid hwf
      have hbd := rawCell_bd (x, y)
      unfold rawCell at hbd
      simp only at hbd
      obtain ⟨n1, n2, n3, n4⟩ := hbd
      have HXY := Lib.hid hxy
      obtain ⟨A', c', hv, hc', hr'⟩ := HO.out.rd
      have hsl := length_setL (rawTo raw k)
      have hrl := length_rawTo raw k
      have k0 := Qt.cell_in c0
      have k1 := Qt.cell_in c1
      have HR' := Lib.hid hr'
      subst hv
      clear hxy hcell hwf hr'
      go_wp2
      refine Qt.below_tail 16 (by kernel_rfl) (by kernel_rfl) ?_
      simp only [List.take_succ_cons, List.take_zero, List.drop_succ_cons, List.drop_zero]
      repeat (go_big_quiet_step (first | (go_at_call_of 55 x; exact Qt.at_same fun _ _ => pick_any x 16 _ HWF.out.1.1 HWF.out.1.2 (by omega) (by omega)) | (go_at_call_of 55 y; exact Qt.at_same fun _ _ => pick_any y 16 _ HWF.out.2.1 HWF.out.2.2 (by omega) (by omega))))
      refine wpQuiet_nil ?_
      intro w1 hb1
      have HR1 := (HR'.out.below hb1 (Nat.le_refl _)).more hb1.size
      have hp := put_any A' (setL (rawTo raw k)) c' (pickI x 16 - 8, pickI y 16 - 8) w1 HR1 (by omega) hc'
      have hset : putL (pickI x 16 - 8, pickI y 16 - 8) (setL (rawTo raw k)) = setL (rawTo raw (k + 1)) := by
        rw [rawTo_succ hlt, setL_snoc, ← HXY.out]
        rfl
      rw [hset] at hp
      clear hset HR1
      go_wp2_with (go_at_call 54; refine hp.mono ?_; rintro e w2 ⟨v2, rfl, hown2, hb2⟩)
      go_roundw
      case measure => simp [intOf]; omega
      case rel =>
        refine ⟨k + 1, by omega, by omega, by go_num, ?_, Qt.more (Qt.more hb hb.size hb1) (Nat.le_trans hb.size hb1.size) hb2⟩
        exact hown2.mono (Nat.zero_le _)
    · have hset : rawTo raw k = rawTo raw 60 := by
        unfold rawTo
        by_cases h : k < raw.length
        · rw [show k = 60 by omega]
        · rw [List.take_of_length_le (by omega), List.take_of_length_le (by omega)]
      have HSET := Lib.hid hset
      clear hset
      by_cases h1 : k < raw.length
      · have h1z : (k : Int) < (raw.length : Int) := by omega
        have h2z : ¬ (k : Int) < 60 := by omega
        go_wp2
        go_ret
        have := HO.out
        rw [HSET.out] at this
        exact ⟨_, rfl, this, hb⟩
      · have h1z : ¬ (k : Int) < (raw.length : Int) := by omega
        go_wp2
        go_ret
        have := HO.out
        rw [HSET.out] at this
        exact ⟨_, rfl, this, hb⟩

theorem set_any (A : Option Addr) (raw : List (Int × Int)) (c : Nat) (w : World) (hR : Rd w w.heap.size A raw) (hl : raw.length ≤ 9223372036854775807) (hc : raw.length ≤ c) (hw : ∀ p ∈ raw, I64 p.1 ∧ I64 p.2) :
    Calls Try.prog 29 #[.slice A raw.length c] w fun e w' => ∃ v, e = .returned v ∧ Reads w' v (rawSet raw) ∧ Below w.heap.size w w' :=
  (set_own A raw c w hR hl hc hw).mono fun e w' ⟨v, he, ho, hb⟩ => by
    obtain ⟨A2, c2, h1, h2, h3⟩ := ho.rd
    exact ⟨v, he, ⟨A2, c2, h1, h2, h3⟩, hb⟩

end Go.Proofs.Ytcmdhochofoohaa.Cel
namespace Go.Proofs.Ytcmdhochofoohaa.Cel
open Go.RowKit Go.Sort

theorem eq_of_all {l m : List (Int × Int)} (hlen : l.length = m.length) (h : ∀ j, j < l.length → l.getD j (0, 0) = m.getD j (0, 0)) : l = m := by
  refine List.ext_getElem hlen fun j h1 h2 => ?_
  have := h j h1
  rwa [List.getD_eq_getElem?_getD, List.getD_eq_getElem?_getD, List.getElem?_eq_getElem h1, List.getElem?_eq_getElem h2] at this

theorem same_len (A A' : Option Addr) (n m c c' : Nat) (w : World) (hne : n ≠ m) :
    Calls Try.prog 33 #[.slice A n c, .slice A' m c'] w fun e w' => e = .returned (.bool false) ∧ Below w.heap.size w w' := by
  have hz : ((n : Int) == (m : Int)) = false := beq_eq_false_iff_ne.2 (by omega)
  have hz2 : ((n : Int) != (m : Int)) = true := by rw [bne, hz]; rfl
  go_enter Try.func33, Try.ntmps33
  go_wp2
  go_ret
  exact ⟨rfl, Below.refl _ _⟩

theorem same_any (A A' : Option Addr) (l m : List (Int × Int)) (c c' : Nat) (w : World) (hR : Rd w w.heap.size A l) (hR' : Rd w w.heap.size A' m) (hl : l.length ≤ 1000000) (hlm : l.length = m.length) :
    Calls Try.prog 33 #[.slice A l.length c, .slice A' l.length c'] w fun e w' => e = .returned (.bool (decide (l = m))) ∧ Below w.heap.size w w' := by
  generalize hr : decide (l = m) = r
  have HR := Lib.hid hr
  have HLM := Lib.hid hlm
  clear hr hlm
  go_enter Try.func33, Try.ntmps33
  go_wp2
  go_loopw [5] (fun i wr => ∃ k : Nat, k ≤ l.length ∧ i = .int .i64 k ∧ Hid (∀ j, j < k → l.getD j (0, 0) = m.getD j (0, 0)) ∧ Below w.heap.size w wr) (fun i _ => l.length - (intOf i).toNat)
  case atStart => exact ⟨0, Nat.zero_le _, rfl, (show Hid _ from fun j hj => absurd hj (Nat.not_lt_zero j)), Below.refl _ _⟩
  case round =>
    obtain ⟨k, hk, rfl, HK, hb⟩ := hrel
    by_cases hlt : k < l.length
    · have hltz : (k : Int) < (l.length : Int) := by omega
      obtain ⟨b, off, rfl, hbB, hcell⟩ := hR.at_ (by omega)
      obtain ⟨b2, off2, rfl, hbB2, hcell2⟩ := hR'.at_ (by have := HLM.out; omega)
      obtain ⟨⟨x, y⟩, hxy⟩ : ∃ p, p = l.getD k (0, 0) := ⟨_, rfl⟩
      obtain ⟨⟨cx, cy⟩, hcxy⟩ : ∃ p, p = m.getD k (0, 0) := ⟨_, rfl⟩
      obtain ⟨a0, a1⟩ := hcell k hlt
      obtain ⟨e0, e1⟩ := hcell2 k (by have := HLM.out; omega)
      rw [← hxy] at a0 a1
      rw [← hcxy] at e0 e1
      simp only at a0 a1 e0 e1
      have k0 := Qt.cell_in (Qt.keep hb a0)
      have k1 := Qt.cell_in (Qt.keep hb a1)
      have k2 := Qt.cell_in (Qt.keep hb e0)
      have k3 := Qt.cell_in (Qt.keep hb e1)
      have HXY := Lib.hid hxy
      have HCXY := Lib.hid hcxy
      clear hxy hcxy hcell hcell2 a0 a1 e0 e1
      have hcase : (x = cx ∧ y = cy) ∨ (x = cx ∧ ¬ y = cy) ∨ ¬ x = cx := by
        by_cases h1 : x = cx <;> by_cases h2 : y = cy <;> simp [h1, h2]
      rcases hcase with ⟨rfl, rfl⟩ | ⟨rfl, hy⟩ | hx
      · go_wp2
        refine Qt.below_all (by kernel_rfl) (by kernel_rfl) ?_
        repeat (go_big_quiet_step (fail))
        refine wpQuiet_nil ?_
        intro w1 hb1
        clear k0 k1 k2 k3
        go_wp2
        go_roundw
        case measure => simp [intOf]; omega
        case rel =>
          refine ⟨k + 1, by omega, by go_num, (show Hid _ from fun j hj => ?_), Qt.more hb hb.size hb1⟩
          by_cases hjk : j = k
          · subst hjk; rw [← HXY.out, ← HCXY.out]
          · exact HK.out j (by omega)
      all_goals
        have hne : l ≠ m := by
          intro e
          subst e
          have := HXY.out.trans HCXY.out.symm
          simp at this
          omega
        have HNE := Lib.hid hne
        clear hne
        go_wp2
        refine Qt.below_all (by kernel_rfl) (by kernel_rfl) ?_
        repeat (go_big_quiet_step (fail))
        refine wpQuiet_nil ?_
        intro w1 hb1
        clear k0 k1 k2 k3
        go_wp2
        go_ret
        exact ⟨by rw [← HR.out, decide_eq_false HNE.out]; rfl, Qt.more hb hb.size hb1⟩
    · have hltz : ¬ (k : Int) < (l.length : Int) := by omega
      have he : l = m := eq_of_all HLM.out fun j hj => HK.out j (by omega)
      have HE := Lib.hid he
      clear he
      go_wp2
      go_ret
      exact ⟨by rw [← HR.out, decide_eq_true HE.out]; rfl, hb⟩

/-- .. of slices that read as lists, whatever their places. -/
theorem same_holds {A A' : Option Addr} {l m : List (Int × Int)} {c c' : Nat} {w : World} (hR : Rd w w.heap.size A l) (hR' : Rd w w.heap.size A' m) (hl : l.length ≤ 1000000) :
    Calls Try.prog 33 #[.slice A l.length c, .slice A' m.length c'] w fun e w' => e = .returned (.bool (decide (l = m))) ∧ Below w.heap.size w w' := by
  by_cases h : l.length = m.length
  · have := same_any A A' l m c c' w hR hR' hl h
    rwa [← h]
  · rw [decide_eq_false fun e => h (congrArg List.length e)]
    exact same_len A A' _ _ c c' w h

end Go.Proofs.Ytcmdhochofoohaa.Cel
