/-
  Texts that the claims of this seat share, part 13.
-/
import Derived.Test.YtikgnjcjbjafaaaB12
set_option linter.unusedVariables false
set_option linter.unusedSimpArgs false
namespace Go.Proofs.Ytikgnjcjbjafaaa
set_option maxRecDepth 100000
set_option linter.unusedVariables false
set_option linter.unusedSimpArgs false
open Go.RowKit Go.Sort

/-- boxes in a row, the first of which are told -/
structure BxRow (w : World) (q N : Nat) (f : Nat → Bx) (j : Nat) : Prop where
  row : ∃ cs : Array Value, w.heap[q]? = some (.cells cs 47 (0, 0)) ∧ cs.size = N * 4 ∧ ∀ i, i < j → i < N → cs[i * 4]? = some (.int .i64 (f i).1) ∧ cs[i * 4 + 1]? = some (.int .i64 (f i).2.1) ∧ cs[i * 4 + 2]? = some (.int .i64 (f i).2.2.1) ∧ cs[i * 4 + 3]? = some (.int .i64 (f i).2.2.2)
section
variable {w w' : World} {q N : Nat} {f : Nat → Bx} {j : Nat}
theorem BxRow.below (h : BxRow w q N f j) (hb : Below w.heap.size w w') : BxRow w' q N f j := by
  obtain ⟨cs, h1, h2, h3⟩ := h.row
  exact ⟨cs, (hb.block _ (lt_heap6 h1)).trans h1, h2, h3⟩
theorem BxRow.at_ (h : BxRow w q N f j) {i : Nat} (hi : i < j) (hN : i < N) : w.cell? ⟨q, i * 4, none⟩ = some (.int .i64 (f i).1) ∧ w.cell? ⟨q, i * 4 + 1, none⟩ = some (.int .i64 (f i).2.1) ∧ w.cell? ⟨q, i * 4 + 2, none⟩ = some (.int .i64 (f i).2.2.1) ∧ w.cell? ⟨q, i * 4 + 3, none⟩ = some (.int .i64 (f i).2.2.2) := by
  obtain ⟨cs, h1, h2, h3⟩ := h.row
  obtain ⟨a, b, c, d⟩ := h3 i hi hN
  exact ⟨by rw [Lib.cell_of_heap h1]; exact a, by rw [Lib.cell_of_heap h1]; exact b, by rw [Lib.cell_of_heap h1]; exact c, by rw [Lib.cell_of_heap h1]; exact d⟩
theorem BxRow.free (h : BxRow w q N f j) (i : Nat) : w.frozen? ⟨q, i, none⟩ = false := by
  obtain ⟨cs, h1, h2, h3⟩ := h.row
  exact Lib.frozen_of_heap h1 i
theorem BxRow.next (h : BxRow w q N f j) (hN : j < N) : BxRow ((((w.setCell ⟨q, j * 4, none⟩ (.int .i64 (f j).1)).setCell ⟨q, j * 4 + 1, none⟩ (.int .i64 (f j).2.1)).setCell ⟨q, j * 4 + 2, none⟩ (.int .i64 (f j).2.2.1)).setCell ⟨q, j * 4 + 3, none⟩ (.int .i64 (f j).2.2.2)) q N f (j + 1) := by
  obtain ⟨cs, h1, h2, h3⟩ := h.row
  refine ⟨(((cs.setIfInBounds (j * 4) (.int .i64 (f j).1)).setIfInBounds (j * 4 + 1) (.int .i64 (f j).2.1)).setIfInBounds (j * 4 + 2) (.int .i64 (f j).2.2.1)).setIfInBounds (j * 4 + 3) (.int .i64 (f j).2.2.2), ?_, by simp [h2], fun i hi hiN => ?_⟩
  · simp [World.setCell, Array.getElem?_modify, h1]
  · rcases (by omega : i < j ∨ i = j) with h4 | rfl
    · obtain ⟨a, b, c, d⟩ := h3 i h4 hiN
      simp only [Array.getElem?_setIfInBounds]
      refine ⟨?_, ?_, ?_, ?_⟩
      · rw [if_neg (by omega), if_neg (by omega), if_neg (by omega), if_neg (by omega)]; exact a
      · rw [if_neg (by omega), if_neg (by omega), if_neg (by omega), if_neg (by omega)]; exact b
      · rw [if_neg (by omega), if_neg (by omega), if_neg (by omega), if_neg (by omega)]; exact c
      · rw [if_neg (by omega), if_neg (by omega), if_neg (by omega), if_neg (by omega)]; exact d
    · simp [Array.getElem?_setIfInBounds, h2]
      omega
end
end Go.Proofs.Ytikgnjcjbjafaaa
namespace Go.Proofs.Ytikgnjcjbjafaaa
set_option maxRecDepth 100000
set_option linter.unusedVariables false
set_option linter.unusedSimpArgs false
open Go.RowKit Go.Sort

/-- a box in a box -/
def BR (w : World) (b : Nat) (x : Bx) : Prop := w.heap[b]? = some (.cells #[.int .i64 x.1, .int .i64 x.2.1, .int .i64 x.2.2.1, .int .i64 x.2.2.2] 47 (0, 0))
section
variable {w w' : World} {b : Nat} {x : Bx}
theorem BR.below (h : BR w b x) (hb : Below w.heap.size w w') : BR w' b x := (hb.block _ (lt_heap6 h)).trans h
theorem BR.c (h : BR w b x) : w.cell? ⟨b, 0, none⟩ = some (.int .i64 x.1) ∧ w.cell? ⟨b, 1, none⟩ = some (.int .i64 x.2.1) ∧ w.cell? ⟨b, 2, none⟩ = some (.int .i64 x.2.2.1) ∧ w.cell? ⟨b, 3, none⟩ = some (.int .i64 x.2.2.2) := by
  refine ⟨?_, ?_, ?_, ?_⟩ <;> (rw [Lib.cell_of_heap h]; rfl)
theorem BR.f (h : BR w b x) (i : Nat) : w.frozen? ⟨b, i, none⟩ = false := Lib.frozen_of_heap h i
theorem BR.told (h : BR w b x) (y : Bx) : BR ((((w.setCell ⟨b, 0, none⟩ (.int .i64 y.1)).setCell ⟨b, 1, none⟩ (.int .i64 y.2.1)).setCell ⟨b, 2, none⟩ (.int .i64 y.2.2.1)).setCell ⟨b, 3, none⟩ (.int .i64 y.2.2.2)) b y := by
  unfold BR at h ⊢
  simp [World.setCell, Array.getElem?_modify, h]
end
/-- What is known in the loop over quarters. -/
structure AbAt (w wr : World) (lev : Int) (kk : Kd) (pp : Int) (o : Bx) : Prop where
  nd : NR wr w.heap.size lev kk pp
  res : BR wr (w.heap.size + 1) (0, 0, 0, 0)
  out : BR wr (w.heap.size + 1 + 1) o
  bel : Below w.heap.size w wr
section
variable {w wr w' : World} {lev : Int} {kk : Kd} {pp : Int} {o : Bx}
theorem AbAt.below (h : AbAt w wr lev kk pp o) (hb : Below wr.heap.size wr w') : AbAt w w' lev kk pp o := ⟨h.nd.below hb, h.res.below hb, h.out.below hb, Qt.more h.bel h.bel.size hb⟩
theorem set4_other {b i : Nat} (h : i ≠ b) (x y z u : Value) : ((((wr.setCell ⟨b, 0, none⟩ x).setCell ⟨b, 1, none⟩ y).setCell ⟨b, 2, none⟩ z).setCell ⟨b, 3, none⟩ u).heap[i]? = wr.heap[i]? := by
  rw [Below.heap_setCell _ _ _ _ (by show i ≠ b; exact h), Below.heap_setCell _ _ _ _ (by show i ≠ b; exact h), Below.heap_setCell _ _ _ _ (by show i ≠ b; exact h), Below.heap_setCell _ _ _ _ (by show i ≠ b; exact h)]
theorem AbAt.told (h : AbAt w wr lev kk pp o) (y : Bx) : AbAt w ((((wr.setCell ⟨w.heap.size + 1 + 1, 0, none⟩ (.int .i64 y.1)).setCell ⟨w.heap.size + 1 + 1, 1, none⟩ (.int .i64 y.2.1)).setCell ⟨w.heap.size + 1 + 1, 2, none⟩ (.int .i64 y.2.2.1)).setCell ⟨w.heap.size + 1 + 1, 3, none⟩ (.int .i64 y.2.2.2)) lev kk pp y := by
  have hle : w.heap.size ≤ w.heap.size + 1 + 1 := by omega
  refine ⟨?_, ?_, h.out.told y, (((h.bel.setCell hle _).setCell hle _).setCell hle _).setCell hle _⟩
  · have := h.nd; unfold NR at this ⊢; rw [set4_other (by omega)]; exact this
  · have := h.res; unfold BR at this ⊢; rw [set4_other (by omega)]; exact this
end
end Go.Proofs.Ytikgnjcjbjafaaa
namespace Go.Proofs.Ytikgnjcjbjafaaa
set_option maxRecDepth 100000
set_option linter.unusedVariables false
set_option linter.unusedSimpArgs false
open Go.RowKit Go.Sort

/-- the store and what is to be told -/
structure BbAt (w wr : World) (A : Option Addr) (n c : Nat) (room : Int) : Prop where
  st : StoreAt w wr A n c room
  res : BR wr (w.heap.size + 1) (0, 0, 0, 0)
section
variable {w wr w' : World} {A : Option Addr} {n c : Nat} {room : Int}
theorem BbAt.below (h : BbAt w wr A n c room) (hb : Below wr.heap.size wr w') : BbAt w w' A n c room := ⟨h.st.below7 hb, h.res.below hb⟩
end
end Go.Proofs.Ytikgnjcjbjafaaa
