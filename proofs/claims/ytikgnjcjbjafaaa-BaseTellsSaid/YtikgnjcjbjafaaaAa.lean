/-
  The document's Live.
-/
import Derived.Test.YtikgnjcjbjafaaaB06
namespace Go.Proofs.Ytikgnjcjbjafaaa
set_option maxRecDepth 100000
set_option linter.unusedVariables false
set_option linter.unusedSimpArgs false
open Go.RowKit Go.Sort

/-- What is known in the loops over roots and flags. -/
structure FlAt (w wr : World) (A : Option Addr) (n c : Nat) (room : Int) (q : Nat) (f : Nat → Bool) : Prop where
  head : EmpHead w wr A n c room
  flg : RowV wr q 4 (boolsL n f)
  lo : w.heap.size + 2 ≤ q
section
variable {w wr w' : World} {A : Option Addr} {n c : Nat} {room : Int} {q : Nat} {f g : Nat → Bool}
theorem EmpHead.one (h : EmpHead w wr A n c room) {g i : Nat} (hg : w.heap.size + 2 ≤ g) (u : Value) : EmpHead w (wr.setCell ⟨g, i, none⟩ u) A n c room := by
  have hk : ∀ q, q < g → (wr.setCell ⟨g, i, none⟩ u).heap[q]? = wr.heap[q]? := fun q hq => Below.heap_setCell _ _ _ _ (by show q ≠ g; omega)
  exact ⟨(hk _ (by omega)).trans h.store, (hk _ (by omega)).trans h.res, h.bel.setCell (by show _ ≤ g; omega) _⟩
theorem FlAt.below (h : FlAt w wr A n c room q f) (hb : Below wr.heap.size wr w') : FlAt w w' A n c room q f := ⟨h.head.below hb, h.flg.now hb, h.lo⟩
theorem FlAt.set (h : FlAt w wr A n c room q f) (p : Nat) (hg : (fun x => f x || decide (x = p)) = g) : FlAt w (wr.setCell ⟨q, p, none⟩ (.bool true)) A n c room q g := by
  have hr := h.flg.set p (.bool true)
  rw [boolsL_set, hg] at hr
  exact ⟨h.head.one h.lo _, hr, h.lo⟩
end
theorem NdAt.kid {w : World} {b o : Nat} {x : Nd} (h : NdAt w b o x) {j : Nat} (hj : j < 4) : w.cell? ⟨b, o + 1 + j, none⟩ = some (.int .i64 (kd x.2.1 j)) := by
  obtain ⟨_, h1, h2, h3, h4, _⟩ := h
  rcases (by omega : j = 0 ∨ j = 1 ∨ j = 2 ∨ j = 3) with rfl | rfl | rfl | rfl
  · exact h1
  · exact h2
  · exact h3
  · exact h4
end Go.Proofs.Ytikgnjcjbjafaaa
