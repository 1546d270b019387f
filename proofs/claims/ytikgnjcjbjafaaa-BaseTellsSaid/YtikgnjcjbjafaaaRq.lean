/-
  The law NodeFull.
-/
import Derived.Test.YtikgnjcjbjafaaaB14
namespace Go.Proofs.Ytikgnjcjbjafaaa
set_option maxRecDepth 100000
set_option linter.unusedVariables false
set_option linter.unusedSimpArgs false
open Go.RowKit Go.Sort

/-- Four numbers in a box. -/
structure KdB (w : World) (b : Nat) (k : Kd) : Prop where
  row : w.heap[b]? = some (.cells #[.int .i64 k.1, .int .i64 k.2.1, .int .i64 k.2.2.1, .int .i64 k.2.2.2] 52 (0, 0))
section
variable {w w' : World} {b : Nat} {k : Kd}
theorem KdB.below (h : KdB w b k) (hb : Below w.heap.size w w') : KdB w' b k := ⟨(hb.block _ (lt_heap6 h.row)).trans h.row⟩
theorem KdB.c0 (h : KdB w b k) : w.cell? ⟨b, 0, none⟩ = some (.int .i64 k.1) := by rw [Lib.cell_of_heap h.row]; rfl
theorem KdB.c1 (h : KdB w b k) : w.cell? ⟨b, 1, none⟩ = some (.int .i64 k.2.1) := by rw [Lib.cell_of_heap h.row]; rfl
theorem KdB.c2 (h : KdB w b k) : w.cell? ⟨b, 2, none⟩ = some (.int .i64 k.2.2.1) := by rw [Lib.cell_of_heap h.row]; rfl
theorem KdB.c3 (h : KdB w b k) : w.cell? ⟨b, 3, none⟩ = some (.int .i64 k.2.2.2) := by rw [Lib.cell_of_heap h.row]; rfl
end
/-- Five numbers in a box. -/
structure RawB (w : World) (b : Nat) (r : Raw5) : Prop where
  row : w.heap[b]? = some (.cells #[.int .i64 r.1, .int .i64 r.2.1, .int .i64 r.2.2.1, .int .i64 r.2.2.2.1, .int .i64 r.2.2.2.2] 107 (0, 0))
section
variable {w w' : World} {b : Nat} {r : Raw5}
theorem RawB.below (h : RawB w b r) (hb : Below w.heap.size w w') : RawB w' b r := ⟨(hb.block _ (lt_heap6 h.row)).trans h.row⟩
theorem RawB.c0 (h : RawB w b r) : w.cell? ⟨b, 0, none⟩ = some (.int .i64 r.1) := by rw [Lib.cell_of_heap h.row]; rfl
theorem RawB.c1 (h : RawB w b r) : w.cell? ⟨b, 1, none⟩ = some (.int .i64 r.2.1) := by rw [Lib.cell_of_heap h.row]; rfl
theorem RawB.c2 (h : RawB w b r) : w.cell? ⟨b, 2, none⟩ = some (.int .i64 r.2.2.1) := by rw [Lib.cell_of_heap h.row]; rfl
theorem RawB.c3 (h : RawB w b r) : w.cell? ⟨b, 3, none⟩ = some (.int .i64 r.2.2.2.1) := by rw [Lib.cell_of_heap h.row]; rfl
theorem RawB.c4 (h : RawB w b r) : w.cell? ⟨b, 4, none⟩ = some (.int .i64 r.2.2.2.2) := by rw [Lib.cell_of_heap h.row]; rfl
end
end Go.Proofs.Ytikgnjcjbjafaaa
