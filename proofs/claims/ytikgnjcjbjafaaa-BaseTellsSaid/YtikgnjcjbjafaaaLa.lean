/-
  What the laws of layer 1 say of sets that raw numbers make, and of their box.
-/
import Derived.Test.YtikgnjcjbjafaaaCo
import Derived.Test.YtikgnjcjbjafaaaB14
namespace Go.Proofs.Ytikgnjcjbjafaaa.Cel
open Go.RowKit Go.Sort

/-! ### what the box is about -/
theorem Whole.far {w : World} {g T : Nat} {cs : Array Value} (h : Whole w g T cs) {p : Addr} (hp : g ≠ p.block) (u : Value) : Whole (w.setCell p u) g T cs := (Below.heap_setCell w p u g hp).trans h
end Go.Proofs.Ytikgnjcjbjafaaa.Cel
