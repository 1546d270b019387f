/-
  With: a set with a cell.
-/
import Derived.Test.YtikgnjcjbjafaaaB15
import Derived.Test.YtikgnjcjbjafaaaCs
namespace Go.Proofs.Ytikgnjcjbjafaaa.Cel
open Go.RowKit Go.Sort

/-- .. what comes out of it, as a list at a place of its own -/
def Fresh (w : World) (l : List (Int × Int)) (e : Ending) (w' : World) : Prop :=
  ∃ g, e = .returned (.tuple #[.slice (some ⟨g, 0, none⟩) l.length l.length, .int .i64 0]) ∧ Row w' w.heap.size 32 g l.length l.length l ∧ Below w.heap.size w w'

end Go.Proofs.Ytikgnjcjbjafaaa.Cel
