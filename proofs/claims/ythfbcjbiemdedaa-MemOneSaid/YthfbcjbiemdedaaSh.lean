/-
  This seat calls nothing of the shelf.
-/
import Derived.Test.YthfbcjbiemdedaaProg
namespace Go.Proofs
end Go.Proofs
