/-
  The picks that the laws of layer 6 make of raw roots.
-/
import Derived.Test.YtikgnjcjbjafaaaB07
import Derived.Test.YtikgnjcjbjafaaaB06
namespace Go.Proofs.Ytikgnjcjbjafaaa
set_option linter.unusedVariables false
open Go.RowKit Go.Sort

end Go.Proofs.Ytikgnjcjbjafaaa
