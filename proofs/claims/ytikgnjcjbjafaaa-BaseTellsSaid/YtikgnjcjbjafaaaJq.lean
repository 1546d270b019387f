/-
  What BaseTwice is about: asked again, the same nodes are told.
-/
import Derived.Test.YtikgnjcjbjafaaaJp
import Derived.Test.YtikgnjcjbjafaaaKe
namespace Go.Proofs.Ytikgnjcjbjafaaa
set_option maxRecDepth 100000
set_option linter.unusedVariables false
set_option linter.unusedSimpArgs false
open Go.RowKit Go.Sort

end Go.Proofs.Ytikgnjcjbjafaaa
