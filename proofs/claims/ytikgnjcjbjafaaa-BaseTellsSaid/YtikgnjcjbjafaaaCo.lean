/-
  The law's own first calls, whose answers are fixed: they are as they should be.
-/
import Derived.Test.YtikgnjcjbjafaaaCn
import Derived.Test.YtikgnjcjbjafaaaB14
namespace Go.Proofs.Ytikgnjcjbjafaaa.Cel
open Go.RowKit Go.Sort

end Go.Proofs.Ytikgnjcjbjafaaa.Cel
