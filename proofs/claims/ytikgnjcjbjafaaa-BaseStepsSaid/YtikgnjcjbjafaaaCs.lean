/-
  The library's Insert at places: one place more, in its place.
-/
import Derived.Test.YtikgnjcjbjafaaaB15
import Derived.Lib.AppendZerosOnto
import Derived.Laws.CopyRow
namespace Go.Proofs.Ytikgnjcjbjafaaa.Cel
open Go.RowKit Go.Sort

/-! ### copy of places -/
/-! ### append(s[:i], make(S, k)...) where there is no room -/
end Go.Proofs.Ytikgnjcjbjafaaa.Cel
