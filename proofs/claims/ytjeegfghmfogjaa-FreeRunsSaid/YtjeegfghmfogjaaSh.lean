/-
  What the seat's texts ask of Go's library: nothing.
-/
import Derived.Test.YtjeegfghmfogjaaProg
namespace Go.Proofs
end Go.Proofs
