/-
  What the seat's texts ask of Go's library: nothing.
-/
import Derived.Test.YtocepdhjkhhpfaaProg
namespace Go.Proofs
end Go.Proofs
