/-
  Helpers that several laws of layer 1 share: sets with a cell taken out, sets of raw numbers, a fresh slice now.
-/
import Derived.Test.YtikgnjcjbjafaaaLc
import Derived.Test.YtikgnjcjbjafaaaB15
import Derived.Test.YtikgnjcjbjafaaaCu
import Derived.Test.YtikgnjcjbjafaaaB01
namespace Go.Proofs.Ytikgnjcjbjafaaa.Cel
open Go.RowKit Go.Sort

theorem Fresh.now {w w' : World} {l : List (Int × Int)} {e : Ending} (h : Fresh w l e w') : ∃ g, e = .returned (.tuple #[.slice (some ⟨g, 0, none⟩) l.length l.length, .int .i64 0]) ∧ Hid (Now w' (some ⟨g, 0, none⟩) l) ∧ Below w.heap.size w w' := by
  obtain ⟨g, he, hr, hb⟩ := h
  exact ⟨g, he, hr.rd, hb⟩

end Go.Proofs.Ytikgnjcjbjafaaa.Cel
