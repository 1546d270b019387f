/-
  The document's answer of layer 2: Lives, and how many neighbours a cell has.
-/
import Derived.Test.YtikgnjcjbjafaaaB15
import Derived.Test.YtikgnjcjbjafaaaB21
import Derived.Test.YtikgnjcjbjafaaaLc
namespace Go.Proofs.Ytikgnjcjbjafaaa.Cel
open Go.RowKit Go.Sort

theorem refLives_any (a : Bool) (n : Int) (w : World) : Calls Try.prog 81 #[.bool a, .int .i64 n] w fun e w' => e = .returned (.bool (livesB a n)) ∧ w = w' := by
  generalize hr : livesB a n = r
  have HR := Lib.hid hr
  clear hr
  go_enter Try.func81, Try.ntmps81
  go_wp2
  all_goals go_ret
  all_goals refine ⟨?_, rfl⟩
  all_goals (refine Qt.ret_bool ?_; rw [← HR.out]; simp_all [livesB])

end Go.Proofs.Ytikgnjcjbjafaaa.Cel
