/-
  Texts that the claims of this seat share, part 15.
-/
import Derived.Test.YtklccoodfhejbaaB12
import Derived.Test.YtklccoodfhejbaaB06
set_option linter.unusedVariables false
set_option linter.unusedSimpArgs false
namespace Go.Proofs.Ytklccoodfhejbaa
set_option maxRecDepth 100000
set_option linter.unusedVariables false
set_option linter.unusedSimpArgs false
open Go.RowKit Go.Sort

theorem load16_quiet (W : World) (pb : Nat) (v : Nat → Int) (h : S16 W pb v) (ev : Operand → Value) (o : Oper) (x : Operand) (ho : o.op = Op.load 119 x) (hx : ev x = .pointer (some ⟨pb, 0, none⟩)) : Oper.quietUpon Try.prog (fun w' => w' = W) W (.agg (row16 v)) ((execOp ev o).run Try.prog W) := by
  have q0 := h.c (p := 0) (by decide)
  have q1 := h.c (p := 1) (by decide)
  have q2 := h.c (p := 2) (by decide)
  have q3 := h.c (p := 3) (by decide)
  have q4 := h.c (p := 4) (by decide)
  have q5 := h.c (p := 5) (by decide)
  have q6 := h.c (p := 6) (by decide)
  have q7 := h.c (p := 7) (by decide)
  have q8 := h.c (p := 8) (by decide)
  have q9 := h.c (p := 9) (by decide)
  have q10 := h.c (p := 10) (by decide)
  have q11 := h.c (p := 11) (by decide)
  have q12 := h.c (p := 12) (by decide)
  have q13 := h.c (p := 13) (by decide)
  have q14 := h.c (p := 14) (by decide)
  have q15 := h.c (p := 15) (by decide)
  simp only [execOp, ho, hx]
  go_simp
  done
end Go.Proofs.Ytklccoodfhejbaa
