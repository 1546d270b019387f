/-
  Texts that the claims of this seat share, part 31.
-/
import Derived.Test.YtklccoodfhejbaaB18
import Derived.Test.YtklccoodfhejbaaB16
import Derived.Test.YtklccoodfhejbaaB24
import Derived.Test.YtklccoodfhejbaaB27
import Derived.Test.YtklccoodfhejbaaB22
import Derived.Test.YtklccoodfhejbaaB29
import Derived.Test.YtklccoodfhejbaaB10
set_option linter.unusedVariables false
set_option linter.unusedSimpArgs false
namespace Go.Proofs.Ytklccoodfhejbaa
set_option maxRecDepth 100000
set_option linter.unusedVariables false
set_option linter.unusedSimpArgs false
open Go.RowKit Go.Sort

theorem NineAt.corner {room : Int} {l a : List Nd} {e n : Nat} {p : Nat → Nat} (h : NineAt room l e n 9 a p) (hr : Right6 l room) (hn : Is l (e + 2) n) {k : Nat} (hk : k < 4) : p (k / 2 * 6 + k % 2 * 2) = kidN l n k := by
  have h1 := h.kids (k / 2 * 6 + k % 2 * 2) (by omega)
  rw [show (k / 2 * 6 + k % 2 * 2) / 3 = k / 2 * 2 by omega, show (k / 2 * 6 + k % 2 * 2) % 3 = k % 2 * 2 by omega] at h1
  have h2 := h.grows.at_ (corner_at hr hn hk)
  rw [h1] at h2
  exact Option.some.inj h2
/-- A node's cells, its kids by name. -/
theorem NdAt.kids {w : World} {b o : Nat} {x : Nd} (h : NdAt w b o x) {k : Kd} (hk : x.2.1 = k) : w.cell? ⟨b, o + 1, none⟩ = some (.int .i64 k.1) ∧ w.cell? ⟨b, o + 2, none⟩ = some (.int .i64 k.2.1) ∧ w.cell? ⟨b, o + 3, none⟩ = some (.int .i64 k.2.2.1) ∧ w.cell? ⟨b, o + 4, none⟩ = some (.int .i64 k.2.2.2) := by
  subst hk
  obtain ⟨_, h1, h2, h3, h4, _⟩ := h
  exact ⟨h1, h2, h3, h4⟩
/-- four numbers in a box -/
def K4B (w : World) (b : Nat) (x y u v : Int) : Prop := w.heap[b]? = some (.cells #[.int .i64 x, .int .i64 y, .int .i64 u, .int .i64 v] 33 (0, 0))
theorem K4B.below {w w' : World} {b : Nat} {x y u v : Int} (h : K4B w b x y u v) (hb : Below w.heap.size w w') : K4B w' b x y u v := (hb.block _ (lt_heap6 h)).trans h
theorem K4B.s0 {w : World} {b : Nat} {x y u v : Int} (h : K4B w b x y u v) : w.cell? ⟨b, 0, none⟩ = some (.int .i64 x) := by rw [Lib.cell_of_heap h]; rfl
theorem K4B.s1 {w : World} {b : Nat} {x y u v : Int} (h : K4B w b x y u v) : w.cell? ⟨b, 1, none⟩ = some (.int .i64 y) := by rw [Lib.cell_of_heap h]; rfl
theorem K4B.s2 {w : World} {b : Nat} {x y u v : Int} (h : K4B w b x y u v) : w.cell? ⟨b, 2, none⟩ = some (.int .i64 u) := by rw [Lib.cell_of_heap h]; rfl
theorem K4B.s3 {w : World} {b : Nat} {x y u v : Int} (h : K4B w b x y u v) : w.cell? ⟨b, 3, none⟩ = some (.int .i64 v) := by rw [Lib.cell_of_heap h]; rfl
theorem StB.node {W : World} {b : Nat} {q o : Nat} {l : List Nd} {c : Nat} {room : Int} (h : StB W b (some ⟨q, o, none⟩) l c room) {j : Nat} (hj : j < l.length) : NdAt W q (o + j * 6) (l.getD j deadN) := by
  obtain ⟨b', o', e, _, hn⟩ := h.rd j hj
  injection e with e
  injection e with e1 e2
  subst e1 e2
  exact hn
end Go.Proofs.Ytklccoodfhejbaa
