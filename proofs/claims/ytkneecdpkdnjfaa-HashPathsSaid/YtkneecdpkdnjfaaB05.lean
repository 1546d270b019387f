/-
  Texts that the claims of this seat share, part 5.
-/
import Derived.Test.YtkneecdpkdnjfaaB03
set_option linter.unusedVariables false
set_option linter.unusedSimpArgs false
namespace Go.Proofs.Ytkneecdpkdnjfaa
set_option maxRecDepth 100000
set_option linter.unusedVariables false
set_option linter.unusedSimpArgs false
open Go.RowKit Go.Sort

theorem own_mono {w : World} {B B' : Nat} {v : Value} {l : List Int} (h : Own w B v l) (hb : B' ≤ B) : Own w B' v l := by
  refine ⟨h.1, ?_⟩
  rcases h.2 with h2 | ⟨g, cap, cur, h3, h4, h5⟩
  · exact .inl h2
  · exact .inr ⟨g, cap, cur, h3, by omega, h5⟩
/-- a copy of a slice of numbers, by append to nothing -/
theorem copy_run (A : Option Addr) (l : List Int) (c : Nat) (w : World) (hR : Now w A l) (hl : l.length ≤ 17592186044416) :
    ∃ v w', (Builtin.append_ #[25, 25] 25 #[.slice none 0 0, .slice A l.length c]).run Try.prog w = .ok v w' ∧ Own w' w.heap.size v l ∧ Below w.heap.size w w' := by
  obtain ⟨v', w', hr, h1, h2⟩ := appW_any (out := []) c (Nat.le_refl _) (World.ownsRow_nil w w.heap.size 3 1) hR (by simpa using hl)
  exact ⟨v', w', hr, h1, (Below.refl _ w).grown h2 (Nat.le_refl _) (fun k e => by simp [Value.ownBlock] at e)⟩
/-- what the document's Do answers: words of its own -/
def DoOwn (d : DoT) (w : World) (r : Ending) (w' : World) : Prop := ∃ A c, r = .returned (.tuple #[.slice A d.1.length c, .int .i64 d.2.1, .bool d.2.2.1, .int .i64 d.2.2.2]) ∧ Own w' w.heap.size (.slice A d.1.length c) d.1 ∧ Below w.heap.size w w'
theorem round_cases {x n : Int} (hn : I64 n) (hx : I64 x) :
    (0 < n ∧ wrap64 (x + n) < x ∧ mayW (x + n) = false) ∨ (¬ 0 < n ∧ n < 0 ∧ x < wrap64 (x + n) ∧ mayW (x + n) = false) ∨
      (wrap64 (x + n) = x + n ∧ (0 < n → ¬ wrap64 (x + n) < x) ∧ (n < 0 → ¬ x < wrap64 (x + n))) := by
  unfold I64 at hn hx
  have hs : wrap64 (x + n) = x + n ∨ (0 < n ∧ wrap64 (x + n) = x + n - 18446744073709551616 ∧ 9223372036854775807 < x + n) ∨ (n < 0 ∧ wrap64 (x + n) = x + n + 18446744073709551616 ∧ x + n < -9223372036854775808) := by
    unfold wrap64; omega
  rcases hs with hs | ⟨h1, h2, h⟩ | ⟨h1, h2, h⟩
  · exact .inr (.inr ⟨hs, by omega, by omega⟩)
  · exact .inl ⟨h1, by omega, by unfold mayW; rw [decide_eq_false (p := x + n ≤ 1152921504606846975) (by omega), Bool.and_false]⟩
  · exact .inr (.inl ⟨by omega, h1, by omega, by unfold mayW; rw [decide_eq_false (p := -1152921504606846975 ≤ x + n) (by omega), Bool.false_and]⟩)
end Go.Proofs.Ytkneecdpkdnjfaa
