/-
  MemOne's walk.
-/
import Derived.Test.YthfbcjbiemdedaaAka
import Derived.Test.YthfbcjbiemdedaaAkb
namespace Go.Proofs.Ythfbcjbiemdedaa
set_option maxRecDepth 100000
set_option linter.unusedVariables false
set_option linter.unusedSimpArgs false
open Go.RowKit Go.Sort
theorem memOne_law (A : Option Addr) (any : List Int) (c : Nat) (AR : Option Addr) (raw : List Ac) (cR : Nat) (w : World) (hR : Now w A any) (hl : any.length ≤ 9223372036854775807) (hw : ∀ j, j < any.length → I64 (any.getD j 0))
    (hRR : NowA w AR raw) (hlR : raw.length ≤ 9223372036854775807) (hcR : raw.length ≤ cR) (hwR : ∀ j, j < raw.length → Fine4A (raw.getD j deadA)) :
    Calls Try.prog 4 #[.slice A any.length c, .slice AR raw.length cR] w fun e w' => e = .returned (.bool true) ∧ Below w.heap.size w w' := by
  by_cases h : any.length ≤ 20
  · exact memOne_a A any c AR raw cR w h hR hl hw hRR hlR hcR hwR
  · exact memOne_b A any c AR raw cR w (by omega) hR hl hw hRR hlR hcR hwR
end Go.Proofs.Ythfbcjbiemdedaa
