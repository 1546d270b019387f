/-
  No cell of these rows narrows 'for every input' (looked for: loops, veiled, ifaces, maps, wideKeys, modest, calm, conditions, laid).
  DERIVED. THE GIVEN ROWS OF THIS SEAT. 10 by the template 'for every input the law returns true; each argument reads behind the call as it read before'; 0 by the template 'total and deterministic' (their statements: YtikgnjcjbjafaaaTotals.lean).
  GIVEN WITH THE SEED: the statements are not yours to turn. If you find one false, say at which input.
  Laid BY PROGRAM, IN A SANDBOX (cutbox-rows.mjs): the forced cells as the released guide's own fill.sh prints them over the translation e787e2adc5705208… (all of the seat's roots in one cut). By AI agents, Wed Nov 11 2026. No macro, syntax, notation, axiom, sorry.
-/
import Derived.Test.YtikgnjcjbjafaaaChecked
import GoSem.Claim
import GoSem.ClaimJoined
import GoSem.ClaimMapViews
import Derived.JoinedTies
import Derived.KernelRfl
namespace Go.Proofs.Ytikgnjcjbjafaaa
/- THE CELL 'sum', in the pinned program and in every row, IS THE sha256 OF THE DUMP (.gsa) THAT YtikgnjcjbjafaaaProg.lean LOADS. Nothing in Lean hashes anything: it is a label: what it is worth is what the hold of that sum in a sandbox is worth. -/
noncomputable def Try.pinned : Pinned := { name := "ytikgnjcjbjafaaa", sum := "e787e2adc570520893fe1c4e612b98225e64531e1bcdb571215ad711af67e262", checked := Try.checked }
namespace Rows
def none {H : Type} : Left H := { results := [], args := [] }

/-- 'gosperlaw07.SquareSets': WHATEVER THE INPUT: true; the input reads as it did. -/
def squareSetsSpec : ChangeSpec := { name := "squareSets", fn := fun _ => fun
  | [d1, d2, d3, d4, d5, d6, d7] => { results := [.lit (.bool true)], args := [d1, d2, d3, d4, d5, d6, d7] }
  | _ => none }
def squareSetsRow : OpenClaim := { program := "ytikgnjcjbjafaaa", sum := "e787e2adc570520893fe1c4e612b98225e64531e1bcdb571215ad711af67e262", func := "gosper/gosperlaw07.SquareSets", spec := "squareSets", unfollowed := true, recurses := true, plainKeys := false, apart := false }
def SquareSetsSaid : Prop := squareSetsRow.holds Try.pinned (OpenSpec.ofChange squareSetsSpec)

/-- ITS FALSE NEIGHBOUR: 'it returns false'. Refute it at one input. -/
def squareSetsWrong : ChangeSpec := { name := "squareSets", fn := fun _ => fun
  | [d1, d2, d3, d4, d5, d6, d7] => { results := [.lit (.bool false)], args := [d1, d2, d3, d4, d5, d6, d7] }
  | _ => none }
def SquareSetsWrongFalsely : Prop := squareSetsRow.holds Try.pinned (OpenSpec.ofChange squareSetsWrong)

/-- 'gosperlaw07.SquareGrows': WHATEVER THE INPUT: true; the input reads as it did. -/
def squareGrowsSpec : ChangeSpec := { name := "squareGrows", fn := fun _ => fun
  | [d1, d2, d3, d4, d5] => { results := [.lit (.bool true)], args := [d1, d2, d3, d4, d5] }
  | _ => none }
def squareGrowsRow : OpenClaim := { program := "ytikgnjcjbjafaaa", sum := "e787e2adc570520893fe1c4e612b98225e64531e1bcdb571215ad711af67e262", func := "gosper/gosperlaw07.SquareGrows", spec := "squareGrows", unfollowed := true, recurses := true, plainKeys := false, apart := false }
def SquareGrowsSaid : Prop := squareGrowsRow.holds Try.pinned (OpenSpec.ofChange squareGrowsSpec)

/-- ITS FALSE NEIGHBOUR: 'it returns false'. Refute it at one input. -/
def squareGrowsWrong : ChangeSpec := { name := "squareGrows", fn := fun _ => fun
  | [d1, d2, d3, d4, d5] => { results := [.lit (.bool false)], args := [d1, d2, d3, d4, d5] }
  | _ => none }
def SquareGrowsWrongFalsely : Prop := squareGrowsRow.holds Try.pinned (OpenSpec.ofChange squareGrowsWrong)

/-- 'gosperlaw07.SquareOut': WHATEVER THE INPUT: true; the input reads as it did. -/
def squareOutSpec : ChangeSpec := { name := "squareOut", fn := fun _ => fun
  | [d1, d2, d3, d4, d5, d6] => { results := [.lit (.bool true)], args := [d1, d2, d3, d4, d5, d6] }
  | _ => none }
def squareOutRow : OpenClaim := { program := "ytikgnjcjbjafaaa", sum := "e787e2adc570520893fe1c4e612b98225e64531e1bcdb571215ad711af67e262", func := "gosper/gosperlaw07.SquareOut", spec := "squareOut", unfollowed := true, recurses := true, plainKeys := false, apart := false }
def SquareOutSaid : Prop := squareOutRow.holds Try.pinned (OpenSpec.ofChange squareOutSpec)

/-- ITS FALSE NEIGHBOUR: 'it returns false'. Refute it at one input. -/
def squareOutWrong : ChangeSpec := { name := "squareOut", fn := fun _ => fun
  | [d1, d2, d3, d4, d5, d6] => { results := [.lit (.bool false)], args := [d1, d2, d3, d4, d5, d6] }
  | _ => none }
def SquareOutWrongFalsely : Prop := squareOutRow.holds Try.pinned (OpenSpec.ofChange squareOutWrong)

/-- 'gosperlaw07.SquarePops': WHATEVER THE INPUT: true; the input reads as it did. -/
def squarePopsSpec : ChangeSpec := { name := "squarePops", fn := fun _ => fun
  | [d1, d2, d3, d4] => { results := [.lit (.bool true)], args := [d1, d2, d3, d4] }
  | _ => none }
def squarePopsRow : OpenClaim := { program := "ytikgnjcjbjafaaa", sum := "e787e2adc570520893fe1c4e612b98225e64531e1bcdb571215ad711af67e262", func := "gosper/gosperlaw07.SquarePops", spec := "squarePops", unfollowed := true, recurses := true, plainKeys := false, apart := false }
def SquarePopsSaid : Prop := squarePopsRow.holds Try.pinned (OpenSpec.ofChange squarePopsSpec)

/-- ITS FALSE NEIGHBOUR: 'it returns false'. Refute it at one input. -/
def squarePopsWrong : ChangeSpec := { name := "squarePops", fn := fun _ => fun
  | [d1, d2, d3, d4] => { results := [.lit (.bool false)], args := [d1, d2, d3, d4] }
  | _ => none }
def SquarePopsWrongFalsely : Prop := squarePopsRow.holds Try.pinned (OpenSpec.ofChange squarePopsWrong)

/-- 'gosperlaw08.BaseTells': WHATEVER THE INPUT: true; the input reads as it did. -/
def baseTellsSpec : ChangeSpec := { name := "baseTells", fn := fun _ => fun
  | [d1, d2, d3, d4, d5, d6] => { results := [.lit (.bool true)], args := [d1, d2, d3, d4, d5, d6] }
  | _ => none }
def baseTellsRow : OpenClaim := { program := "ytikgnjcjbjafaaa", sum := "e787e2adc570520893fe1c4e612b98225e64531e1bcdb571215ad711af67e262", func := "gosper/gosperlaw08.BaseTells", spec := "baseTells", unfollowed := true, recurses := true, plainKeys := false, apart := false }
def BaseTellsSaid : Prop := baseTellsRow.holds Try.pinned (OpenSpec.ofChange baseTellsSpec)

/-- ITS FALSE NEIGHBOUR: 'it returns false'. Refute it at one input. -/
def baseTellsWrong : ChangeSpec := { name := "baseTells", fn := fun _ => fun
  | [d1, d2, d3, d4, d5, d6] => { results := [.lit (.bool false)], args := [d1, d2, d3, d4, d5, d6] }
  | _ => none }
def BaseTellsWrongFalsely : Prop := baseTellsRow.holds Try.pinned (OpenSpec.ofChange baseTellsWrong)

/-- 'gosperlaw08.BaseStands': WHATEVER THE INPUT: true; the input reads as it did. -/
def baseStandsSpec : ChangeSpec := { name := "baseStands", fn := fun _ => fun
  | [d1, d2, d3, d4] => { results := [.lit (.bool true)], args := [d1, d2, d3, d4] }
  | _ => none }
def baseStandsRow : OpenClaim := { program := "ytikgnjcjbjafaaa", sum := "e787e2adc570520893fe1c4e612b98225e64531e1bcdb571215ad711af67e262", func := "gosper/gosperlaw08.BaseStands", spec := "baseStands", unfollowed := true, recurses := true, plainKeys := false, apart := false }
def BaseStandsSaid : Prop := baseStandsRow.holds Try.pinned (OpenSpec.ofChange baseStandsSpec)

/-- ITS FALSE NEIGHBOUR: 'it returns false'. Refute it at one input. -/
def baseStandsWrong : ChangeSpec := { name := "baseStands", fn := fun _ => fun
  | [d1, d2, d3, d4] => { results := [.lit (.bool false)], args := [d1, d2, d3, d4] }
  | _ => none }
def BaseStandsWrongFalsely : Prop := baseStandsRow.holds Try.pinned (OpenSpec.ofChange baseStandsWrong)

/-- 'gosperlaw08.BaseSteps': WHATEVER THE INPUT: true; the input reads as it did. -/
def baseStepsSpec : ChangeSpec := { name := "baseSteps", fn := fun _ => fun
  | [d1, d2, d3, d4] => { results := [.lit (.bool true)], args := [d1, d2, d3, d4] }
  | _ => none }
def baseStepsRow : OpenClaim := { program := "ytikgnjcjbjafaaa", sum := "e787e2adc570520893fe1c4e612b98225e64531e1bcdb571215ad711af67e262", func := "gosper/gosperlaw08.BaseSteps", spec := "baseSteps", unfollowed := true, recurses := true, plainKeys := false, apart := false }
def BaseStepsSaid : Prop := baseStepsRow.holds Try.pinned (OpenSpec.ofChange baseStepsSpec)

/-- ITS FALSE NEIGHBOUR: 'it returns false'. Refute it at one input. -/
def baseStepsWrong : ChangeSpec := { name := "baseSteps", fn := fun _ => fun
  | [d1, d2, d3, d4] => { results := [.lit (.bool false)], args := [d1, d2, d3, d4] }
  | _ => none }
def BaseStepsWrongFalsely : Prop := baseStepsRow.holds Try.pinned (OpenSpec.ofChange baseStepsWrong)

/-- 'gosperlaw08.BaseNine': WHATEVER THE INPUT: true; the input reads as it did. -/
def baseNineSpec : ChangeSpec := { name := "baseNine", fn := fun _ => fun
  | [d1, d2, d3, d4] => { results := [.lit (.bool true)], args := [d1, d2, d3, d4] }
  | _ => none }
def baseNineRow : OpenClaim := { program := "ytikgnjcjbjafaaa", sum := "e787e2adc570520893fe1c4e612b98225e64531e1bcdb571215ad711af67e262", func := "gosper/gosperlaw08.BaseNine", spec := "baseNine", unfollowed := true, recurses := true, plainKeys := false, apart := false }
def BaseNineSaid : Prop := baseNineRow.holds Try.pinned (OpenSpec.ofChange baseNineSpec)

/-- ITS FALSE NEIGHBOUR: 'it returns false'. Refute it at one input. -/
def baseNineWrong : ChangeSpec := { name := "baseNine", fn := fun _ => fun
  | [d1, d2, d3, d4] => { results := [.lit (.bool false)], args := [d1, d2, d3, d4] }
  | _ => none }
def BaseNineWrongFalsely : Prop := baseNineRow.holds Try.pinned (OpenSpec.ofChange baseNineWrong)

/-- 'gosperlaw08.BaseTwice': WHATEVER THE INPUT: true; the input reads as it did. -/
def baseTwiceSpec : ChangeSpec := { name := "baseTwice", fn := fun _ => fun
  | [d1, d2, d3, d4, d5] => { results := [.lit (.bool true)], args := [d1, d2, d3, d4, d5] }
  | _ => none }
def baseTwiceRow : OpenClaim := { program := "ytikgnjcjbjafaaa", sum := "e787e2adc570520893fe1c4e612b98225e64531e1bcdb571215ad711af67e262", func := "gosper/gosperlaw08.BaseTwice", spec := "baseTwice", unfollowed := true, recurses := true, plainKeys := false, apart := false }
def BaseTwiceSaid : Prop := baseTwiceRow.holds Try.pinned (OpenSpec.ofChange baseTwiceSpec)

/-- ITS FALSE NEIGHBOUR: 'it returns false'. Refute it at one input. -/
def baseTwiceWrong : ChangeSpec := { name := "baseTwice", fn := fun _ => fun
  | [d1, d2, d3, d4, d5] => { results := [.lit (.bool false)], args := [d1, d2, d3, d4, d5] }
  | _ => none }
def BaseTwiceWrongFalsely : Prop := baseTwiceRow.holds Try.pinned (OpenSpec.ofChange baseTwiceWrong)

/-- 'gosperlaw08.BaseTurned': WHATEVER THE INPUT: true; the input reads as it did. -/
def baseTurnedSpec : ChangeSpec := { name := "baseTurned", fn := fun _ => fun
  | [d] => { results := [.lit (.bool true)], args := [d] }
  | _ => none }
def baseTurnedRow : OpenClaim := { program := "ytikgnjcjbjafaaa", sum := "e787e2adc570520893fe1c4e612b98225e64531e1bcdb571215ad711af67e262", func := "gosper/gosperlaw08.BaseTurned", spec := "baseTurned", unfollowed := true, recurses := true, plainKeys := false, apart := false }
def BaseTurnedSaid : Prop := baseTurnedRow.holds Try.pinned (OpenSpec.ofChange baseTurnedSpec)

/-- ITS FALSE NEIGHBOUR: 'it returns false'. Refute it at one input. -/
def baseTurnedWrong : ChangeSpec := { name := "baseTurned", fn := fun _ => fun
  | [d] => { results := [.lit (.bool false)], args := [d] }
  | _ => none }
def BaseTurnedWrongFalsely : Prop := baseTurnedRow.holds Try.pinned (OpenSpec.ofChange baseTurnedWrong)

/- THE SECOND FORM. 'bulk': how many values and letters a reading holds, each counted each time it is reached (what is shared counts as often as it is met; a slice's spare places count too). A statement '..UptoSaid' is the law's where the arguments, and the package variables that the reading takes, are together of bulk at most 1048576: NARROWER than '..Said'. Prove '..Said' where nothing that the law and all that it calls make is longer than what came in: it says more and counts as full. Else prove '..UptoSaid'. A law counts once. -/
mutual
def uptoBulk {H : Type} : DataW H → Nat
  | .lit (.string bytes) => bytes.length + 1
  | .lit _ => 1
  | .nil => 1
  | .ptr d => uptoBulk d + 1
  | .slice elems spare => uptoBulkAll elems + uptoBulkAll spare + 1
  | .agg parts => uptoBulkAll parts + 1
  | .iface _ d => uptoBulk d + 1
  | .map entries => uptoBulkEntries entries + 1
  | .held _ => 1
def uptoBulkAll {H : Type} : List (DataW H) → Nat
  | [] => 0
  | d :: r => uptoBulk d + uptoBulkAll r
def uptoBulkEntries {H : Type} : List (Lit × DataW H) → Nat
  | [] => 0
  | x :: r => uptoBulkEntry x + uptoBulkEntries r
def uptoBulkEntry {H : Type} : Lit × DataW H → Nat
  | (.string bytes, d) => bytes.length + uptoBulk d + 1
  | (_, d) => uptoBulk d + 1
 end
def uptoSmall : (H : Type) → List (DataW H) → Bool := fun _ ds => decide (uptoBulkAll ds ≤ 1048576)
def OpenSpec.upto (s : _root_.Go.ChangeSpec) : _root_.Go.OpenSpec := { _root_.Go.OpenSpec.ofChange s with cond := some uptoSmall }

/-- 'gosperlaw07.SquareSets', WHERE WHAT IT READS IS OF BULK AT MOST 1048576: true; the input reads as it did. -/
def squareSetsUptoRow : OpenClaim := { program := "ytikgnjcjbjafaaa", sum := "e787e2adc570520893fe1c4e612b98225e64531e1bcdb571215ad711af67e262", func := "gosper/gosperlaw07.SquareSets", spec := "squareSets", unfollowed := true, recurses := true, plainKeys := false, apart := false, narrowed := true }
def SquareSetsUptoSaid : Prop := squareSetsUptoRow.holds Try.pinned (OpenSpec.upto squareSetsSpec)

/-- 'gosperlaw07.SquareGrows', WHERE WHAT IT READS IS OF BULK AT MOST 1048576: true; the input reads as it did. -/
def squareGrowsUptoRow : OpenClaim := { program := "ytikgnjcjbjafaaa", sum := "e787e2adc570520893fe1c4e612b98225e64531e1bcdb571215ad711af67e262", func := "gosper/gosperlaw07.SquareGrows", spec := "squareGrows", unfollowed := true, recurses := true, plainKeys := false, apart := false, narrowed := true }
def SquareGrowsUptoSaid : Prop := squareGrowsUptoRow.holds Try.pinned (OpenSpec.upto squareGrowsSpec)

/-- 'gosperlaw07.SquareOut', WHERE WHAT IT READS IS OF BULK AT MOST 1048576: true; the input reads as it did. -/
def squareOutUptoRow : OpenClaim := { program := "ytikgnjcjbjafaaa", sum := "e787e2adc570520893fe1c4e612b98225e64531e1bcdb571215ad711af67e262", func := "gosper/gosperlaw07.SquareOut", spec := "squareOut", unfollowed := true, recurses := true, plainKeys := false, apart := false, narrowed := true }
def SquareOutUptoSaid : Prop := squareOutUptoRow.holds Try.pinned (OpenSpec.upto squareOutSpec)

/-- 'gosperlaw07.SquarePops', WHERE WHAT IT READS IS OF BULK AT MOST 1048576: true; the input reads as it did. -/
def squarePopsUptoRow : OpenClaim := { program := "ytikgnjcjbjafaaa", sum := "e787e2adc570520893fe1c4e612b98225e64531e1bcdb571215ad711af67e262", func := "gosper/gosperlaw07.SquarePops", spec := "squarePops", unfollowed := true, recurses := true, plainKeys := false, apart := false, narrowed := true }
def SquarePopsUptoSaid : Prop := squarePopsUptoRow.holds Try.pinned (OpenSpec.upto squarePopsSpec)

/-- 'gosperlaw08.BaseTells', WHERE WHAT IT READS IS OF BULK AT MOST 1048576: true; the input reads as it did. -/
def baseTellsUptoRow : OpenClaim := { program := "ytikgnjcjbjafaaa", sum := "e787e2adc570520893fe1c4e612b98225e64531e1bcdb571215ad711af67e262", func := "gosper/gosperlaw08.BaseTells", spec := "baseTells", unfollowed := true, recurses := true, plainKeys := false, apart := false, narrowed := true }
def BaseTellsUptoSaid : Prop := baseTellsUptoRow.holds Try.pinned (OpenSpec.upto baseTellsSpec)

/-- 'gosperlaw08.BaseStands', WHERE WHAT IT READS IS OF BULK AT MOST 1048576: true; the input reads as it did. -/
def baseStandsUptoRow : OpenClaim := { program := "ytikgnjcjbjafaaa", sum := "e787e2adc570520893fe1c4e612b98225e64531e1bcdb571215ad711af67e262", func := "gosper/gosperlaw08.BaseStands", spec := "baseStands", unfollowed := true, recurses := true, plainKeys := false, apart := false, narrowed := true }
def BaseStandsUptoSaid : Prop := baseStandsUptoRow.holds Try.pinned (OpenSpec.upto baseStandsSpec)

/-- 'gosperlaw08.BaseSteps', WHERE WHAT IT READS IS OF BULK AT MOST 1048576: true; the input reads as it did. -/
def baseStepsUptoRow : OpenClaim := { program := "ytikgnjcjbjafaaa", sum := "e787e2adc570520893fe1c4e612b98225e64531e1bcdb571215ad711af67e262", func := "gosper/gosperlaw08.BaseSteps", spec := "baseSteps", unfollowed := true, recurses := true, plainKeys := false, apart := false, narrowed := true }
def BaseStepsUptoSaid : Prop := baseStepsUptoRow.holds Try.pinned (OpenSpec.upto baseStepsSpec)

/-- 'gosperlaw08.BaseNine', WHERE WHAT IT READS IS OF BULK AT MOST 1048576: true; the input reads as it did. -/
def baseNineUptoRow : OpenClaim := { program := "ytikgnjcjbjafaaa", sum := "e787e2adc570520893fe1c4e612b98225e64531e1bcdb571215ad711af67e262", func := "gosper/gosperlaw08.BaseNine", spec := "baseNine", unfollowed := true, recurses := true, plainKeys := false, apart := false, narrowed := true }
def BaseNineUptoSaid : Prop := baseNineUptoRow.holds Try.pinned (OpenSpec.upto baseNineSpec)

/-- 'gosperlaw08.BaseTwice', WHERE WHAT IT READS IS OF BULK AT MOST 1048576: true; the input reads as it did. -/
def baseTwiceUptoRow : OpenClaim := { program := "ytikgnjcjbjafaaa", sum := "e787e2adc570520893fe1c4e612b98225e64531e1bcdb571215ad711af67e262", func := "gosper/gosperlaw08.BaseTwice", spec := "baseTwice", unfollowed := true, recurses := true, plainKeys := false, apart := false, narrowed := true }
def BaseTwiceUptoSaid : Prop := baseTwiceUptoRow.holds Try.pinned (OpenSpec.upto baseTwiceSpec)

/-- 'gosperlaw08.BaseTurned', WHERE WHAT IT READS IS OF BULK AT MOST 1048576: true; the input reads as it did. -/
def baseTurnedUptoRow : OpenClaim := { program := "ytikgnjcjbjafaaa", sum := "e787e2adc570520893fe1c4e612b98225e64531e1bcdb571215ad711af67e262", func := "gosper/gosperlaw08.BaseTurned", spec := "baseTurned", unfollowed := true, recurses := true, plainKeys := false, apart := false, narrowed := true }
def BaseTurnedUptoSaid : Prop := baseTurnedUptoRow.holds Try.pinned (OpenSpec.upto baseTurnedSpec)

end Rows
end Go.Proofs.Ytikgnjcjbjafaaa
