/-
  No cell of these rows narrows 'for every input' (looked for: loops, veiled, ifaces, maps, wideKeys, modest, calm, conditions, laid).
  DERIVED. THE GIVEN ROWS OF THIS SEAT. 8 by the template 'for every input the law returns true; each argument reads behind the call as it read before'; 0 by the template 'total and deterministic' (their statements: YtcmdhochofoohaaTotals.lean).
  GIVEN WITH THE SEED: the statements are not yours to turn. If you find one false, say at which input.
  Laid BY PROGRAM, IN A SANDBOX (cutbox-rows.mjs): the forced cells as the released guide's own fill.sh prints them over the translation 3cc7ae0035ca7a8c… (all of the seat's roots in one cut). By AI agents, Wed Nov 11 2026. No macro, syntax, notation, axiom, sorry.
-/
import Derived.Test.YtcmdhochofoohaaChecked
import GoSem.Claim
import GoSem.ClaimJoined
import GoSem.ClaimMapViews
import Derived.JoinedTies
import Derived.KernelRfl
namespace Go.Proofs.Ytcmdhochofoohaa
/- THE CELL 'sum', in the pinned program and in every row, IS THE sha256 OF THE DUMP (.gsa) THAT YtcmdhochofoohaaProg.lean LOADS. Nothing in Lean hashes anything: it is a label: what it is worth is what the hold of that sum in a sandbox is worth. -/
noncomputable def Try.pinned : Pinned := { name := "ytcmdhochofoohaa", sum := "3cc7ae0035ca7a8c34a8faa61dadc2bb6604df3cb273417b180c8b66ca7a62b3", checked := Try.checked }
namespace Rows
def none {H : Type} : Left H := { results := [], args := [] }

/-- 'gosperlaw06.NodeTells': WHATEVER THE INPUT: true; the input reads as it did. -/
def nodeTellsSpec : ChangeSpec := { name := "nodeTells", fn := fun _ => fun
  | [d1, d2, d3, d4, d5, d6, d7] => { results := [.lit (.bool true)], args := [d1, d2, d3, d4, d5, d6, d7] }
  | _ => none }
def nodeTellsRow : OpenClaim := { program := "ytcmdhochofoohaa", sum := "3cc7ae0035ca7a8c34a8faa61dadc2bb6604df3cb273417b180c8b66ca7a62b3", func := "gosper/gosperlaw06.NodeTells", spec := "nodeTells", unfollowed := true, recurses := true, plainKeys := false, apart := false }
def NodeTellsSaid : Prop := nodeTellsRow.holds Try.pinned (OpenSpec.ofChange nodeTellsSpec)

/-- ITS FALSE NEIGHBOUR: 'it returns false'. Refute it at one input. -/
def nodeTellsWrong : ChangeSpec := { name := "nodeTells", fn := fun _ => fun
  | [d1, d2, d3, d4, d5, d6, d7] => { results := [.lit (.bool false)], args := [d1, d2, d3, d4, d5, d6, d7] }
  | _ => none }
def NodeTellsWrongFalsely : Prop := nodeTellsRow.holds Try.pinned (OpenSpec.ofChange nodeTellsWrong)

/-- 'gosperlaw06.NodeLive': WHATEVER THE INPUT: true; the input reads as it did. -/
def nodeLiveSpec : ChangeSpec := { name := "nodeLive", fn := fun _ => fun
  | [d1, d2, d3] => { results := [.lit (.bool true)], args := [d1, d2, d3] }
  | _ => none }
def nodeLiveRow : OpenClaim := { program := "ytcmdhochofoohaa", sum := "3cc7ae0035ca7a8c34a8faa61dadc2bb6604df3cb273417b180c8b66ca7a62b3", func := "gosper/gosperlaw06.NodeLive", spec := "nodeLive", unfollowed := true, recurses := true, plainKeys := false, apart := false }
def NodeLiveSaid : Prop := nodeLiveRow.holds Try.pinned (OpenSpec.ofChange nodeLiveSpec)

/-- ITS FALSE NEIGHBOUR: 'it returns false'. Refute it at one input. -/
def nodeLiveWrong : ChangeSpec := { name := "nodeLive", fn := fun _ => fun
  | [d1, d2, d3] => { results := [.lit (.bool false)], args := [d1, d2, d3] }
  | _ => none }
def NodeLiveWrongFalsely : Prop := nodeLiveRow.holds Try.pinned (OpenSpec.ofChange nodeLiveWrong)

/-- 'gosperlaw07.SquareBack': WHATEVER THE INPUT: true; the input reads as it did. -/
def squareBackSpec : ChangeSpec := { name := "squareBack", fn := fun _ => fun
  | [d1, d2, d3, d4, d5] => { results := [.lit (.bool true)], args := [d1, d2, d3, d4, d5] }
  | _ => none }
def squareBackRow : OpenClaim := { program := "ytcmdhochofoohaa", sum := "3cc7ae0035ca7a8c34a8faa61dadc2bb6604df3cb273417b180c8b66ca7a62b3", func := "gosper/gosperlaw07.SquareBack", spec := "squareBack", unfollowed := true, recurses := true, plainKeys := false, apart := false }
def SquareBackSaid : Prop := squareBackRow.holds Try.pinned (OpenSpec.ofChange squareBackSpec)

/-- ITS FALSE NEIGHBOUR: 'it returns false'. Refute it at one input. -/
def squareBackWrong : ChangeSpec := { name := "squareBack", fn := fun _ => fun
  | [d1, d2, d3, d4, d5] => { results := [.lit (.bool false)], args := [d1, d2, d3, d4, d5] }
  | _ => none }
def SquareBackWrongFalsely : Prop := squareBackRow.holds Try.pinned (OpenSpec.ofChange squareBackWrong)

/-- 'gosperlaw07.SquareSets': WHATEVER THE INPUT: true; the input reads as it did. -/
def squareSetsSpec : ChangeSpec := { name := "squareSets", fn := fun _ => fun
  | [d1, d2, d3, d4, d5, d6, d7] => { results := [.lit (.bool true)], args := [d1, d2, d3, d4, d5, d6, d7] }
  | _ => none }
def squareSetsRow : OpenClaim := { program := "ytcmdhochofoohaa", sum := "3cc7ae0035ca7a8c34a8faa61dadc2bb6604df3cb273417b180c8b66ca7a62b3", func := "gosper/gosperlaw07.SquareSets", spec := "squareSets", unfollowed := true, recurses := true, plainKeys := false, apart := false }
def SquareSetsSaid : Prop := squareSetsRow.holds Try.pinned (OpenSpec.ofChange squareSetsSpec)

/-- ITS FALSE NEIGHBOUR: 'it returns false'. Refute it at one input. -/
def squareSetsWrong : ChangeSpec := { name := "squareSets", fn := fun _ => fun
  | [d1, d2, d3, d4, d5, d6, d7] => { results := [.lit (.bool false)], args := [d1, d2, d3, d4, d5, d6, d7] }
  | _ => none }
def SquareSetsWrongFalsely : Prop := squareSetsRow.holds Try.pinned (OpenSpec.ofChange squareSetsWrong)

/-- 'gosperlaw07.SquareGrows': WHATEVER THE INPUT: true; the input reads as it did. -/
def squareGrowsSpec : ChangeSpec := { name := "squareGrows", fn := fun _ => fun
  | [d1, d2, d3, d4, d5] => { results := [.lit (.bool true)], args := [d1, d2, d3, d4, d5] }
  | _ => none }
def squareGrowsRow : OpenClaim := { program := "ytcmdhochofoohaa", sum := "3cc7ae0035ca7a8c34a8faa61dadc2bb6604df3cb273417b180c8b66ca7a62b3", func := "gosper/gosperlaw07.SquareGrows", spec := "squareGrows", unfollowed := true, recurses := true, plainKeys := false, apart := false }
def SquareGrowsSaid : Prop := squareGrowsRow.holds Try.pinned (OpenSpec.ofChange squareGrowsSpec)

/-- ITS FALSE NEIGHBOUR: 'it returns false'. Refute it at one input. -/
def squareGrowsWrong : ChangeSpec := { name := "squareGrows", fn := fun _ => fun
  | [d1, d2, d3, d4, d5] => { results := [.lit (.bool false)], args := [d1, d2, d3, d4, d5] }
  | _ => none }
def SquareGrowsWrongFalsely : Prop := squareGrowsRow.holds Try.pinned (OpenSpec.ofChange squareGrowsWrong)

/-- 'gosperlaw07.SquareShifts': WHATEVER THE INPUT: true; the input reads as it did. -/
def squareShiftsSpec : ChangeSpec := { name := "squareShifts", fn := fun _ => fun
  | [d1, d2, d3, d4] => { results := [.lit (.bool true)], args := [d1, d2, d3, d4] }
  | _ => none }
def squareShiftsRow : OpenClaim := { program := "ytcmdhochofoohaa", sum := "3cc7ae0035ca7a8c34a8faa61dadc2bb6604df3cb273417b180c8b66ca7a62b3", func := "gosper/gosperlaw07.SquareShifts", spec := "squareShifts", unfollowed := true, recurses := true, plainKeys := false, apart := false }
def SquareShiftsSaid : Prop := squareShiftsRow.holds Try.pinned (OpenSpec.ofChange squareShiftsSpec)

/-- ITS FALSE NEIGHBOUR: 'it returns false'. Refute it at one input. -/
def squareShiftsWrong : ChangeSpec := { name := "squareShifts", fn := fun _ => fun
  | [d1, d2, d3, d4] => { results := [.lit (.bool false)], args := [d1, d2, d3, d4] }
  | _ => none }
def SquareShiftsWrongFalsely : Prop := squareShiftsRow.holds Try.pinned (OpenSpec.ofChange squareShiftsWrong)

/-- 'gosperlaw07.SquareOut': WHATEVER THE INPUT: true; the input reads as it did. -/
def squareOutSpec : ChangeSpec := { name := "squareOut", fn := fun _ => fun
  | [d1, d2, d3, d4, d5, d6] => { results := [.lit (.bool true)], args := [d1, d2, d3, d4, d5, d6] }
  | _ => none }
def squareOutRow : OpenClaim := { program := "ytcmdhochofoohaa", sum := "3cc7ae0035ca7a8c34a8faa61dadc2bb6604df3cb273417b180c8b66ca7a62b3", func := "gosper/gosperlaw07.SquareOut", spec := "squareOut", unfollowed := true, recurses := true, plainKeys := false, apart := false }
def SquareOutSaid : Prop := squareOutRow.holds Try.pinned (OpenSpec.ofChange squareOutSpec)

/-- ITS FALSE NEIGHBOUR: 'it returns false'. Refute it at one input. -/
def squareOutWrong : ChangeSpec := { name := "squareOut", fn := fun _ => fun
  | [d1, d2, d3, d4, d5, d6] => { results := [.lit (.bool false)], args := [d1, d2, d3, d4, d5, d6] }
  | _ => none }
def SquareOutWrongFalsely : Prop := squareOutRow.holds Try.pinned (OpenSpec.ofChange squareOutWrong)

/-- 'gosperlaw07.SquarePops': WHATEVER THE INPUT: true; the input reads as it did. -/
def squarePopsSpec : ChangeSpec := { name := "squarePops", fn := fun _ => fun
  | [d1, d2, d3, d4] => { results := [.lit (.bool true)], args := [d1, d2, d3, d4] }
  | _ => none }
def squarePopsRow : OpenClaim := { program := "ytcmdhochofoohaa", sum := "3cc7ae0035ca7a8c34a8faa61dadc2bb6604df3cb273417b180c8b66ca7a62b3", func := "gosper/gosperlaw07.SquarePops", spec := "squarePops", unfollowed := true, recurses := true, plainKeys := false, apart := false }
def SquarePopsSaid : Prop := squarePopsRow.holds Try.pinned (OpenSpec.ofChange squarePopsSpec)

/-- ITS FALSE NEIGHBOUR: 'it returns false'. Refute it at one input. -/
def squarePopsWrong : ChangeSpec := { name := "squarePops", fn := fun _ => fun
  | [d1, d2, d3, d4] => { results := [.lit (.bool false)], args := [d1, d2, d3, d4] }
  | _ => none }
def SquarePopsWrongFalsely : Prop := squarePopsRow.holds Try.pinned (OpenSpec.ofChange squarePopsWrong)

/- THE SECOND FORM. 'bulk': how many values and letters a reading holds, each counted each time it is reached (what is shared counts as often as it is met; a slice's spare places count too). A statement '..UptoSaid' is the law's where the arguments, and the package variables that the reading takes, are together of bulk at most 1048576: NARROWER than '..Said'. Prove '..Said' where nothing that the law and all that it calls make is longer than what came in: it says more and counts as full. Else prove '..UptoSaid'. A law counts once. -/
mutual
def uptoBulk {H : Type} : DataW H → Nat
  | .lit (.string bytes) => bytes.length + 1
  | .lit _ => 1
  | .nil => 1
  | .ptr d => uptoBulk d + 1
  | .slice elems spare => uptoBulkAll elems + uptoBulkAll spare + 1
  | .agg parts => uptoBulkAll parts + 1
  | .iface _ d => uptoBulk d + 1
  | .map entries => uptoBulkEntries entries + 1
  | .held _ => 1
def uptoBulkAll {H : Type} : List (DataW H) → Nat
  | [] => 0
  | d :: r => uptoBulk d + uptoBulkAll r
def uptoBulkEntries {H : Type} : List (Lit × DataW H) → Nat
  | [] => 0
  | x :: r => uptoBulkEntry x + uptoBulkEntries r
def uptoBulkEntry {H : Type} : Lit × DataW H → Nat
  | (.string bytes, d) => bytes.length + uptoBulk d + 1
  | (_, d) => uptoBulk d + 1
 end
def uptoSmall : (H : Type) → List (DataW H) → Bool := fun _ ds => decide (uptoBulkAll ds ≤ 1048576)
def OpenSpec.upto (s : _root_.Go.ChangeSpec) : _root_.Go.OpenSpec := { _root_.Go.OpenSpec.ofChange s with cond := some uptoSmall }

/-- 'gosperlaw06.NodeTells', WHERE WHAT IT READS IS OF BULK AT MOST 1048576: true; the input reads as it did. -/
def nodeTellsUptoRow : OpenClaim := { program := "ytcmdhochofoohaa", sum := "3cc7ae0035ca7a8c34a8faa61dadc2bb6604df3cb273417b180c8b66ca7a62b3", func := "gosper/gosperlaw06.NodeTells", spec := "nodeTells", unfollowed := true, recurses := true, plainKeys := false, apart := false, narrowed := true }
def NodeTellsUptoSaid : Prop := nodeTellsUptoRow.holds Try.pinned (OpenSpec.upto nodeTellsSpec)

/-- 'gosperlaw06.NodeLive', WHERE WHAT IT READS IS OF BULK AT MOST 1048576: true; the input reads as it did. -/
def nodeLiveUptoRow : OpenClaim := { program := "ytcmdhochofoohaa", sum := "3cc7ae0035ca7a8c34a8faa61dadc2bb6604df3cb273417b180c8b66ca7a62b3", func := "gosper/gosperlaw06.NodeLive", spec := "nodeLive", unfollowed := true, recurses := true, plainKeys := false, apart := false, narrowed := true }
def NodeLiveUptoSaid : Prop := nodeLiveUptoRow.holds Try.pinned (OpenSpec.upto nodeLiveSpec)

/-- 'gosperlaw07.SquareBack', WHERE WHAT IT READS IS OF BULK AT MOST 1048576: true; the input reads as it did. -/
def squareBackUptoRow : OpenClaim := { program := "ytcmdhochofoohaa", sum := "3cc7ae0035ca7a8c34a8faa61dadc2bb6604df3cb273417b180c8b66ca7a62b3", func := "gosper/gosperlaw07.SquareBack", spec := "squareBack", unfollowed := true, recurses := true, plainKeys := false, apart := false, narrowed := true }
def SquareBackUptoSaid : Prop := squareBackUptoRow.holds Try.pinned (OpenSpec.upto squareBackSpec)

/-- 'gosperlaw07.SquareSets', WHERE WHAT IT READS IS OF BULK AT MOST 1048576: true; the input reads as it did. -/
def squareSetsUptoRow : OpenClaim := { program := "ytcmdhochofoohaa", sum := "3cc7ae0035ca7a8c34a8faa61dadc2bb6604df3cb273417b180c8b66ca7a62b3", func := "gosper/gosperlaw07.SquareSets", spec := "squareSets", unfollowed := true, recurses := true, plainKeys := false, apart := false, narrowed := true }
def SquareSetsUptoSaid : Prop := squareSetsUptoRow.holds Try.pinned (OpenSpec.upto squareSetsSpec)

/-- 'gosperlaw07.SquareGrows', WHERE WHAT IT READS IS OF BULK AT MOST 1048576: true; the input reads as it did. -/
def squareGrowsUptoRow : OpenClaim := { program := "ytcmdhochofoohaa", sum := "3cc7ae0035ca7a8c34a8faa61dadc2bb6604df3cb273417b180c8b66ca7a62b3", func := "gosper/gosperlaw07.SquareGrows", spec := "squareGrows", unfollowed := true, recurses := true, plainKeys := false, apart := false, narrowed := true }
def SquareGrowsUptoSaid : Prop := squareGrowsUptoRow.holds Try.pinned (OpenSpec.upto squareGrowsSpec)

/-- 'gosperlaw07.SquareShifts', WHERE WHAT IT READS IS OF BULK AT MOST 1048576: true; the input reads as it did. -/
def squareShiftsUptoRow : OpenClaim := { program := "ytcmdhochofoohaa", sum := "3cc7ae0035ca7a8c34a8faa61dadc2bb6604df3cb273417b180c8b66ca7a62b3", func := "gosper/gosperlaw07.SquareShifts", spec := "squareShifts", unfollowed := true, recurses := true, plainKeys := false, apart := false, narrowed := true }
def SquareShiftsUptoSaid : Prop := squareShiftsUptoRow.holds Try.pinned (OpenSpec.upto squareShiftsSpec)

/-- 'gosperlaw07.SquareOut', WHERE WHAT IT READS IS OF BULK AT MOST 1048576: true; the input reads as it did. -/
def squareOutUptoRow : OpenClaim := { program := "ytcmdhochofoohaa", sum := "3cc7ae0035ca7a8c34a8faa61dadc2bb6604df3cb273417b180c8b66ca7a62b3", func := "gosper/gosperlaw07.SquareOut", spec := "squareOut", unfollowed := true, recurses := true, plainKeys := false, apart := false, narrowed := true }
def SquareOutUptoSaid : Prop := squareOutUptoRow.holds Try.pinned (OpenSpec.upto squareOutSpec)

/-- 'gosperlaw07.SquarePops', WHERE WHAT IT READS IS OF BULK AT MOST 1048576: true; the input reads as it did. -/
def squarePopsUptoRow : OpenClaim := { program := "ytcmdhochofoohaa", sum := "3cc7ae0035ca7a8c34a8faa61dadc2bb6604df3cb273417b180c8b66ca7a62b3", func := "gosper/gosperlaw07.SquarePops", spec := "squarePops", unfollowed := true, recurses := true, plainKeys := false, apart := false, narrowed := true }
def SquarePopsUptoSaid : Prop := squarePopsUptoRow.holds Try.pinned (OpenSpec.upto squarePopsSpec)

end Rows
end Go.Proofs.Ytcmdhochofoohaa
