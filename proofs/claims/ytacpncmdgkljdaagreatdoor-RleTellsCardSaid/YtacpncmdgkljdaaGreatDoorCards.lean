/-
  DERIVED. GIVEN WITH THE SEED: THE CARDS: each row of YtacpncmdgkljdaaGreatDoorRows.lean that lists a variable, with what it lists TIED to the program's text (the seventh form; the later family's looks); each row that meets fmt, with fmt's text TOLD by the authors' own Lean function (tested against real Go, not proved from fmt's source: count such statements apart). THE CARD IS WHAT COUNTS. Prove the row's statement (the work); the ties are given (YtacpncmdgkljdaaGreatDoorTie.lean); close each card by the builder's one call (the guide's Derived/Test/ToyasCard.lean, 'card_holds'). Laid BY PROGRAM, IN A SANDBOX (cutbox-door.mjs). By AI agents, Wed Nov 11 2026. No macro, syntax, notation, axiom, sorry.
-/
import Derived.Test.YtacpncmdgkljdaaGreatDoorRows
import GoSem.ClaimSeven
namespace Go.Proofs.YtacpncmdgkljdaaGreatDoor
namespace Rows

/-- THE TIED CARD OF 'gosperlaw05.RleTells'. -/
def rleTellsCard : Claim7 := { stood := { row := rleTellsRow, standIns := [], harness := (true, "7e114b78137af1886bac9985fb03ead9d819a93be5f04050d8746a7549a09f96"), looks := false }, kinds := [], alts := [], laidByText := true, laidKinds := [.data, .data, .data, .data, .pinned], laidTests := true, laidLooks := .later }
def RleTellsCardSaid : Prop := Claim7.holds Tryz.pinned (.plain (OpenSpec.ofChange rleTellsSpec)) rleTellsCard

/-- THE SECOND FORM's CARD OF 'gosperlaw05.RleTells'. -/
def rleTellsUptoCard : Claim7 := { stood := { row := rleTellsUptoRow, standIns := [], harness := (true, "7e114b78137af1886bac9985fb03ead9d819a93be5f04050d8746a7549a09f96"), looks := false }, kinds := [], alts := [], laidByText := true, laidKinds := [.data, .data, .data, .data, .pinned], laidTests := true, laidLooks := .later }
def RleTellsUptoCardSaid : Prop := Claim7.holds Tryz.pinned (.plain (OpenSpec.upto rleTellsSpec)) rleTellsUptoCard
end Rows
end Go.Proofs.YtacpncmdgkljdaaGreatDoor
