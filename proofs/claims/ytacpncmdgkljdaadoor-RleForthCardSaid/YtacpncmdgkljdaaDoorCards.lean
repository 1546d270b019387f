/-
  DERIVED. GIVEN WITH THE SEED: THE CARDS: each row of YtacpncmdgkljdaaDoorRows.lean that lists a variable, with what it lists TIED to the program's text (the seventh form; the later family's looks); each row that meets fmt, with fmt's text TOLD by the authors' own Lean function (tested against real Go, not proved from fmt's source: count such statements apart). THE CARD IS WHAT COUNTS. Prove the row's statement (the work); the ties are given (YtacpncmdgkljdaaDoorTie.lean); close each card by the builder's one call (the guide's Derived/Test/ToyasCard.lean, 'card_holds'). Laid BY PROGRAM, IN A SANDBOX (cutbox-door.mjs). By AI agents, Wed Nov 11 2026. No macro, syntax, notation, axiom, sorry.
-/
import Derived.Test.YtacpncmdgkljdaaDoorRows
import GoSem.ClaimSeven
namespace Go.Proofs.YtacpncmdgkljdaaDoor
namespace Rows

/-- THE TIED CARD OF 'gosperlaw05.RleBack'. -/
def rleBackCard : Claim7 := { stood := { row := rleBackRow, standIns := [], harness := (true, "477067f389eab77e2d3dcc8a28ba4ded145a6607db8ec2c0fd047123edf5997c"), looks := false }, kinds := [], alts := [], laidByText := true, laidKinds := [.data, .data, .data, .data, .pinned], laidTests := true, laidLooks := .later }
def RleBackCardSaid : Prop := Claim7.holds Tryd.pinned (.plain (OpenSpec.ofChange rleBackSpec)) rleBackCard

/-- THE TIED CARD OF 'gosperlaw05.RleForth'. -/
def rleForthCard : Claim7 := { stood := { row := rleForthRow, standIns := [], harness := (true, "477067f389eab77e2d3dcc8a28ba4ded145a6607db8ec2c0fd047123edf5997c"), looks := false }, kinds := [], alts := [], laidByText := true, laidKinds := [.data, .data, .data, .data, .pinned], laidTests := true, laidLooks := .later }
def RleForthCardSaid : Prop := Claim7.holds Tryd.pinned (.plain (OpenSpec.ofChange rleForthSpec)) rleForthCard

/-- THE TIED CARD OF 'gosperlaw05.RleHead'. -/
def rleHeadCard : Claim7 := { stood := { row := rleHeadRow, standIns := [], harness := (true, "477067f389eab77e2d3dcc8a28ba4ded145a6607db8ec2c0fd047123edf5997c"), looks := false }, kinds := [], alts := [], laidByText := true, laidKinds := [.data, .data, .data, .data, .pinned], laidTests := true, laidLooks := .later }
def RleHeadCardSaid : Prop := Claim7.holds Tryd.pinned (.plain (OpenSpec.ofChange rleHeadSpec)) rleHeadCard

/-- THE TIED CARD OF 'gosperlaw05.RleShort'. -/
def rleShortCard : Claim7 := { stood := { row := rleShortRow, standIns := [], harness := (true, "477067f389eab77e2d3dcc8a28ba4ded145a6607db8ec2c0fd047123edf5997c"), looks := false }, kinds := [], alts := [], laidByText := true, laidKinds := [.data, .data, .data, .data, .pinned], laidTests := true, laidLooks := .later }
def RleShortCardSaid : Prop := Claim7.holds Tryd.pinned (.plain (OpenSpec.ofChange rleShortSpec)) rleShortCard

/-- THE TIED CARD OF 'gosperlaw05.RleItems'. -/
def rleItemsCard : Claim7 := { stood := { row := rleItemsRow, standIns := [], harness := (true, "477067f389eab77e2d3dcc8a28ba4ded145a6607db8ec2c0fd047123edf5997c"), looks := false }, kinds := [], alts := [], laidByText := true, laidKinds := [.data, .data, .data, .data, .pinned], laidTests := true, laidLooks := .later }
def RleItemsCardSaid : Prop := Claim7.holds Tryd.pinned (.plain (OpenSpec.ofChange rleItemsSpec)) rleItemsCard

/-- THE SECOND FORM's CARD OF 'gosperlaw05.RleBack'. -/
def rleBackUptoCard : Claim7 := { stood := { row := rleBackUptoRow, standIns := [], harness := (true, "477067f389eab77e2d3dcc8a28ba4ded145a6607db8ec2c0fd047123edf5997c"), looks := false }, kinds := [], alts := [], laidByText := true, laidKinds := [.data, .data, .data, .data, .pinned], laidTests := true, laidLooks := .later }
def RleBackUptoCardSaid : Prop := Claim7.holds Tryd.pinned (.plain (OpenSpec.upto rleBackSpec)) rleBackUptoCard

/-- THE SECOND FORM's CARD OF 'gosperlaw05.RleForth'. -/
def rleForthUptoCard : Claim7 := { stood := { row := rleForthUptoRow, standIns := [], harness := (true, "477067f389eab77e2d3dcc8a28ba4ded145a6607db8ec2c0fd047123edf5997c"), looks := false }, kinds := [], alts := [], laidByText := true, laidKinds := [.data, .data, .data, .data, .pinned], laidTests := true, laidLooks := .later }
def RleForthUptoCardSaid : Prop := Claim7.holds Tryd.pinned (.plain (OpenSpec.upto rleForthSpec)) rleForthUptoCard

/-- THE SECOND FORM's CARD OF 'gosperlaw05.RleHead'. -/
def rleHeadUptoCard : Claim7 := { stood := { row := rleHeadUptoRow, standIns := [], harness := (true, "477067f389eab77e2d3dcc8a28ba4ded145a6607db8ec2c0fd047123edf5997c"), looks := false }, kinds := [], alts := [], laidByText := true, laidKinds := [.data, .data, .data, .data, .pinned], laidTests := true, laidLooks := .later }
def RleHeadUptoCardSaid : Prop := Claim7.holds Tryd.pinned (.plain (OpenSpec.upto rleHeadSpec)) rleHeadUptoCard

/-- THE SECOND FORM's CARD OF 'gosperlaw05.RleShort'. -/
def rleShortUptoCard : Claim7 := { stood := { row := rleShortUptoRow, standIns := [], harness := (true, "477067f389eab77e2d3dcc8a28ba4ded145a6607db8ec2c0fd047123edf5997c"), looks := false }, kinds := [], alts := [], laidByText := true, laidKinds := [.data, .data, .data, .data, .pinned], laidTests := true, laidLooks := .later }
def RleShortUptoCardSaid : Prop := Claim7.holds Tryd.pinned (.plain (OpenSpec.upto rleShortSpec)) rleShortUptoCard

/-- THE SECOND FORM's CARD OF 'gosperlaw05.RleItems'. -/
def rleItemsUptoCard : Claim7 := { stood := { row := rleItemsUptoRow, standIns := [], harness := (true, "477067f389eab77e2d3dcc8a28ba4ded145a6607db8ec2c0fd047123edf5997c"), looks := false }, kinds := [], alts := [], laidByText := true, laidKinds := [.data, .data, .data, .data, .pinned], laidTests := true, laidLooks := .later }
def RleItemsUptoCardSaid : Prop := Claim7.holds Tryd.pinned (.plain (OpenSpec.upto rleItemsSpec)) rleItemsUptoCard
end Rows
end Go.Proofs.YtacpncmdgkljdaaDoor
