/-
  DERIVED. GIVEN WITH THE SEED: THE CARDS: each row of YtdhmlcelofnkgaaGreatDoorRows.lean that lists a variable, with what it lists TIED to the program's text (the seventh form; the later family's looks); each row that meets fmt, with fmt's text TOLD by the authors' own Lean function (tested against real Go, not proved from fmt's source: count such statements apart). THE CARD IS WHAT COUNTS. Prove the row's statement (the work); the ties are given (YtdhmlcelofnkgaaGreatDoorTie.lean); close each card by the builder's one call (the guide's Derived/Test/ToyasCard.lean, 'card_holds'). Laid BY PROGRAM, IN A SANDBOX (cutbox-door.mjs). By AI agents, Wed Nov 11 2026. No macro, syntax, notation, axiom, sorry.
-/
import Derived.Test.YtdhmlcelofnkgaaGreatDoorRows
import GoSem.ClaimSeven
namespace Go.Proofs.YtdhmlcelofnkgaaGreatDoor
namespace Rows

/-- THE TIED CARD OF 'stillroomlaw15.IndexParses'. -/
def indexParsesCard : Claim7 := { stood := { row := indexParsesRow, standIns := [], harness := (true, "ae0bfd854b529a067863ea811b4d1f404576a74a63298cbe93ae69b9a33f2056"), looks := true }, kinds := [], alts := [], laidByText := true, laidKinds := [.data, .handle, .pinned], laidTests := true, laidLooks := .later }
def IndexParsesCardSaid : Prop := Claim7.holds Tryz.pinned (.plain (OpenSpec.ofChange indexParsesSpec)) indexParsesCard

/-- THE TIED CARD OF 'stillroomlaw15.IndexTells'. -/
def indexTellsCard : Claim7 := { stood := { row := indexTellsRow, standIns := [], harness := (true, "ae0bfd854b529a067863ea811b4d1f404576a74a63298cbe93ae69b9a33f2056"), looks := true }, kinds := [], alts := [], laidByText := true, laidKinds := [.data, .data, .data, .data, .pinned], laidTests := true, laidLooks := .later }
def IndexTellsCardSaid : Prop := Claim7.holds Tryz.pinned (.plain (OpenSpec.ofChange indexTellsSpec)) indexTellsCard

/-- THE TIED CARD OF 'stillroomlaw15.IndexBack'. -/
def indexBackCard : Claim7 := { stood := { row := indexBackRow, standIns := [], harness := (true, "ae0bfd854b529a067863ea811b4d1f404576a74a63298cbe93ae69b9a33f2056"), looks := true }, kinds := [], alts := [], laidByText := true, laidKinds := [.data, .handle, .pinned], laidTests := true, laidLooks := .later }
def IndexBackCardSaid : Prop := Claim7.holds Tryz.pinned (.plain (OpenSpec.ofChange indexBackSpec)) indexBackCard

/-- THE TIED CARD OF 'stillroomlaw15.IndexCounts'. -/
def indexCountsCard : Claim7 := { stood := { row := indexCountsRow, standIns := [], harness := (true, "ae0bfd854b529a067863ea811b4d1f404576a74a63298cbe93ae69b9a33f2056"), looks := true }, kinds := [], alts := [], laidByText := true, laidKinds := [.data, .data, .data, .data, .pinned], laidTests := true, laidLooks := .later }
def IndexCountsCardSaid : Prop := Claim7.holds Tryz.pinned (.plain (OpenSpec.ofChange indexCountsSpec)) indexCountsCard

/-- THE SECOND FORM's CARD OF 'stillroomlaw15.IndexParses'. -/
def indexParsesUptoCard : Claim7 := { stood := { row := indexParsesUptoRow, standIns := [], harness := (true, "ae0bfd854b529a067863ea811b4d1f404576a74a63298cbe93ae69b9a33f2056"), looks := true }, kinds := [], alts := [], laidByText := true, laidKinds := [.data, .handle, .pinned], laidTests := true, laidLooks := .later }
def IndexParsesUptoCardSaid : Prop := Claim7.holds Tryz.pinned (.plain (OpenSpec.upto indexParsesSpec)) indexParsesUptoCard

/-- THE SECOND FORM's CARD OF 'stillroomlaw15.IndexTells'. -/
def indexTellsUptoCard : Claim7 := { stood := { row := indexTellsUptoRow, standIns := [], harness := (true, "ae0bfd854b529a067863ea811b4d1f404576a74a63298cbe93ae69b9a33f2056"), looks := true }, kinds := [], alts := [], laidByText := true, laidKinds := [.data, .data, .data, .data, .pinned], laidTests := true, laidLooks := .later }
def IndexTellsUptoCardSaid : Prop := Claim7.holds Tryz.pinned (.plain (OpenSpec.upto indexTellsSpec)) indexTellsUptoCard

/-- THE SECOND FORM's CARD OF 'stillroomlaw15.IndexBack'. -/
def indexBackUptoCard : Claim7 := { stood := { row := indexBackUptoRow, standIns := [], harness := (true, "ae0bfd854b529a067863ea811b4d1f404576a74a63298cbe93ae69b9a33f2056"), looks := true }, kinds := [], alts := [], laidByText := true, laidKinds := [.data, .handle, .pinned], laidTests := true, laidLooks := .later }
def IndexBackUptoCardSaid : Prop := Claim7.holds Tryz.pinned (.plain (OpenSpec.upto indexBackSpec)) indexBackUptoCard

/-- THE SECOND FORM's CARD OF 'stillroomlaw15.IndexCounts'. -/
def indexCountsUptoCard : Claim7 := { stood := { row := indexCountsUptoRow, standIns := [], harness := (true, "ae0bfd854b529a067863ea811b4d1f404576a74a63298cbe93ae69b9a33f2056"), looks := true }, kinds := [], alts := [], laidByText := true, laidKinds := [.data, .data, .data, .data, .pinned], laidTests := true, laidLooks := .later }
def IndexCountsUptoCardSaid : Prop := Claim7.holds Tryz.pinned (.plain (OpenSpec.upto indexCountsSpec)) indexCountsUptoCard
end Rows
end Go.Proofs.YtdhmlcelofnkgaaGreatDoor
