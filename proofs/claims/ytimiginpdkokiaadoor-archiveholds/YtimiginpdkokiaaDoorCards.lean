/-
  DERIVED. GIVEN WITH THE SEED: THE CARDS: each row of YtimiginpdkokiaaDoorRows.lean that lists a variable, with what it lists TIED to the program's text (the seventh form; the later family's looks); each row that meets fmt, with fmt's text TOLD by the authors' own Lean function (tested against real Go, not proved from fmt's source: count such statements apart). THE CARD IS WHAT COUNTS. Prove the row's statement (the work); the ties are given (YtimiginpdkokiaaDoorTie.lean); close each card by the builder's one call (the guide's Derived/Test/ToyasCard.lean, 'card_holds'). Laid BY PROGRAM, IN A SANDBOX (cutbox-door.mjs). By AI agents, Wed Nov 11 2026. No macro, syntax, notation, axiom, sorry.
-/
import Derived.Test.YtimiginpdkokiaaDoorRows
import GoSem.ClaimSeven
namespace Go.Proofs.YtimiginpdkokiaaDoor
namespace Rows

/-- THE TIED CARD OF 'stillroomlaw07.ArchiveEncodes'. -/
def archiveEncodesCard : Claim7 := { stood := { row := archiveEncodesRow, standIns := [], harness := (true, "a6071e6c61f6b58e079edb8c70bd86b15f83cd3dfdb359912178a977bb39c269"), looks := true }, kinds := [], alts := [], laidByText := true, laidKinds := [.data, .data], laidTests := true, laidLooks := .later }
def ArchiveEncodesCardSaid : Prop := Claim7.holds Tryd.pinned (.plain (OpenSpec.ofChange archiveEncodesSpec)) archiveEncodesCard

/-- THE TIED CARD OF 'stillroomlaw07.ArchiveDecodes'. -/
def archiveDecodesCard : Claim7 := { stood := { row := archiveDecodesRow, standIns := [], harness := (true, "a6071e6c61f6b58e079edb8c70bd86b15f83cd3dfdb359912178a977bb39c269"), looks := true }, kinds := [], alts := [], laidByText := true, laidKinds := [.handle], laidTests := true, laidLooks := .later }
def ArchiveDecodesCardSaid : Prop := Claim7.holds Tryd.pinned (.plain (OpenSpec.ofChange archiveDecodesSpec)) archiveDecodesCard

/-- THE TIED CARD OF 'stillroomlaw07.ArchiveBack'. -/
def archiveBackCard : Claim7 := { stood := { row := archiveBackRow, standIns := [], harness := (true, "a6071e6c61f6b58e079edb8c70bd86b15f83cd3dfdb359912178a977bb39c269"), looks := true }, kinds := [], alts := [], laidByText := true, laidKinds := [.handle], laidTests := true, laidLooks := .later }
def ArchiveBackCardSaid : Prop := Claim7.holds Tryd.pinned (.plain (OpenSpec.ofChange archiveBackSpec)) archiveBackCard

/-- THE TIED CARD OF 'stillroomlaw07.ArchiveHolds'. -/
def archiveHoldsCard : Claim7 := { stood := { row := archiveHoldsRow, standIns := [], harness := (true, "a6071e6c61f6b58e079edb8c70bd86b15f83cd3dfdb359912178a977bb39c269"), looks := true }, kinds := [], alts := [], laidByText := true, laidKinds := [.handle], laidTests := true, laidLooks := .later }
def ArchiveHoldsCardSaid : Prop := Claim7.holds Tryd.pinned (.plain (OpenSpec.ofChange archiveHoldsSpec)) archiveHoldsCard

/-- THE SECOND FORM's CARD OF 'stillroomlaw07.ArchiveEncodes'. -/
def archiveEncodesUptoCard : Claim7 := { stood := { row := archiveEncodesUptoRow, standIns := [], harness := (true, "a6071e6c61f6b58e079edb8c70bd86b15f83cd3dfdb359912178a977bb39c269"), looks := true }, kinds := [], alts := [], laidByText := true, laidKinds := [.data, .data], laidTests := true, laidLooks := .later }
def ArchiveEncodesUptoCardSaid : Prop := Claim7.holds Tryd.pinned (.plain (OpenSpec.upto archiveEncodesSpec)) archiveEncodesUptoCard

/-- THE SECOND FORM's CARD OF 'stillroomlaw07.ArchiveDecodes'. -/
def archiveDecodesUptoCard : Claim7 := { stood := { row := archiveDecodesUptoRow, standIns := [], harness := (true, "a6071e6c61f6b58e079edb8c70bd86b15f83cd3dfdb359912178a977bb39c269"), looks := true }, kinds := [], alts := [], laidByText := true, laidKinds := [.handle], laidTests := true, laidLooks := .later }
def ArchiveDecodesUptoCardSaid : Prop := Claim7.holds Tryd.pinned (.plain (OpenSpec.upto archiveDecodesSpec)) archiveDecodesUptoCard

/-- THE SECOND FORM's CARD OF 'stillroomlaw07.ArchiveBack'. -/
def archiveBackUptoCard : Claim7 := { stood := { row := archiveBackUptoRow, standIns := [], harness := (true, "a6071e6c61f6b58e079edb8c70bd86b15f83cd3dfdb359912178a977bb39c269"), looks := true }, kinds := [], alts := [], laidByText := true, laidKinds := [.handle], laidTests := true, laidLooks := .later }
def ArchiveBackUptoCardSaid : Prop := Claim7.holds Tryd.pinned (.plain (OpenSpec.upto archiveBackSpec)) archiveBackUptoCard

/-- THE SECOND FORM's CARD OF 'stillroomlaw07.ArchiveHolds'. -/
def archiveHoldsUptoCard : Claim7 := { stood := { row := archiveHoldsUptoRow, standIns := [], harness := (true, "a6071e6c61f6b58e079edb8c70bd86b15f83cd3dfdb359912178a977bb39c269"), looks := true }, kinds := [], alts := [], laidByText := true, laidKinds := [.handle], laidTests := true, laidLooks := .later }
def ArchiveHoldsUptoCardSaid : Prop := Claim7.holds Tryd.pinned (.plain (OpenSpec.upto archiveHoldsSpec)) archiveHoldsUptoCard
end Rows
end Go.Proofs.YtimiginpdkokiaaDoor
