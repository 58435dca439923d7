/-
  DERIVED. GIVEN WITH THE SEED: THE CARDS: each row of YtppgidmeeaodkaaGreatDoorRows.lean that lists a variable, with what it lists TIED to the program's text (the seventh form; the later family's looks); each row that meets fmt, with fmt's text TOLD by the authors' own Lean function (tested against real Go, not proved from fmt's source: count such statements apart). THE CARD IS WHAT COUNTS. Prove the row's statement (the work); the ties are given (YtppgidmeeaodkaaGreatDoorTie.lean); close each card by the builder's one call (the guide's Derived/Test/ToyasCard.lean, 'card_holds'). Laid BY PROGRAM, IN A SANDBOX (cutbox-door.mjs). By AI agents, Wed Nov 11 2026. No macro, syntax, notation, axiom, sorry.
-/
import Derived.Test.YtppgidmeeaodkaaGreatDoorRows
import GoSem.ClaimSeven
namespace Go.Proofs.YtppgidmeeaodkaaGreatDoor
namespace Rows

/-- THE TIED CARD OF 'stillroomlaw11.ObjectPlays'. -/
def objectPlaysCard : Claim7 := { stood := { row := objectPlaysRow, standIns := [], harness := (true, "8411dd0fdcebea91ad70d7e1f37dfeea89edc6d0cbbac32bc2990399e7c4b5e5"), looks := true }, kinds := [], alts := [], laidByText := true, laidKinds := [.data, .handle, .data, .data, .data, .data, .pinned], laidTests := true, laidLooks := .later }
def ObjectPlaysCardSaid : Prop := Claim7.holds Tryz.pinned (.plain (OpenSpec.ofChange objectPlaysSpec)) objectPlaysCard

/-- THE TIED CARD OF 'stillroomlaw11.ObjectNobody'. -/
def objectNobodyCard : Claim7 := { stood := { row := objectNobodyRow, standIns := [], harness := (true, "8411dd0fdcebea91ad70d7e1f37dfeea89edc6d0cbbac32bc2990399e7c4b5e5"), looks := true }, kinds := [], alts := [], laidByText := true, laidKinds := [.data, .data, .data, .data, .data, .pinned], laidTests := true, laidLooks := .later }
def ObjectNobodyCardSaid : Prop := Claim7.holds Tryz.pinned (.plain (OpenSpec.ofChange objectNobodySpec)) objectNobodyCard

/-- THE TIED CARD OF 'stillroomlaw11.ObjectClosed'. -/
def objectClosedCard : Claim7 := { stood := { row := objectClosedRow, standIns := [], harness := (true, "8411dd0fdcebea91ad70d7e1f37dfeea89edc6d0cbbac32bc2990399e7c4b5e5"), looks := true }, kinds := [], alts := [], laidByText := true, laidKinds := [.data, .handle, .data, .data, .data, .data, .pinned], laidTests := true, laidLooks := .later }
def ObjectClosedCardSaid : Prop := Claim7.holds Tryz.pinned (.plain (OpenSpec.ofChange objectClosedSpec)) objectClosedCard

/-- THE TIED CARD OF 'stillroomlaw11.ObjectHashes'. -/
def objectHashesCard : Claim7 := { stood := { row := objectHashesRow, standIns := [], harness := (true, "8411dd0fdcebea91ad70d7e1f37dfeea89edc6d0cbbac32bc2990399e7c4b5e5"), looks := true }, kinds := [], alts := [], laidByText := true, laidKinds := [.data, .handle, .data, .data, .data, .data, .pinned], laidTests := true, laidLooks := .later }
def ObjectHashesCardSaid : Prop := Claim7.holds Tryz.pinned (.plain (OpenSpec.ofChange objectHashesSpec)) objectHashesCard

/-- THE TIED CARD OF 'stillroomlaw11.ObjectSelf'. -/
def objectSelfCard : Claim7 := { stood := { row := objectSelfRow, standIns := [], harness := (true, "8411dd0fdcebea91ad70d7e1f37dfeea89edc6d0cbbac32bc2990399e7c4b5e5"), looks := true }, kinds := [], alts := [], laidByText := true, laidKinds := [.data, .handle, .data, .data, .data, .data, .pinned], laidTests := true, laidLooks := .later }
def ObjectSelfCardSaid : Prop := Claim7.holds Tryz.pinned (.plain (OpenSpec.ofChange objectSelfSpec)) objectSelfCard

/-- THE SECOND FORM's CARD OF 'stillroomlaw11.ObjectPlays'. -/
def objectPlaysUptoCard : Claim7 := { stood := { row := objectPlaysUptoRow, standIns := [], harness := (true, "8411dd0fdcebea91ad70d7e1f37dfeea89edc6d0cbbac32bc2990399e7c4b5e5"), looks := true }, kinds := [], alts := [], laidByText := true, laidKinds := [.data, .handle, .data, .data, .data, .data, .pinned], laidTests := true, laidLooks := .later }
def ObjectPlaysUptoCardSaid : Prop := Claim7.holds Tryz.pinned (.plain (OpenSpec.upto objectPlaysSpec)) objectPlaysUptoCard

/-- THE SECOND FORM's CARD OF 'stillroomlaw11.ObjectNobody'. -/
def objectNobodyUptoCard : Claim7 := { stood := { row := objectNobodyUptoRow, standIns := [], harness := (true, "8411dd0fdcebea91ad70d7e1f37dfeea89edc6d0cbbac32bc2990399e7c4b5e5"), looks := true }, kinds := [], alts := [], laidByText := true, laidKinds := [.data, .data, .data, .data, .data, .pinned], laidTests := true, laidLooks := .later }
def ObjectNobodyUptoCardSaid : Prop := Claim7.holds Tryz.pinned (.plain (OpenSpec.upto objectNobodySpec)) objectNobodyUptoCard

/-- THE SECOND FORM's CARD OF 'stillroomlaw11.ObjectClosed'. -/
def objectClosedUptoCard : Claim7 := { stood := { row := objectClosedUptoRow, standIns := [], harness := (true, "8411dd0fdcebea91ad70d7e1f37dfeea89edc6d0cbbac32bc2990399e7c4b5e5"), looks := true }, kinds := [], alts := [], laidByText := true, laidKinds := [.data, .handle, .data, .data, .data, .data, .pinned], laidTests := true, laidLooks := .later }
def ObjectClosedUptoCardSaid : Prop := Claim7.holds Tryz.pinned (.plain (OpenSpec.upto objectClosedSpec)) objectClosedUptoCard

/-- THE SECOND FORM's CARD OF 'stillroomlaw11.ObjectHashes'. -/
def objectHashesUptoCard : Claim7 := { stood := { row := objectHashesUptoRow, standIns := [], harness := (true, "8411dd0fdcebea91ad70d7e1f37dfeea89edc6d0cbbac32bc2990399e7c4b5e5"), looks := true }, kinds := [], alts := [], laidByText := true, laidKinds := [.data, .handle, .data, .data, .data, .data, .pinned], laidTests := true, laidLooks := .later }
def ObjectHashesUptoCardSaid : Prop := Claim7.holds Tryz.pinned (.plain (OpenSpec.upto objectHashesSpec)) objectHashesUptoCard

/-- THE SECOND FORM's CARD OF 'stillroomlaw11.ObjectSelf'. -/
def objectSelfUptoCard : Claim7 := { stood := { row := objectSelfUptoRow, standIns := [], harness := (true, "8411dd0fdcebea91ad70d7e1f37dfeea89edc6d0cbbac32bc2990399e7c4b5e5"), looks := true }, kinds := [], alts := [], laidByText := true, laidKinds := [.data, .handle, .data, .data, .data, .data, .pinned], laidTests := true, laidLooks := .later }
def ObjectSelfUptoCardSaid : Prop := Claim7.holds Tryz.pinned (.plain (OpenSpec.upto objectSelfSpec)) objectSelfUptoCard
end Rows
end Go.Proofs.YtppgidmeeaodkaaGreatDoor
