/-
  DERIVED. GIVEN WITH THE SEED: THE CARDS: each row of YtkbhckjpmgkgjaaGreatDoorRows.lean that lists a variable, with what it lists TIED to the program's text (the seventh form; the later family's looks); each row that meets fmt, with fmt's text TOLD by the authors' own Lean function (tested against real Go, not proved from fmt's source: count such statements apart). THE CARD IS WHAT COUNTS. Prove the row's statement (the work); the ties are given (YtkbhckjpmgkgjaaGreatDoorTie.lean); close each card by the builder's one call (the guide's Derived/Test/ToyasCard.lean, 'card_holds'). Laid BY PROGRAM, IN A SANDBOX (cutbox-door.mjs). By AI agents, Wed Nov 11 2026. No macro, syntax, notation, axiom, sorry.
-/
import Derived.Test.YtkbhckjpmgkgjaaGreatDoorRows
import GoSem.ClaimSeven
namespace Go.Proofs.YtkbhckjpmgkgjaaGreatDoor
namespace Rows

/-- THE TIED CARD OF 'stillroomlaw15.IndexParses'. -/
def indexParsesCard : Claim7 := { stood := { row := indexParsesRow, standIns := [], harness := (true, "2146e0fcac8f1ff1557a2c06cd2c17829491b18ac2c300ed89bfb54dea9d0700"), looks := true }, kinds := [], alts := [], laidByText := true, laidKinds := [.data, .handle, .pinned], laidTests := true, laidLooks := .later }
def IndexParsesCardSaid : Prop := Claim7.holds Tryz.pinned (.plain (OpenSpec.ofChange indexParsesSpec)) indexParsesCard

/-- THE TIED CARD OF 'stillroomlaw15.IndexTells'. -/
def indexTellsCard : Claim7 := { stood := { row := indexTellsRow, standIns := [], harness := (true, "2146e0fcac8f1ff1557a2c06cd2c17829491b18ac2c300ed89bfb54dea9d0700"), looks := true }, kinds := [], alts := [], laidByText := true, laidKinds := [.data, .data, .data, .data, .pinned], laidTests := true, laidLooks := .later }
def IndexTellsCardSaid : Prop := Claim7.holds Tryz.pinned (.plain (OpenSpec.ofChange indexTellsSpec)) indexTellsCard

/-- THE TIED CARD OF 'stillroomlaw15.IndexBack'. -/
def indexBackCard : Claim7 := { stood := { row := indexBackRow, standIns := [], harness := (true, "2146e0fcac8f1ff1557a2c06cd2c17829491b18ac2c300ed89bfb54dea9d0700"), looks := true }, kinds := [], alts := [], laidByText := true, laidKinds := [.data, .handle, .pinned], laidTests := true, laidLooks := .later }
def IndexBackCardSaid : Prop := Claim7.holds Tryz.pinned (.plain (OpenSpec.ofChange indexBackSpec)) indexBackCard

/-- THE TIED CARD OF 'stillroomlaw16.ResolveChecks'. -/
def resolveChecksCard : Claim7 := { stood := { row := resolveChecksRow, standIns := [], harness := (true, "2146e0fcac8f1ff1557a2c06cd2c17829491b18ac2c300ed89bfb54dea9d0700"), looks := true }, kinds := [], alts := [], laidByText := true, laidKinds := [.data, .data, .data, .data, .pinned], laidTests := true, laidLooks := .later }
def ResolveChecksCardSaid : Prop := Claim7.holds Tryz.pinned (.plain (OpenSpec.ofChange resolveChecksSpec)) resolveChecksCard

/-- THE SECOND FORM's CARD OF 'stillroomlaw15.IndexParses'. -/
def indexParsesUptoCard : Claim7 := { stood := { row := indexParsesUptoRow, standIns := [], harness := (true, "2146e0fcac8f1ff1557a2c06cd2c17829491b18ac2c300ed89bfb54dea9d0700"), looks := true }, kinds := [], alts := [], laidByText := true, laidKinds := [.data, .handle, .pinned], laidTests := true, laidLooks := .later }
def IndexParsesUptoCardSaid : Prop := Claim7.holds Tryz.pinned (.plain (OpenSpec.upto indexParsesSpec)) indexParsesUptoCard

/-- THE SECOND FORM's CARD OF 'stillroomlaw15.IndexTells'. -/
def indexTellsUptoCard : Claim7 := { stood := { row := indexTellsUptoRow, standIns := [], harness := (true, "2146e0fcac8f1ff1557a2c06cd2c17829491b18ac2c300ed89bfb54dea9d0700"), looks := true }, kinds := [], alts := [], laidByText := true, laidKinds := [.data, .data, .data, .data, .pinned], laidTests := true, laidLooks := .later }
def IndexTellsUptoCardSaid : Prop := Claim7.holds Tryz.pinned (.plain (OpenSpec.upto indexTellsSpec)) indexTellsUptoCard

/-- THE SECOND FORM's CARD OF 'stillroomlaw15.IndexBack'. -/
def indexBackUptoCard : Claim7 := { stood := { row := indexBackUptoRow, standIns := [], harness := (true, "2146e0fcac8f1ff1557a2c06cd2c17829491b18ac2c300ed89bfb54dea9d0700"), looks := true }, kinds := [], alts := [], laidByText := true, laidKinds := [.data, .handle, .pinned], laidTests := true, laidLooks := .later }
def IndexBackUptoCardSaid : Prop := Claim7.holds Tryz.pinned (.plain (OpenSpec.upto indexBackSpec)) indexBackUptoCard

/-- THE SECOND FORM's CARD OF 'stillroomlaw16.ResolveChecks'. -/
def resolveChecksUptoCard : Claim7 := { stood := { row := resolveChecksUptoRow, standIns := [], harness := (true, "2146e0fcac8f1ff1557a2c06cd2c17829491b18ac2c300ed89bfb54dea9d0700"), looks := true }, kinds := [], alts := [], laidByText := true, laidKinds := [.data, .data, .data, .data, .pinned], laidTests := true, laidLooks := .later }
def ResolveChecksUptoCardSaid : Prop := Claim7.holds Tryz.pinned (.plain (OpenSpec.upto resolveChecksSpec)) resolveChecksUptoCard
end Rows
end Go.Proofs.YtkbhckjpmgkgjaaGreatDoor
