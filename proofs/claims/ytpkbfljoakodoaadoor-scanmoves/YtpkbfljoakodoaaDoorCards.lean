/-
  DERIVED. GIVEN WITH THE SEED: THE CARDS: each row of YtpkbfljoakodoaaDoorRows.lean that lists a variable, with what it lists TIED to the program's text (the seventh form; the later family's looks); each row that meets fmt, with fmt's text TOLD by the authors' own Lean function (tested against real Go, not proved from fmt's source: count such statements apart). THE CARD IS WHAT COUNTS. Prove the row's statement (the work); the ties are given (YtpkbfljoakodoaaDoorTie.lean); close each card by the builder's one call (the guide's Derived/Test/ToyasCard.lean, 'card_holds'). Laid BY PROGRAM, IN A SANDBOX (cutbox-door.mjs). By AI agents, Wed Nov 11 2026. No macro, syntax, notation, axiom, sorry.
-/
import Derived.Test.YtpkbfljoakodoaaDoorRows
import GoSem.ClaimSeven
namespace Go.Proofs.YtpkbfljoakodoaaDoor
namespace Rows

/-- THE TIED CARD OF 'stillroomlaw10.ScanFinds'. -/
def scanFindsCard : Claim7 := { stood := { row := scanFindsRow, standIns := [], harness := (true, "bc91ccf91c1a7ce16bba7cff6d12635e1857936619cedb847a3492c4763ac873"), looks := false }, kinds := [], alts := [], laidByText := true, laidKinds := [.data, .data], laidTests := true, laidLooks := .later }
def ScanFindsCardSaid : Prop := Claim7.holds Tryd.pinned (.plain (OpenSpec.ofChange scanFindsSpec)) scanFindsCard

/-- THE TIED CARD OF 'stillroomlaw10.ScanReplaces'. -/
def scanReplacesCard : Claim7 := { stood := { row := scanReplacesRow, standIns := [], harness := (true, "bc91ccf91c1a7ce16bba7cff6d12635e1857936619cedb847a3492c4763ac873"), looks := false }, kinds := [], alts := [], laidByText := true, laidKinds := [.data, .data, .data, .pinned], laidTests := true, laidLooks := .later }
def ScanReplacesCardSaid : Prop := Claim7.holds Tryd.pinned (.plain (OpenSpec.ofChange scanReplacesSpec)) scanReplacesCard

/-- THE TIED CARD OF 'stillroomlaw10.ScanMoves'. -/
def scanMovesCard : Claim7 := { stood := { row := scanMovesRow, standIns := [], harness := (true, "bc91ccf91c1a7ce16bba7cff6d12635e1857936619cedb847a3492c4763ac873"), looks := false }, kinds := [], alts := [], laidByText := true, laidKinds := [.data, .data, .data, .pinned], laidTests := true, laidLooks := .later }
def ScanMovesCardSaid : Prop := Claim7.holds Tryd.pinned (.plain (OpenSpec.ofChange scanMovesSpec)) scanMovesCard

/-- THE TIED CARD OF 'stillroomlaw10.ScanNames'. -/
def scanNamesCard : Claim7 := { stood := { row := scanNamesRow, standIns := [], harness := (true, "bc91ccf91c1a7ce16bba7cff6d12635e1857936619cedb847a3492c4763ac873"), looks := false }, kinds := [], alts := [], laidByText := true, laidKinds := [.data, .data], laidTests := true, laidLooks := .later }
def ScanNamesCardSaid : Prop := Claim7.holds Tryd.pinned (.plain (OpenSpec.ofChange scanNamesSpec)) scanNamesCard

/-- THE SECOND FORM's CARD OF 'stillroomlaw10.ScanFinds'. -/
def scanFindsUptoCard : Claim7 := { stood := { row := scanFindsUptoRow, standIns := [], harness := (true, "bc91ccf91c1a7ce16bba7cff6d12635e1857936619cedb847a3492c4763ac873"), looks := false }, kinds := [], alts := [], laidByText := true, laidKinds := [.data, .data], laidTests := true, laidLooks := .later }
def ScanFindsUptoCardSaid : Prop := Claim7.holds Tryd.pinned (.plain (OpenSpec.upto scanFindsSpec)) scanFindsUptoCard

/-- THE SECOND FORM's CARD OF 'stillroomlaw10.ScanReplaces'. -/
def scanReplacesUptoCard : Claim7 := { stood := { row := scanReplacesUptoRow, standIns := [], harness := (true, "bc91ccf91c1a7ce16bba7cff6d12635e1857936619cedb847a3492c4763ac873"), looks := false }, kinds := [], alts := [], laidByText := true, laidKinds := [.data, .data, .data, .pinned], laidTests := true, laidLooks := .later }
def ScanReplacesUptoCardSaid : Prop := Claim7.holds Tryd.pinned (.plain (OpenSpec.upto scanReplacesSpec)) scanReplacesUptoCard

/-- THE SECOND FORM's CARD OF 'stillroomlaw10.ScanMoves'. -/
def scanMovesUptoCard : Claim7 := { stood := { row := scanMovesUptoRow, standIns := [], harness := (true, "bc91ccf91c1a7ce16bba7cff6d12635e1857936619cedb847a3492c4763ac873"), looks := false }, kinds := [], alts := [], laidByText := true, laidKinds := [.data, .data, .data, .pinned], laidTests := true, laidLooks := .later }
def ScanMovesUptoCardSaid : Prop := Claim7.holds Tryd.pinned (.plain (OpenSpec.upto scanMovesSpec)) scanMovesUptoCard

/-- THE SECOND FORM's CARD OF 'stillroomlaw10.ScanNames'. -/
def scanNamesUptoCard : Claim7 := { stood := { row := scanNamesUptoRow, standIns := [], harness := (true, "bc91ccf91c1a7ce16bba7cff6d12635e1857936619cedb847a3492c4763ac873"), looks := false }, kinds := [], alts := [], laidByText := true, laidKinds := [.data, .data], laidTests := true, laidLooks := .later }
def ScanNamesUptoCardSaid : Prop := Claim7.holds Tryd.pinned (.plain (OpenSpec.upto scanNamesSpec)) scanNamesUptoCard
end Rows
end Go.Proofs.YtpkbfljoakodoaaDoor
