/-
  DERIVED. GIVEN WITH THE SEED: THE CARDS: each row of YtmpgfepkdhjibaaDoorRows.lean that lists a variable, with what it lists TIED to the program's text (the seventh form; the later family's looks); each row that meets fmt, with fmt's text TOLD by the authors' own Lean function (tested against real Go, not proved from fmt's source: count such statements apart). THE CARD IS WHAT COUNTS. Prove the row's statement (the work); the ties are given (YtmpgfepkdhjibaaDoorTie.lean); close each card by the builder's one call (the guide's Derived/Test/ToyasCard.lean, 'card_holds'). Laid BY PROGRAM, IN A SANDBOX (cutbox-door.mjs). By AI agents, Wed Nov 11 2026. No macro, syntax, notation, axiom, sorry.
-/
import Derived.Test.YtmpgfepkdhjibaaDoorRows
import GoSem.ClaimSeven
namespace Go.Proofs.YtmpgfepkdhjibaaDoor
namespace Rows

/-- THE TIED CARD OF 'stillroomlaw08.AtermPuts'. -/
def atermPutsCard : Claim7 := { stood := { row := atermPutsRow, standIns := [], harness := (true, "ceb79749f2e14f6721a35a86f2cc5c04058d31878b496f9435b59f3b59a60c59"), looks := true }, kinds := [], alts := [], laidByText := true, laidKinds := [.data], laidTests := true, laidLooks := .later }
def AtermPutsCardSaid : Prop := Claim7.holds Tryd.pinned (.plain (OpenSpec.ofChange atermPutsSpec)) atermPutsCard

/-- THE TIED CARD OF 'stillroomlaw08.AtermParses'. -/
def atermParsesCard : Claim7 := { stood := { row := atermParsesRow, standIns := [], harness := (true, "ceb79749f2e14f6721a35a86f2cc5c04058d31878b496f9435b59f3b59a60c59"), looks := true }, kinds := [], alts := [], laidByText := true, laidKinds := [.handle, .data], laidTests := true, laidLooks := .later }
def AtermParsesCardSaid : Prop := Claim7.holds Tryd.pinned (.plain (OpenSpec.ofChange atermParsesSpec)) atermParsesCard

/-- THE TIED CARD OF 'stillroomlaw08.AtermBack'. -/
def atermBackCard : Claim7 := { stood := { row := atermBackRow, standIns := [], harness := (true, "ceb79749f2e14f6721a35a86f2cc5c04058d31878b496f9435b59f3b59a60c59"), looks := true }, kinds := [], alts := [], laidByText := true, laidKinds := [.handle, .data], laidTests := true, laidLooks := .later }
def AtermBackCardSaid : Prop := Claim7.holds Tryd.pinned (.plain (OpenSpec.ofChange atermBackSpec)) atermBackCard

/-- THE TIED CARD OF 'stillroomlaw08.AtermQuotes'. -/
def atermQuotesCard : Claim7 := { stood := { row := atermQuotesRow, standIns := [], harness := (true, "ceb79749f2e14f6721a35a86f2cc5c04058d31878b496f9435b59f3b59a60c59"), looks := true }, kinds := [], alts := [], laidByText := true, laidKinds := [.data], laidTests := true, laidLooks := .later }
def AtermQuotesCardSaid : Prop := Claim7.holds Tryd.pinned (.plain (OpenSpec.ofChange atermQuotesSpec)) atermQuotesCard

/-- THE TIED CARD OF 'stillroomlaw08.AtermSorts'. -/
def atermSortsCard : Claim7 := { stood := { row := atermSortsRow, standIns := [], harness := (true, "ceb79749f2e14f6721a35a86f2cc5c04058d31878b496f9435b59f3b59a60c59"), looks := true }, kinds := [], alts := [], laidByText := true, laidKinds := [.data], laidTests := true, laidLooks := .later }
def AtermSortsCardSaid : Prop := Claim7.holds Tryd.pinned (.plain (OpenSpec.ofChange atermSortsSpec)) atermSortsCard

/-- THE SECOND FORM's CARD OF 'stillroomlaw08.AtermPuts'. -/
def atermPutsUptoCard : Claim7 := { stood := { row := atermPutsUptoRow, standIns := [], harness := (true, "ceb79749f2e14f6721a35a86f2cc5c04058d31878b496f9435b59f3b59a60c59"), looks := true }, kinds := [], alts := [], laidByText := true, laidKinds := [.data], laidTests := true, laidLooks := .later }
def AtermPutsUptoCardSaid : Prop := Claim7.holds Tryd.pinned (.plain (OpenSpec.upto atermPutsSpec)) atermPutsUptoCard

/-- THE SECOND FORM's CARD OF 'stillroomlaw08.AtermParses'. -/
def atermParsesUptoCard : Claim7 := { stood := { row := atermParsesUptoRow, standIns := [], harness := (true, "ceb79749f2e14f6721a35a86f2cc5c04058d31878b496f9435b59f3b59a60c59"), looks := true }, kinds := [], alts := [], laidByText := true, laidKinds := [.handle, .data], laidTests := true, laidLooks := .later }
def AtermParsesUptoCardSaid : Prop := Claim7.holds Tryd.pinned (.plain (OpenSpec.upto atermParsesSpec)) atermParsesUptoCard

/-- THE SECOND FORM's CARD OF 'stillroomlaw08.AtermBack'. -/
def atermBackUptoCard : Claim7 := { stood := { row := atermBackUptoRow, standIns := [], harness := (true, "ceb79749f2e14f6721a35a86f2cc5c04058d31878b496f9435b59f3b59a60c59"), looks := true }, kinds := [], alts := [], laidByText := true, laidKinds := [.handle, .data], laidTests := true, laidLooks := .later }
def AtermBackUptoCardSaid : Prop := Claim7.holds Tryd.pinned (.plain (OpenSpec.upto atermBackSpec)) atermBackUptoCard

/-- THE SECOND FORM's CARD OF 'stillroomlaw08.AtermQuotes'. -/
def atermQuotesUptoCard : Claim7 := { stood := { row := atermQuotesUptoRow, standIns := [], harness := (true, "ceb79749f2e14f6721a35a86f2cc5c04058d31878b496f9435b59f3b59a60c59"), looks := true }, kinds := [], alts := [], laidByText := true, laidKinds := [.data], laidTests := true, laidLooks := .later }
def AtermQuotesUptoCardSaid : Prop := Claim7.holds Tryd.pinned (.plain (OpenSpec.upto atermQuotesSpec)) atermQuotesUptoCard

/-- THE SECOND FORM's CARD OF 'stillroomlaw08.AtermSorts'. -/
def atermSortsUptoCard : Claim7 := { stood := { row := atermSortsUptoRow, standIns := [], harness := (true, "ceb79749f2e14f6721a35a86f2cc5c04058d31878b496f9435b59f3b59a60c59"), looks := true }, kinds := [], alts := [], laidByText := true, laidKinds := [.data], laidTests := true, laidLooks := .later }
def AtermSortsUptoCardSaid : Prop := Claim7.holds Tryd.pinned (.plain (OpenSpec.upto atermSortsSpec)) atermSortsUptoCard
end Rows
end Go.Proofs.YtmpgfepkdhjibaaDoor
