/-
  DERIVED. GIVEN WITH THE SEED: THE CARDS: each row of YtihemceilmcekaaDoorRows.lean that lists a variable, with what it lists TIED to the program's text (the seventh form; the later family's looks); each row that meets fmt, with fmt's text TOLD by the authors' own Lean function (tested against real Go, not proved from fmt's source: count such statements apart). THE CARD IS WHAT COUNTS. Prove the row's statement (the work); the ties are given (YtihemceilmcekaaDoorTie.lean); close each card by the builder's one call (the guide's Derived/Test/ToyasCard.lean, 'card_holds'). Laid BY PROGRAM, IN A SANDBOX (cutbox-door.mjs). By AI agents, Wed Nov 11 2026. No macro, syntax, notation, axiom, sorry.
-/
import Derived.Test.YtihemceilmcekaaDoorRows
import GoSem.ClaimSeven
namespace Go.Proofs.YtihemceilmcekaaDoor
namespace Rows

/-- THE TIED CARD OF 'stillroomlaw02.DigestSums'. -/
def digestSumsCard : Claim7 := { stood := { row := digestSumsRow, standIns := [], harness := (true, "70a0080b990b58f4c1af047b04170bd697e7d5cf201bbfe07b5ce72c0279bdc4"), looks := false }, kinds := [], alts := [], laidByText := true, laidKinds := [.data, .data, .data], laidTests := true, laidLooks := .later }
def DigestSumsCardSaid : Prop := Claim7.holds Tryd.pinned (.plain (OpenSpec.ofChange digestSumsSpec)) digestSumsCard

/-- THE TIED CARD OF 'stillroomlaw02.DigestParses'. -/
def digestParsesCard : Claim7 := { stood := { row := digestParsesRow, standIns := [], harness := (true, "70a0080b990b58f4c1af047b04170bd697e7d5cf201bbfe07b5ce72c0279bdc4"), looks := false }, kinds := [], alts := [], laidByText := true, laidKinds := [.data], laidTests := true, laidLooks := .later }
def DigestParsesCardSaid : Prop := Claim7.holds Tryd.pinned (.plain (OpenSpec.ofChange digestParsesSpec)) digestParsesCard

/-- THE TIED CARD OF 'stillroomlaw02.DigestBack'. -/
def digestBackCard : Claim7 := { stood := { row := digestBackRow, standIns := [], harness := (true, "70a0080b990b58f4c1af047b04170bd697e7d5cf201bbfe07b5ce72c0279bdc4"), looks := false }, kinds := [], alts := [], laidByText := true, laidKinds := [.data], laidTests := true, laidLooks := .later }
def DigestBackCardSaid : Prop := Claim7.holds Tryd.pinned (.plain (OpenSpec.ofChange digestBackSpec)) digestBackCard

/-- THE TIED CARD OF 'stillroomlaw02.DigestCounts'. -/
def digestCountsCard : Claim7 := { stood := { row := digestCountsRow, standIns := [], harness := (true, "70a0080b990b58f4c1af047b04170bd697e7d5cf201bbfe07b5ce72c0279bdc4"), looks := false }, kinds := [], alts := [], laidByText := true, laidKinds := [.data, .data], laidTests := true, laidLooks := .later }
def DigestCountsCardSaid : Prop := Claim7.holds Tryd.pinned (.plain (OpenSpec.ofChange digestCountsSpec)) digestCountsCard

/-- THE TIED CARD OF 'stillroomlaw02.DigestFolds'. -/
def digestFoldsCard : Claim7 := { stood := { row := digestFoldsRow, standIns := [], harness := (true, "70a0080b990b58f4c1af047b04170bd697e7d5cf201bbfe07b5ce72c0279bdc4"), looks := false }, kinds := [], alts := [], laidByText := true, laidKinds := [.data], laidTests := true, laidLooks := .later }
def DigestFoldsCardSaid : Prop := Claim7.holds Tryd.pinned (.plain (OpenSpec.ofChange digestFoldsSpec)) digestFoldsCard

/-- THE SECOND FORM's CARD OF 'stillroomlaw02.DigestSums'. -/
def digestSumsUptoCard : Claim7 := { stood := { row := digestSumsUptoRow, standIns := [], harness := (true, "70a0080b990b58f4c1af047b04170bd697e7d5cf201bbfe07b5ce72c0279bdc4"), looks := false }, kinds := [], alts := [], laidByText := true, laidKinds := [.data, .data, .data], laidTests := true, laidLooks := .later }
def DigestSumsUptoCardSaid : Prop := Claim7.holds Tryd.pinned (.plain (OpenSpec.upto digestSumsSpec)) digestSumsUptoCard

/-- THE SECOND FORM's CARD OF 'stillroomlaw02.DigestParses'. -/
def digestParsesUptoCard : Claim7 := { stood := { row := digestParsesUptoRow, standIns := [], harness := (true, "70a0080b990b58f4c1af047b04170bd697e7d5cf201bbfe07b5ce72c0279bdc4"), looks := false }, kinds := [], alts := [], laidByText := true, laidKinds := [.data], laidTests := true, laidLooks := .later }
def DigestParsesUptoCardSaid : Prop := Claim7.holds Tryd.pinned (.plain (OpenSpec.upto digestParsesSpec)) digestParsesUptoCard

/-- THE SECOND FORM's CARD OF 'stillroomlaw02.DigestBack'. -/
def digestBackUptoCard : Claim7 := { stood := { row := digestBackUptoRow, standIns := [], harness := (true, "70a0080b990b58f4c1af047b04170bd697e7d5cf201bbfe07b5ce72c0279bdc4"), looks := false }, kinds := [], alts := [], laidByText := true, laidKinds := [.data], laidTests := true, laidLooks := .later }
def DigestBackUptoCardSaid : Prop := Claim7.holds Tryd.pinned (.plain (OpenSpec.upto digestBackSpec)) digestBackUptoCard

/-- THE SECOND FORM's CARD OF 'stillroomlaw02.DigestCounts'. -/
def digestCountsUptoCard : Claim7 := { stood := { row := digestCountsUptoRow, standIns := [], harness := (true, "70a0080b990b58f4c1af047b04170bd697e7d5cf201bbfe07b5ce72c0279bdc4"), looks := false }, kinds := [], alts := [], laidByText := true, laidKinds := [.data, .data], laidTests := true, laidLooks := .later }
def DigestCountsUptoCardSaid : Prop := Claim7.holds Tryd.pinned (.plain (OpenSpec.upto digestCountsSpec)) digestCountsUptoCard

/-- THE SECOND FORM's CARD OF 'stillroomlaw02.DigestFolds'. -/
def digestFoldsUptoCard : Claim7 := { stood := { row := digestFoldsUptoRow, standIns := [], harness := (true, "70a0080b990b58f4c1af047b04170bd697e7d5cf201bbfe07b5ce72c0279bdc4"), looks := false }, kinds := [], alts := [], laidByText := true, laidKinds := [.data], laidTests := true, laidLooks := .later }
def DigestFoldsUptoCardSaid : Prop := Claim7.holds Tryd.pinned (.plain (OpenSpec.upto digestFoldsSpec)) digestFoldsUptoCard
end Rows
end Go.Proofs.YtihemceilmcekaaDoor
