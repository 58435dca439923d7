/-
  No cell of these rows narrows 'for every input' (looked for: loops, veiled, ifaces, maps, wideKeys, modest, calm, conditions, laid).
  DERIVED. THE GIVEN ROWS OF THIS SEAT. 5 by the template 'for every input the law returns true; each argument reads behind the call as it read before'; 0 by the template 'total and deterministic' (their statements: YthjmmlgcaigdfaaTotals.lean).
  GIVEN WITH THE SEED: the statements are not yours to turn. If you find one false, say at which input.
  Laid BY PROGRAM, IN A SANDBOX (cutbox-rows.mjs): the forced cells as the released guide's own fill.sh prints them over the translation 950829ad7c0b8341… (all of the seat's roots in one cut). By AI agents, Wed Nov 11 2026. No macro, syntax, notation, axiom, sorry.
-/
import Derived.Test.YthjmmlgcaigdfaaChecked
import GoSem.Claim
import GoSem.ClaimJoined
import GoSem.ClaimMapViews
import Derived.JoinedTies
import Derived.KernelRfl
namespace Go.Proofs.Ythjmmlgcaigdfaa
/- THE CELL 'sum', in the pinned program and in every row, IS THE sha256 OF THE DUMP (.gsa) THAT YthjmmlgcaigdfaaProg.lean LOADS. Nothing in Lean hashes anything: it is a label: what it is worth is what the hold of that sum in a sandbox is worth. -/
noncomputable def Try.pinned : Pinned := { name := "ythjmmlgcaigdfaa", sum := "950829ad7c0b8341cb1019decc0abe28dcc8469fd60cadbe7b4f14439c3a3817", checked := Try.checked }
namespace Rows
def none {H : Type} : Left H := { results := [], args := [] }

/-- 'stillroomlaw05.AllocPlays': WHATEVER THE INPUT: true; the input reads as it did. -/
def allocPlaysSpec : ChangeSpec := { name := "allocPlays", fn := fun _ => fun
  | [d1, d2] => { results := [.lit (.bool true)], args := [d1, d2] }
  | _ => none }
def allocPlaysRow : OpenClaim := { program := "ythjmmlgcaigdfaa", sum := "950829ad7c0b8341cb1019decc0abe28dcc8469fd60cadbe7b4f14439c3a3817", func := "stillroom/stillroomlaw05.AllocPlays", spec := "allocPlays", apart := false }
def AllocPlaysSaid : Prop := allocPlaysRow.holds Try.pinned (OpenSpec.ofChange allocPlaysSpec)

/-- ITS FALSE NEIGHBOUR: 'it returns false'. Refute it at one input. -/
def allocPlaysWrong : ChangeSpec := { name := "allocPlays", fn := fun _ => fun
  | [d1, d2] => { results := [.lit (.bool false)], args := [d1, d2] }
  | _ => none }
def AllocPlaysWrongFalsely : Prop := allocPlaysRow.holds Try.pinned (OpenSpec.ofChange allocPlaysWrong)

/-- 'stillroomlaw05.AllocReads': WHATEVER THE INPUT: true; the input reads as it did. -/
def allocReadsSpec : ChangeSpec := { name := "allocReads", fn := fun _ => fun
  | [d1, d2] => { results := [.lit (.bool true)], args := [d1, d2] }
  | _ => none }
def allocReadsRow : OpenClaim := { program := "ythjmmlgcaigdfaa", sum := "950829ad7c0b8341cb1019decc0abe28dcc8469fd60cadbe7b4f14439c3a3817", func := "stillroom/stillroomlaw05.AllocReads", spec := "allocReads", apart := false }
def AllocReadsSaid : Prop := allocReadsRow.holds Try.pinned (OpenSpec.ofChange allocReadsSpec)

/-- ITS FALSE NEIGHBOUR: 'it returns false'. Refute it at one input. -/
def allocReadsWrong : ChangeSpec := { name := "allocReads", fn := fun _ => fun
  | [d1, d2] => { results := [.lit (.bool false)], args := [d1, d2] }
  | _ => none }
def AllocReadsWrongFalsely : Prop := allocReadsRow.holds Try.pinned (OpenSpec.ofChange allocReadsWrong)

/-- 'stillroomlaw05.AllocNobody': WHATEVER THE INPUT: true; the input reads as it did. -/
def allocNobodySpec : ChangeSpec := { name := "allocNobody", fn := fun _ => fun
  | [d] => { results := [.lit (.bool true)], args := [d] }
  | _ => none }
def allocNobodyRow : OpenClaim := { program := "ythjmmlgcaigdfaa", sum := "950829ad7c0b8341cb1019decc0abe28dcc8469fd60cadbe7b4f14439c3a3817", func := "stillroom/stillroomlaw05.AllocNobody", spec := "allocNobody", apart := false }
def AllocNobodySaid : Prop := allocNobodyRow.holds Try.pinned (OpenSpec.ofChange allocNobodySpec)

/-- ITS FALSE NEIGHBOUR: 'it returns false'. Refute it at one input. -/
def allocNobodyWrong : ChangeSpec := { name := "allocNobody", fn := fun _ => fun
  | [d] => { results := [.lit (.bool false)], args := [d] }
  | _ => none }
def AllocNobodyWrongFalsely : Prop := allocNobodyRow.holds Try.pinned (OpenSpec.ofChange allocNobodyWrong)

/-- 'stillroomlaw05.AllocTakes': WHATEVER THE INPUT: true; the input reads as it did. -/
def allocTakesSpec : ChangeSpec := { name := "allocTakes", fn := fun _ => fun
  | [d1, d2] => { results := [.lit (.bool true)], args := [d1, d2] }
  | _ => none }
def allocTakesRow : OpenClaim := { program := "ythjmmlgcaigdfaa", sum := "950829ad7c0b8341cb1019decc0abe28dcc8469fd60cadbe7b4f14439c3a3817", func := "stillroom/stillroomlaw05.AllocTakes", spec := "allocTakes", apart := false }
def AllocTakesSaid : Prop := allocTakesRow.holds Try.pinned (OpenSpec.ofChange allocTakesSpec)

/-- ITS FALSE NEIGHBOUR: 'it returns false'. Refute it at one input. -/
def allocTakesWrong : ChangeSpec := { name := "allocTakes", fn := fun _ => fun
  | [d1, d2] => { results := [.lit (.bool false)], args := [d1, d2] }
  | _ => none }
def AllocTakesWrongFalsely : Prop := allocTakesRow.holds Try.pinned (OpenSpec.ofChange allocTakesWrong)

/-- 'stillroomlaw05.AllocCounts': WHATEVER THE INPUT: true; the input reads as it did. -/
def allocCountsSpec : ChangeSpec := { name := "allocCounts", fn := fun _ => fun
  | [d1, d2] => { results := [.lit (.bool true)], args := [d1, d2] }
  | _ => none }
def allocCountsRow : OpenClaim := { program := "ythjmmlgcaigdfaa", sum := "950829ad7c0b8341cb1019decc0abe28dcc8469fd60cadbe7b4f14439c3a3817", func := "stillroom/stillroomlaw05.AllocCounts", spec := "allocCounts", apart := false }
def AllocCountsSaid : Prop := allocCountsRow.holds Try.pinned (OpenSpec.ofChange allocCountsSpec)

/-- ITS FALSE NEIGHBOUR: 'it returns false'. Refute it at one input. -/
def allocCountsWrong : ChangeSpec := { name := "allocCounts", fn := fun _ => fun
  | [d1, d2] => { results := [.lit (.bool false)], args := [d1, d2] }
  | _ => none }
def AllocCountsWrongFalsely : Prop := allocCountsRow.holds Try.pinned (OpenSpec.ofChange allocCountsWrong)

/- THE SECOND FORM. 'bulk': how many values and letters a reading holds, each counted each time it is reached (what is shared counts as often as it is met; a slice's spare places count too). A statement '..UptoSaid' is the law's where the arguments, and the package variables that the reading takes, are together of bulk at most 1048576: NARROWER than '..Said'. Prove '..Said' where nothing that the law and all that it calls make is longer than what came in: it says more and counts as full. Else prove '..UptoSaid'. A law counts once. -/
mutual
def uptoBulk {H : Type} : DataW H → Nat
  | .lit (.string bytes) => bytes.length + 1
  | .lit _ => 1
  | .nil => 1
  | .ptr d => uptoBulk d + 1
  | .slice elems spare => uptoBulkAll elems + uptoBulkAll spare + 1
  | .agg parts => uptoBulkAll parts + 1
  | .iface _ d => uptoBulk d + 1
  | .map entries => uptoBulkEntries entries + 1
  | .held _ => 1
def uptoBulkAll {H : Type} : List (DataW H) → Nat
  | [] => 0
  | d :: r => uptoBulk d + uptoBulkAll r
def uptoBulkEntries {H : Type} : List (Lit × DataW H) → Nat
  | [] => 0
  | x :: r => uptoBulkEntry x + uptoBulkEntries r
def uptoBulkEntry {H : Type} : Lit × DataW H → Nat
  | (.string bytes, d) => bytes.length + uptoBulk d + 1
  | (_, d) => uptoBulk d + 1
 end
def uptoSmall : (H : Type) → List (DataW H) → Bool := fun _ ds => decide (uptoBulkAll ds ≤ 1048576)
def OpenSpec.upto (s : _root_.Go.ChangeSpec) : _root_.Go.OpenSpec := { _root_.Go.OpenSpec.ofChange s with cond := some uptoSmall }

/-- 'stillroomlaw05.AllocPlays', WHERE WHAT IT READS IS OF BULK AT MOST 1048576: true; the input reads as it did. -/
def allocPlaysUptoRow : OpenClaim := { program := "ythjmmlgcaigdfaa", sum := "950829ad7c0b8341cb1019decc0abe28dcc8469fd60cadbe7b4f14439c3a3817", func := "stillroom/stillroomlaw05.AllocPlays", spec := "allocPlays", apart := false, narrowed := true }
def AllocPlaysUptoSaid : Prop := allocPlaysUptoRow.holds Try.pinned (OpenSpec.upto allocPlaysSpec)

/-- 'stillroomlaw05.AllocReads', WHERE WHAT IT READS IS OF BULK AT MOST 1048576: true; the input reads as it did. -/
def allocReadsUptoRow : OpenClaim := { program := "ythjmmlgcaigdfaa", sum := "950829ad7c0b8341cb1019decc0abe28dcc8469fd60cadbe7b4f14439c3a3817", func := "stillroom/stillroomlaw05.AllocReads", spec := "allocReads", apart := false, narrowed := true }
def AllocReadsUptoSaid : Prop := allocReadsUptoRow.holds Try.pinned (OpenSpec.upto allocReadsSpec)

/-- 'stillroomlaw05.AllocNobody', WHERE WHAT IT READS IS OF BULK AT MOST 1048576: true; the input reads as it did. -/
def allocNobodyUptoRow : OpenClaim := { program := "ythjmmlgcaigdfaa", sum := "950829ad7c0b8341cb1019decc0abe28dcc8469fd60cadbe7b4f14439c3a3817", func := "stillroom/stillroomlaw05.AllocNobody", spec := "allocNobody", apart := false, narrowed := true }
def AllocNobodyUptoSaid : Prop := allocNobodyUptoRow.holds Try.pinned (OpenSpec.upto allocNobodySpec)

/-- 'stillroomlaw05.AllocTakes', WHERE WHAT IT READS IS OF BULK AT MOST 1048576: true; the input reads as it did. -/
def allocTakesUptoRow : OpenClaim := { program := "ythjmmlgcaigdfaa", sum := "950829ad7c0b8341cb1019decc0abe28dcc8469fd60cadbe7b4f14439c3a3817", func := "stillroom/stillroomlaw05.AllocTakes", spec := "allocTakes", apart := false, narrowed := true }
def AllocTakesUptoSaid : Prop := allocTakesUptoRow.holds Try.pinned (OpenSpec.upto allocTakesSpec)

/-- 'stillroomlaw05.AllocCounts', WHERE WHAT IT READS IS OF BULK AT MOST 1048576: true; the input reads as it did. -/
def allocCountsUptoRow : OpenClaim := { program := "ythjmmlgcaigdfaa", sum := "950829ad7c0b8341cb1019decc0abe28dcc8469fd60cadbe7b4f14439c3a3817", func := "stillroom/stillroomlaw05.AllocCounts", spec := "allocCounts", apart := false, narrowed := true }
def AllocCountsUptoSaid : Prop := allocCountsUptoRow.holds Try.pinned (OpenSpec.upto allocCountsSpec)

end Rows
end Go.Proofs.Ythjmmlgcaigdfaa
