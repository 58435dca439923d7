/-
  NARROWER THAN 'FOR EVERY INPUT', by the rows' own cells (each row's printed sentence says how): ObjectPlays: loops, laid · ObjectNobody: laid · ObjectClosed: loops, laid · ObjectHashes: loops, laid · ObjectSelf: laid.
  DERIVED. THE GIVEN ROWS OF THIS SEAT. 5 by the template 'for every input the law returns true; each argument reads behind the call as it read before'; 0 by the template 'total and deterministic' (their statements: YtppgidmeeaodkaaGreatDoorTotals.lean).
  GIVEN WITH THE SEED: the statements are not yours to turn. If you find one false, say at which input.
  Laid BY PROGRAM, IN A SANDBOX (cutbox-rows.mjs): the forced cells as the released guide's own fill.sh prints them over the translation 8a01436da1a4c071… (all of the seat's roots in one cut). By AI agents, Wed Nov 11 2026. No macro, syntax, notation, axiom, sorry.
-/
import Derived.Test.YtppgidmeeaodkaaGreatDoorChecked
import GoSem.PinnedTables
import GoSem.Claim
import GoSem.ClaimJoined
import GoSem.ClaimMapViews
import Derived.JoinedTies
import Derived.KernelRfl
namespace Go.Proofs.YtppgidmeeaodkaaGreatDoor
/- THE CELL 'sum', in the pinned program and in every row, IS THE sha256 OF THE DUMP (.gsa) THAT YtppgidmeeaodkaaGreatDoorProg.lean LOADS. Nothing in Lean hashes anything: it is a label: what it is worth is what the hold of that sum in a sandbox is worth. -/
noncomputable def Tryz.pinned : Pinned := { name := "ytppgidmeeaodkaagreatdoor", sum := "8a01436da1a4c07174c6e75d060893fdabeaaa7dc9783a798ec602a781e8abe9", checked := Tryz.checked }
namespace Rows
def none {H : Type} : Left H := { results := [], args := [] }

/- WHAT THE LISTED PACKAGE-LEVEL VARIABLES READ AS WHEN THE CALL BEGINS. Each datum BY PROGRAM (the guide's laid-datum.mjs) off the statement by which the dump's own 'gosem.cut.vars' lays the variable. In a bare row this is a premise. The card (YtppgidmeeaodkaaGreatDoorCards.lean) ties it to the program's text. -/
def laid_unicode_utf8_acceptRanges {H : Type} : DataW H := .agg [.agg [.lit (.int .u8 128), .lit (.int .u8 191)], .agg [.lit (.int .u8 160), .lit (.int .u8 191)], .agg [.lit (.int .u8 128), .lit (.int .u8 159)], .agg [.lit (.int .u8 144), .lit (.int .u8 191)], .agg [.lit (.int .u8 128), .lit (.int .u8 143)], .agg [.lit (.int .u8 0), .lit (.int .u8 0)], .agg [.lit (.int .u8 0), .lit (.int .u8 0)], .agg [.lit (.int .u8 0), .lit (.int .u8 0)], .agg [.lit (.int .u8 0), .lit (.int .u8 0)], .agg [.lit (.int .u8 0), .lit (.int .u8 0)], .agg [.lit (.int .u8 0), .lit (.int .u8 0)], .agg [.lit (.int .u8 0), .lit (.int .u8 0)], .agg [.lit (.int .u8 0), .lit (.int .u8 0)], .agg [.lit (.int .u8 0), .lit (.int .u8 0)], .agg [.lit (.int .u8 0), .lit (.int .u8 0)], .agg [.lit (.int .u8 0), .lit (.int .u8 0)]]
def laid_errors_errorType {H : Type} : DataW H := .iface "internal/reflectlite.rtype" (.agg [.ptr (.lit (.string [101, 114, 114, 111, 114]))])
def laid_stillroom_bits_signs {H : Type} : DataW H := .agg [.lit (.int .u8 48), .lit (.int .u8 49), .lit (.int .u8 50), .lit (.int .u8 51), .lit (.int .u8 52), .lit (.int .u8 53), .lit (.int .u8 54), .lit (.int .u8 55), .lit (.int .u8 56), .lit (.int .u8 57), .lit (.int .u8 97), .lit (.int .u8 98), .lit (.int .u8 99), .lit (.int .u8 100), .lit (.int .u8 102), .lit (.int .u8 103), .lit (.int .u8 104), .lit (.int .u8 105), .lit (.int .u8 106), .lit (.int .u8 107), .lit (.int .u8 108), .lit (.int .u8 109), .lit (.int .u8 110), .lit (.int .u8 112), .lit (.int .u8 113), .lit (.int .u8 114), .lit (.int .u8 115), .lit (.int .u8 118), .lit (.int .u8 119), .lit (.int .u8 120), .lit (.int .u8 121), .lit (.int .u8 122)]
def laid_stillroom_digest_firstWords {H : Type} : DataW H := .agg [.lit (.int .u32 1779033703), .lit (.int .u32 3144134277), .lit (.int .u32 1013904242), .lit (.int .u32 2773480762), .lit (.int .u32 1359893119), .lit (.int .u32 2600822924), .lit (.int .u32 528734635), .lit (.int .u32 1541459225)]
def laid_stillroom_digest_roundWords {H : Type} : DataW H := .agg [.lit (.int .u32 1116352408), .lit (.int .u32 1899447441), .lit (.int .u32 3049323471), .lit (.int .u32 3921009573), .lit (.int .u32 961987163), .lit (.int .u32 1508970993), .lit (.int .u32 2453635748), .lit (.int .u32 2870763221), .lit (.int .u32 3624381080), .lit (.int .u32 310598401), .lit (.int .u32 607225278), .lit (.int .u32 1426881987), .lit (.int .u32 1925078388), .lit (.int .u32 2162078206), .lit (.int .u32 2614888103), .lit (.int .u32 3248222580), .lit (.int .u32 3835390401), .lit (.int .u32 4022224774), .lit (.int .u32 264347078), .lit (.int .u32 604807628), .lit (.int .u32 770255983), .lit (.int .u32 1249150122), .lit (.int .u32 1555081692), .lit (.int .u32 1996064986), .lit (.int .u32 2554220882), .lit (.int .u32 2821834349), .lit (.int .u32 2952996808), .lit (.int .u32 3210313671), .lit (.int .u32 3336571891), .lit (.int .u32 3584528711), .lit (.int .u32 113926993), .lit (.int .u32 338241895), .lit (.int .u32 666307205), .lit (.int .u32 773529912), .lit (.int .u32 1294757372), .lit (.int .u32 1396182291), .lit (.int .u32 1695183700), .lit (.int .u32 1986661051), .lit (.int .u32 2177026350), .lit (.int .u32 2456956037), .lit (.int .u32 2730485921), .lit (.int .u32 2820302411), .lit (.int .u32 3259730800), .lit (.int .u32 3345764771), .lit (.int .u32 3516065817), .lit (.int .u32 3600352804), .lit (.int .u32 4094571909), .lit (.int .u32 275423344), .lit (.int .u32 430227734), .lit (.int .u32 506948616), .lit (.int .u32 659060556), .lit (.int .u32 883997877), .lit (.int .u32 958139571), .lit (.int .u32 1322822218), .lit (.int .u32 1537002063), .lit (.int .u32 1747873779), .lit (.int .u32 1955562222), .lit (.int .u32 2024104815), .lit (.int .u32 2227730452), .lit (.int .u32 2361852424), .lit (.int .u32 2428436474), .lit (.int .u32 2756734187), .lit (.int .u32 3204031479), .lit (.int .u32 3329325298)]
def laid_stillroom_path_nameBytes {H : Type} : DataW H := .agg [.agg [.lit (.int .u8 97), .lit (.int .u8 122)], .agg [.lit (.int .u8 65), .lit (.int .u8 90)], .agg [.lit (.int .u8 48), .lit (.int .u8 57)], .agg [.lit (.int .u8 43), .lit (.int .u8 43)], .agg [.lit (.int .u8 45), .lit (.int .u8 45)], .agg [.lit (.int .u8 46), .lit (.int .u8 46)], .agg [.lit (.int .u8 95), .lit (.int .u8 95)]]
/-- One of Go's own tables, pinned by name: the form's constant. -/
def laid_unicode_utf8_first : DataW Unit := Go.Pinned.utf8First

/-- 'stillroomlaw11.ObjectPlays': WHATEVER THE INPUT: true; the input reads as it did. -/
def objectPlaysSpec : ChangeSpec := { name := "objectPlays", fn := fun _ => fun
  | [d] => { results := [.lit (.bool true)], args := [d] }
  | _ => none }
def objectPlaysRow : OpenClaim := { program := "ytppgidmeeaodkaagreatdoor", sum := "8a01436da1a4c07174c6e75d060893fdabeaaa7dc9783a798ec602a781e8abe9", func := "stillroom/stillroomlaw11.ObjectPlays", spec := "objectPlays", inPlace := ["internal/reflectlite.ValueOf", "(internal/reflectlite.Value).Type", "(internal/reflectlite.Value).IsNil", "internal/reflectlite.TypeOf", "(internal/reflectlite.Value).Elem", "(internal/reflectlite.Value).Set", "internal/bytealg.CountString", "internal/bytealg.IndexByteString", "internal/bytealg.IndexString"], unfollowed := true, recurses := true, named := ["errors.errorType", "unicode/utf8.first", "unicode/utf8.acceptRanges", "internal/bytealg.MaxLen", "stillroom/bits.signs", "stillroom/path.nameBytes", "stillroom/digest.firstWords", "stillroom/digest.roundWords"], loops := true, apart := false, laid := [("unicode/utf8.acceptRanges", laid_unicode_utf8_acceptRanges), ("errors.errorType", laid_errors_errorType), ("stillroom/bits.signs", laid_stillroom_bits_signs), ("stillroom/digest.firstWords", laid_stillroom_digest_firstWords), ("stillroom/digest.roundWords", laid_stillroom_digest_roundWords), ("stillroom/path.nameBytes", laid_stillroom_path_nameBytes), ("unicode/utf8.first", laid_unicode_utf8_first)] }
def ObjectPlaysSaid : Prop := objectPlaysRow.holds Tryz.pinned (OpenSpec.ofChange objectPlaysSpec)

/-- ITS FALSE NEIGHBOUR: 'it returns false'. Refute it at one input. -/
def objectPlaysWrong : ChangeSpec := { name := "objectPlays", fn := fun _ => fun
  | [d] => { results := [.lit (.bool false)], args := [d] }
  | _ => none }
def ObjectPlaysWrongFalsely : Prop := objectPlaysRow.holds Tryz.pinned (OpenSpec.ofChange objectPlaysWrong)

/-- 'stillroomlaw11.ObjectNobody': WHATEVER THE INPUT: true; the input reads as it did. -/
def objectNobodySpec : ChangeSpec := { name := "objectNobody", fn := fun _ => fun
  | [d] => { results := [.lit (.bool true)], args := [d] }
  | _ => none }
def objectNobodyRow : OpenClaim := { program := "ytppgidmeeaodkaagreatdoor", sum := "8a01436da1a4c07174c6e75d060893fdabeaaa7dc9783a798ec602a781e8abe9", func := "stillroom/stillroomlaw11.ObjectNobody", spec := "objectNobody", inPlace := ["internal/bytealg.CountString", "internal/bytealg.IndexByteString", "internal/bytealg.IndexString", "internal/reflectlite.TypeOf"], unfollowed := true, recurses := true, named := ["stillroom/bits.signs", "stillroom/path.nameBytes", "unicode/utf8.first", "unicode/utf8.acceptRanges", "internal/bytealg.MaxLen", "stillroom/digest.firstWords", "stillroom/digest.roundWords"], apart := false, laid := [("unicode/utf8.acceptRanges", laid_unicode_utf8_acceptRanges), ("stillroom/bits.signs", laid_stillroom_bits_signs), ("stillroom/digest.firstWords", laid_stillroom_digest_firstWords), ("stillroom/digest.roundWords", laid_stillroom_digest_roundWords), ("stillroom/path.nameBytes", laid_stillroom_path_nameBytes), ("unicode/utf8.first", laid_unicode_utf8_first)] }
def ObjectNobodySaid : Prop := objectNobodyRow.holds Tryz.pinned (OpenSpec.ofChange objectNobodySpec)

/-- ITS FALSE NEIGHBOUR: 'it returns false'. Refute it at one input. -/
def objectNobodyWrong : ChangeSpec := { name := "objectNobody", fn := fun _ => fun
  | [d] => { results := [.lit (.bool false)], args := [d] }
  | _ => none }
def ObjectNobodyWrongFalsely : Prop := objectNobodyRow.holds Tryz.pinned (OpenSpec.ofChange objectNobodyWrong)

/-- 'stillroomlaw11.ObjectClosed': WHATEVER THE INPUT: true; the input reads as it did. -/
def objectClosedSpec : ChangeSpec := { name := "objectClosed", fn := fun _ => fun
  | [d] => { results := [.lit (.bool true)], args := [d] }
  | _ => none }
def objectClosedRow : OpenClaim := { program := "ytppgidmeeaodkaagreatdoor", sum := "8a01436da1a4c07174c6e75d060893fdabeaaa7dc9783a798ec602a781e8abe9", func := "stillroom/stillroomlaw11.ObjectClosed", spec := "objectClosed", inPlace := ["internal/reflectlite.ValueOf", "(internal/reflectlite.Value).Type", "(internal/reflectlite.Value).IsNil", "internal/reflectlite.TypeOf", "(internal/reflectlite.Value).Elem", "(internal/reflectlite.Value).Set", "internal/bytealg.CountString", "internal/bytealg.IndexByteString", "internal/bytealg.IndexString"], unfollowed := true, recurses := true, named := ["errors.errorType", "unicode/utf8.first", "unicode/utf8.acceptRanges", "internal/bytealg.MaxLen", "stillroom/bits.signs", "stillroom/path.nameBytes", "stillroom/digest.firstWords", "stillroom/digest.roundWords"], loops := true, apart := false, laid := [("unicode/utf8.acceptRanges", laid_unicode_utf8_acceptRanges), ("errors.errorType", laid_errors_errorType), ("stillroom/bits.signs", laid_stillroom_bits_signs), ("stillroom/digest.firstWords", laid_stillroom_digest_firstWords), ("stillroom/digest.roundWords", laid_stillroom_digest_roundWords), ("stillroom/path.nameBytes", laid_stillroom_path_nameBytes), ("unicode/utf8.first", laid_unicode_utf8_first)] }
def ObjectClosedSaid : Prop := objectClosedRow.holds Tryz.pinned (OpenSpec.ofChange objectClosedSpec)

/-- ITS FALSE NEIGHBOUR: 'it returns false'. Refute it at one input. -/
def objectClosedWrong : ChangeSpec := { name := "objectClosed", fn := fun _ => fun
  | [d] => { results := [.lit (.bool false)], args := [d] }
  | _ => none }
def ObjectClosedWrongFalsely : Prop := objectClosedRow.holds Tryz.pinned (OpenSpec.ofChange objectClosedWrong)

/-- 'stillroomlaw11.ObjectHashes': WHATEVER THE INPUT: true; the input reads as it did. -/
def objectHashesSpec : ChangeSpec := { name := "objectHashes", fn := fun _ => fun
  | [d1, d2] => { results := [.lit (.bool true)], args := [d1, d2] }
  | _ => none }
def objectHashesRow : OpenClaim := { program := "ytppgidmeeaodkaagreatdoor", sum := "8a01436da1a4c07174c6e75d060893fdabeaaa7dc9783a798ec602a781e8abe9", func := "stillroom/stillroomlaw11.ObjectHashes", spec := "objectHashes", inPlace := ["internal/reflectlite.ValueOf", "(internal/reflectlite.Value).Type", "(internal/reflectlite.Value).IsNil", "internal/reflectlite.TypeOf", "(internal/reflectlite.Value).Elem", "(internal/reflectlite.Value).Set", "internal/bytealg.CountString", "internal/bytealg.IndexByteString", "internal/bytealg.IndexString"], unfollowed := true, recurses := true, named := ["errors.errorType", "unicode/utf8.first", "unicode/utf8.acceptRanges", "internal/bytealg.MaxLen", "stillroom/bits.signs", "stillroom/path.nameBytes", "stillroom/digest.firstWords", "stillroom/digest.roundWords"], loops := true, apart := false, laid := [("unicode/utf8.acceptRanges", laid_unicode_utf8_acceptRanges), ("errors.errorType", laid_errors_errorType), ("stillroom/bits.signs", laid_stillroom_bits_signs), ("stillroom/digest.firstWords", laid_stillroom_digest_firstWords), ("stillroom/digest.roundWords", laid_stillroom_digest_roundWords), ("stillroom/path.nameBytes", laid_stillroom_path_nameBytes), ("unicode/utf8.first", laid_unicode_utf8_first)] }
def ObjectHashesSaid : Prop := objectHashesRow.holds Tryz.pinned (OpenSpec.ofChange objectHashesSpec)

/-- ITS FALSE NEIGHBOUR: 'it returns false'. Refute it at one input. -/
def objectHashesWrong : ChangeSpec := { name := "objectHashes", fn := fun _ => fun
  | [d1, d2] => { results := [.lit (.bool false)], args := [d1, d2] }
  | _ => none }
def ObjectHashesWrongFalsely : Prop := objectHashesRow.holds Tryz.pinned (OpenSpec.ofChange objectHashesWrong)

/-- 'stillroomlaw11.ObjectSelf': WHATEVER THE INPUT: true; the input reads as it did. -/
def objectSelfSpec : ChangeSpec := { name := "objectSelf", fn := fun _ => fun
  | [d1, d2, d3] => { results := [.lit (.bool true)], args := [d1, d2, d3] }
  | _ => none }
def objectSelfRow : OpenClaim := { program := "ytppgidmeeaodkaagreatdoor", sum := "8a01436da1a4c07174c6e75d060893fdabeaaa7dc9783a798ec602a781e8abe9", func := "stillroom/stillroomlaw11.ObjectSelf", spec := "objectSelf", inPlace := ["internal/reflectlite.ValueOf", "(internal/reflectlite.Value).Type", "(internal/reflectlite.Value).IsNil", "internal/reflectlite.TypeOf", "(internal/reflectlite.Value).Elem", "(internal/reflectlite.Value).Set", "internal/bytealg.CountString", "internal/bytealg.IndexByteString", "internal/bytealg.IndexString"], unfollowed := true, recurses := true, named := ["errors.errorType", "unicode/utf8.first", "unicode/utf8.acceptRanges", "internal/bytealg.MaxLen", "stillroom/bits.signs", "stillroom/path.nameBytes", "stillroom/digest.firstWords", "stillroom/digest.roundWords"], apart := false, laid := [("unicode/utf8.acceptRanges", laid_unicode_utf8_acceptRanges), ("errors.errorType", laid_errors_errorType), ("stillroom/bits.signs", laid_stillroom_bits_signs), ("stillroom/digest.firstWords", laid_stillroom_digest_firstWords), ("stillroom/digest.roundWords", laid_stillroom_digest_roundWords), ("stillroom/path.nameBytes", laid_stillroom_path_nameBytes), ("unicode/utf8.first", laid_unicode_utf8_first)] }
def ObjectSelfSaid : Prop := objectSelfRow.holds Tryz.pinned (OpenSpec.ofChange objectSelfSpec)

/-- ITS FALSE NEIGHBOUR: 'it returns false'. Refute it at one input. -/
def objectSelfWrong : ChangeSpec := { name := "objectSelf", fn := fun _ => fun
  | [d1, d2, d3] => { results := [.lit (.bool false)], args := [d1, d2, d3] }
  | _ => none }
def ObjectSelfWrongFalsely : Prop := objectSelfRow.holds Tryz.pinned (OpenSpec.ofChange objectSelfWrong)

/- THE SECOND FORM. 'bulk': how many values and letters a reading holds, each counted each time it is reached (what is shared counts as often as it is met; a slice's spare places count too). A statement '..UptoSaid' is the law's where the arguments, and the package variables that the reading takes, are together of bulk at most 1048576: NARROWER than '..Said'. Prove '..Said' where nothing that the law and all that it calls make is longer than what came in: it says more and counts as full. Else prove '..UptoSaid'. A law counts once. -/
mutual
def uptoBulk {H : Type} : DataW H → Nat
  | .lit (.string bytes) => bytes.length + 1
  | .lit _ => 1
  | .nil => 1
  | .ptr d => uptoBulk d + 1
  | .slice elems spare => uptoBulkAll elems + uptoBulkAll spare + 1
  | .agg parts => uptoBulkAll parts + 1
  | .iface _ d => uptoBulk d + 1
  | .map entries => uptoBulkEntries entries + 1
  | .held _ => 1
def uptoBulkAll {H : Type} : List (DataW H) → Nat
  | [] => 0
  | d :: r => uptoBulk d + uptoBulkAll r
def uptoBulkEntries {H : Type} : List (Lit × DataW H) → Nat
  | [] => 0
  | x :: r => uptoBulkEntry x + uptoBulkEntries r
def uptoBulkEntry {H : Type} : Lit × DataW H → Nat
  | (.string bytes, d) => bytes.length + uptoBulk d + 1
  | (_, d) => uptoBulk d + 1
 end
def uptoSmall : (H : Type) → List (DataW H) → Bool := fun _ ds => decide (uptoBulkAll ds ≤ 1048576)
def OpenSpec.upto (s : _root_.Go.ChangeSpec) : _root_.Go.OpenSpec := { _root_.Go.OpenSpec.ofChange s with cond := some uptoSmall }

/-- 'stillroomlaw11.ObjectPlays', WHERE WHAT IT READS IS OF BULK AT MOST 1048576: true; the input reads as it did. -/
def objectPlaysUptoRow : OpenClaim := { program := "ytppgidmeeaodkaagreatdoor", sum := "8a01436da1a4c07174c6e75d060893fdabeaaa7dc9783a798ec602a781e8abe9", func := "stillroom/stillroomlaw11.ObjectPlays", spec := "objectPlays", inPlace := ["internal/reflectlite.ValueOf", "(internal/reflectlite.Value).Type", "(internal/reflectlite.Value).IsNil", "internal/reflectlite.TypeOf", "(internal/reflectlite.Value).Elem", "(internal/reflectlite.Value).Set", "internal/bytealg.CountString", "internal/bytealg.IndexByteString", "internal/bytealg.IndexString"], unfollowed := true, recurses := true, named := ["errors.errorType", "unicode/utf8.first", "unicode/utf8.acceptRanges", "internal/bytealg.MaxLen", "stillroom/bits.signs", "stillroom/path.nameBytes", "stillroom/digest.firstWords", "stillroom/digest.roundWords"], loops := true, apart := false, laid := [("unicode/utf8.acceptRanges", laid_unicode_utf8_acceptRanges), ("errors.errorType", laid_errors_errorType), ("stillroom/bits.signs", laid_stillroom_bits_signs), ("stillroom/digest.firstWords", laid_stillroom_digest_firstWords), ("stillroom/digest.roundWords", laid_stillroom_digest_roundWords), ("stillroom/path.nameBytes", laid_stillroom_path_nameBytes), ("unicode/utf8.first", laid_unicode_utf8_first)], narrowed := true }
def ObjectPlaysUptoSaid : Prop := objectPlaysUptoRow.holds Tryz.pinned (OpenSpec.upto objectPlaysSpec)

/-- 'stillroomlaw11.ObjectNobody', WHERE WHAT IT READS IS OF BULK AT MOST 1048576: true; the input reads as it did. -/
def objectNobodyUptoRow : OpenClaim := { program := "ytppgidmeeaodkaagreatdoor", sum := "8a01436da1a4c07174c6e75d060893fdabeaaa7dc9783a798ec602a781e8abe9", func := "stillroom/stillroomlaw11.ObjectNobody", spec := "objectNobody", inPlace := ["internal/bytealg.CountString", "internal/bytealg.IndexByteString", "internal/bytealg.IndexString", "internal/reflectlite.TypeOf"], unfollowed := true, recurses := true, named := ["stillroom/bits.signs", "stillroom/path.nameBytes", "unicode/utf8.first", "unicode/utf8.acceptRanges", "internal/bytealg.MaxLen", "stillroom/digest.firstWords", "stillroom/digest.roundWords"], apart := false, laid := [("unicode/utf8.acceptRanges", laid_unicode_utf8_acceptRanges), ("stillroom/bits.signs", laid_stillroom_bits_signs), ("stillroom/digest.firstWords", laid_stillroom_digest_firstWords), ("stillroom/digest.roundWords", laid_stillroom_digest_roundWords), ("stillroom/path.nameBytes", laid_stillroom_path_nameBytes), ("unicode/utf8.first", laid_unicode_utf8_first)], narrowed := true }
def ObjectNobodyUptoSaid : Prop := objectNobodyUptoRow.holds Tryz.pinned (OpenSpec.upto objectNobodySpec)

/-- 'stillroomlaw11.ObjectClosed', WHERE WHAT IT READS IS OF BULK AT MOST 1048576: true; the input reads as it did. -/
def objectClosedUptoRow : OpenClaim := { program := "ytppgidmeeaodkaagreatdoor", sum := "8a01436da1a4c07174c6e75d060893fdabeaaa7dc9783a798ec602a781e8abe9", func := "stillroom/stillroomlaw11.ObjectClosed", spec := "objectClosed", inPlace := ["internal/reflectlite.ValueOf", "(internal/reflectlite.Value).Type", "(internal/reflectlite.Value).IsNil", "internal/reflectlite.TypeOf", "(internal/reflectlite.Value).Elem", "(internal/reflectlite.Value).Set", "internal/bytealg.CountString", "internal/bytealg.IndexByteString", "internal/bytealg.IndexString"], unfollowed := true, recurses := true, named := ["errors.errorType", "unicode/utf8.first", "unicode/utf8.acceptRanges", "internal/bytealg.MaxLen", "stillroom/bits.signs", "stillroom/path.nameBytes", "stillroom/digest.firstWords", "stillroom/digest.roundWords"], loops := true, apart := false, laid := [("unicode/utf8.acceptRanges", laid_unicode_utf8_acceptRanges), ("errors.errorType", laid_errors_errorType), ("stillroom/bits.signs", laid_stillroom_bits_signs), ("stillroom/digest.firstWords", laid_stillroom_digest_firstWords), ("stillroom/digest.roundWords", laid_stillroom_digest_roundWords), ("stillroom/path.nameBytes", laid_stillroom_path_nameBytes), ("unicode/utf8.first", laid_unicode_utf8_first)], narrowed := true }
def ObjectClosedUptoSaid : Prop := objectClosedUptoRow.holds Tryz.pinned (OpenSpec.upto objectClosedSpec)

/-- 'stillroomlaw11.ObjectHashes', WHERE WHAT IT READS IS OF BULK AT MOST 1048576: true; the input reads as it did. -/
def objectHashesUptoRow : OpenClaim := { program := "ytppgidmeeaodkaagreatdoor", sum := "8a01436da1a4c07174c6e75d060893fdabeaaa7dc9783a798ec602a781e8abe9", func := "stillroom/stillroomlaw11.ObjectHashes", spec := "objectHashes", inPlace := ["internal/reflectlite.ValueOf", "(internal/reflectlite.Value).Type", "(internal/reflectlite.Value).IsNil", "internal/reflectlite.TypeOf", "(internal/reflectlite.Value).Elem", "(internal/reflectlite.Value).Set", "internal/bytealg.CountString", "internal/bytealg.IndexByteString", "internal/bytealg.IndexString"], unfollowed := true, recurses := true, named := ["errors.errorType", "unicode/utf8.first", "unicode/utf8.acceptRanges", "internal/bytealg.MaxLen", "stillroom/bits.signs", "stillroom/path.nameBytes", "stillroom/digest.firstWords", "stillroom/digest.roundWords"], loops := true, apart := false, laid := [("unicode/utf8.acceptRanges", laid_unicode_utf8_acceptRanges), ("errors.errorType", laid_errors_errorType), ("stillroom/bits.signs", laid_stillroom_bits_signs), ("stillroom/digest.firstWords", laid_stillroom_digest_firstWords), ("stillroom/digest.roundWords", laid_stillroom_digest_roundWords), ("stillroom/path.nameBytes", laid_stillroom_path_nameBytes), ("unicode/utf8.first", laid_unicode_utf8_first)], narrowed := true }
def ObjectHashesUptoSaid : Prop := objectHashesUptoRow.holds Tryz.pinned (OpenSpec.upto objectHashesSpec)

/-- 'stillroomlaw11.ObjectSelf', WHERE WHAT IT READS IS OF BULK AT MOST 1048576: true; the input reads as it did. -/
def objectSelfUptoRow : OpenClaim := { program := "ytppgidmeeaodkaagreatdoor", sum := "8a01436da1a4c07174c6e75d060893fdabeaaa7dc9783a798ec602a781e8abe9", func := "stillroom/stillroomlaw11.ObjectSelf", spec := "objectSelf", inPlace := ["internal/reflectlite.ValueOf", "(internal/reflectlite.Value).Type", "(internal/reflectlite.Value).IsNil", "internal/reflectlite.TypeOf", "(internal/reflectlite.Value).Elem", "(internal/reflectlite.Value).Set", "internal/bytealg.CountString", "internal/bytealg.IndexByteString", "internal/bytealg.IndexString"], unfollowed := true, recurses := true, named := ["errors.errorType", "unicode/utf8.first", "unicode/utf8.acceptRanges", "internal/bytealg.MaxLen", "stillroom/bits.signs", "stillroom/path.nameBytes", "stillroom/digest.firstWords", "stillroom/digest.roundWords"], apart := false, laid := [("unicode/utf8.acceptRanges", laid_unicode_utf8_acceptRanges), ("errors.errorType", laid_errors_errorType), ("stillroom/bits.signs", laid_stillroom_bits_signs), ("stillroom/digest.firstWords", laid_stillroom_digest_firstWords), ("stillroom/digest.roundWords", laid_stillroom_digest_roundWords), ("stillroom/path.nameBytes", laid_stillroom_path_nameBytes), ("unicode/utf8.first", laid_unicode_utf8_first)], narrowed := true }
def ObjectSelfUptoSaid : Prop := objectSelfUptoRow.holds Tryz.pinned (OpenSpec.upto objectSelfSpec)

end Rows
end Go.Proofs.YtppgidmeeaodkaaGreatDoor
