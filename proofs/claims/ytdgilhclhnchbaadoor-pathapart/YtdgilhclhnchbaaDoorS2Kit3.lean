/- The three tables out of the row's list. -/
import Derived.Test.YtdgilhclhnchbaaDoorS2Kit
import Derived.Test.YtdgilhclhnchbaaDoorS2Sum
import Derived.Stop.LaidErr
namespace Go.Proofs.YtdgilhclhnchbaaDoor.S2
open Go.ChangeShapes Go.WideShapes Go.ChangeAt Go.RowKit

theorem gF : Tryd.prog.globalNamed "stillroom/digest.firstWords" = some 1 := by kernel_rfl
theorem gFType : (Tryd.prog.globals[1]?).map (·.type) = some 59 := by kernel_rfl
theorem gK : Tryd.prog.globalNamed "stillroom/digest.roundWords" = some 3 := by kernel_rfl
theorem gKType : (Tryd.prog.globals[3]?).map (·.type) = some 78 := by kernel_rfl
theorem cells45 : Tryd.prog.cellsOf 59 = 8 := by kernel_rfl
theorem cells65 : Tryd.prog.cellsOf 78 = 64 := by kernel_rfl
theorem cells44 : Tryd.prog.cellsOf 58 = 1 := by kernel_rfl
def fws : List Int := [1779033703, 3144134277, 1013904242, 2773480762, 1359893119, 2600822924, 528734635, 1541459225]
theorem fws_arr : (fws.map fun z => Value.int .u32 z).toArray = st0.arr := rfl
theorem kcs_arr : (kcs.map fun z => Value.int .u32 z).toArray = ar4 kc 64 := by kernel_rfl

theorem table_first {W : World} {rest : List (String × DataW Unit)} (h : laidMet Tryd.prog (("stillroom/digest.firstWords", Rows.laid_stillroom_digest_firstWords) :: rest) W) : FTab W := by
  have h1 : Lib.TabIs Tryd.prog W "stillroom/digest.firstWords" .u32 fws := Lib.tabIs_of_head (rest := rest) gF gFType Tryd.underlying59 Tryd.underlying58 cells44 cells45 h
  unfold Lib.TabIs World.var? at h1
  rw [gF, fws_arr] at h1
  simp only [Option.bind_some] at h1
  split at h1
  · rename_i cs t fr hh
    exact ⟨t, fr, by rw [hh]; congr 1; congr 1; exact Option.some.inj h1⟩
  · cases h1
theorem table_round {W : World} {rest : List (String × DataW Unit)} (h : laidMet Tryd.prog (("stillroom/digest.roundWords", Rows.laid_stillroom_digest_roundWords) :: rest) W) : KTab W := by
  have h1 : Lib.TabIs Tryd.prog W "stillroom/digest.roundWords" .u32 kcs := Lib.tabIs_of_head (rest := rest) gK gKType Tryd.underlying78 Tryd.underlying58 cells44 cells65 h
  unfold Lib.TabIs World.var? at h1
  rw [gK, kcs_arr] at h1
  simp only [Option.bind_some] at h1
  split at h1
  · rename_i cs t fr hh
    exact ⟨t, fr, by rw [hh]; congr 1; congr 1; exact Option.some.inj h1⟩
  · cases h1
theorem table_signs {W : World} {rest : List (String × DataW Unit)} (h : laidMet Tryd.prog (("stillroom/bits.signs", Rows.laid_stillroom_bits_signs) :: rest) W) : Tab W := by
  have h1 : Lib.TabIs Tryd.prog W "stillroom/bits.signs" .u8 sgs := Lib.tabIs_of_head (rest := rest) gTab gTabType Tryd.underlying22 Tryd.underlying5 cells5 cells23 h
  unfold Lib.TabIs World.var? at h1
  rw [gTab] at h1
  simp only [Option.bind_some] at h1
  split at h1
  · rename_i cs t fr hh
    exact ⟨t, fr, by rw [hh]; congr 1; congr 1; exact Option.some.inj h1⟩
  · cases h1
/-- What the list of three gives. -/
theorem tables {W : World} (h : laidMetH Tryd.prog [("stillroom/bits.signs", Rows.laid_stillroom_bits_signs), ("stillroom/digest.firstWords", Rows.laid_stillroom_digest_firstWords), ("stillroom/digest.roundWords", Rows.laid_stillroom_digest_roundWords)] W) : Tab W ∧ FTab W ∧ KTab W := by
  have h' : laidMet Tryd.prog [("stillroom/bits.signs", Rows.laid_stillroom_bits_signs), ("stillroom/digest.firstWords", Rows.laid_stillroom_digest_firstWords), ("stillroom/digest.roundWords", Rows.laid_stillroom_digest_roundWords)] W := h
  exact ⟨table_signs h', table_first h'.tail, table_round h'.tail.tail⟩
/-- What the list of two gives. -/
theorem tables2 {W : World} (h : laidMetH Tryd.prog [("stillroom/digest.firstWords", Rows.laid_stillroom_digest_firstWords), ("stillroom/digest.roundWords", Rows.laid_stillroom_digest_roundWords)] W) : FTab W ∧ KTab W := by
  have h' : laidMet Tryd.prog [("stillroom/digest.firstWords", Rows.laid_stillroom_digest_firstWords), ("stillroom/digest.roundWords", Rows.laid_stillroom_digest_roundWords)] W := h
  exact ⟨table_first h', table_round h'.tail⟩
end Go.Proofs.YtdgilhclhnchbaaDoor.S2
