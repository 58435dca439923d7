/- My own work: the table of tens out of the row's list; what the law VersionBack is handed, opened. -/
import Derived.Test.YtdhmlcelofnkgaaDoorVOpen
import Derived.Test.YtdhmlcelofnkgaaDoorV11
import Derived.LaidLaws
import Derived.Stop.LaidErr
namespace Go.Proofs.YtdhmlcelofnkgaaDoor
open Go.ChangeShapes Go.WideShapes Go.ChangeAt Go.RowKit Go.Deep

theorem pow_eq : (Rows.laid_internal_strconv_uint64pow10 : DataW Unit) = Lib.tabData .u64 Lib.pow10Tab := by kernel_rfl
theorem gPwT : (Tryd.prog.globals[1]?).map (·.type) = some 138 := by kernel_rfl
theorem pw_of {rest : List (String × DataW Unit)} {W : World} (h : laidMet Tryd.prog (("internal/strconv.uint64pow10", Rows.laid_internal_strconv_uint64pow10) :: rest) W) : Pw W := by
  rw [pow_eq] at h
  exact Lib.tabIs_of_head gPw gPwT Tryd.underlying138 Tryd.underlying132 (by kernel_rfl) (by kernel_rfl) h
theorem len11 {α : Type} {l : List α} (h : l.length = 11) : ∃ a b c d e f g i j k m, l = [a, b, c, d, e, f, g, i, j, k, m] := by
  match l, h with
  | [a, b, c, d, e, f, g, i, j, k, m], _ => exact ⟨a, b, c, d, e, f, g, i, j, k, m, rfl⟩
variable {H : Type} {enc : TypeId × Value → H} {W : World}
end Go.Proofs.YtdhmlcelofnkgaaDoor
