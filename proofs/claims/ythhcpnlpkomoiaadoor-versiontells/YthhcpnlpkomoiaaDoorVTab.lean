/- My own work: the table of tens out of the row's list; what the law VersionBack is handed, opened. -/
import Derived.Test.YthhcpnlpkomoiaaDoorVOpen
import Derived.Test.YthhcpnlpkomoiaaDoorV11
import Derived.LaidLaws
import Derived.Stop.LaidErr
namespace Go.Proofs.YthhcpnlpkomoiaaDoor
open Go.ChangeShapes Go.WideShapes Go.ChangeAt Go.RowKit Go.Deep

theorem pow_eq : (Rows.laid_internal_strconv_uint64pow10 : DataW Unit) = Lib.tabData .u64 Lib.pow10Tab := by kernel_rfl
theorem gPwT : (Tryd.prog.globals[1]?).map (·.type) = some 118 := by kernel_rfl
theorem pw_of {rest : List (String × DataW Unit)} {W : World} (h : laidMet Tryd.prog (("internal/strconv.uint64pow10", Rows.laid_internal_strconv_uint64pow10) :: rest) W) : Pw W := by
  rw [pow_eq] at h
  exact Lib.tabIs_of_head gPw gPwT Tryd.underlying118 Tryd.underlying96 (by kernel_rfl) (by kernel_rfl) h
theorem cellsLk : Tryd.prog.cellsOf 46 = 11 := by kernel_rfl
theorem len11 {α : Type} {l : List α} (h : l.length = 11) : ∃ a b c d e f g i j k m, l = [a, b, c, d, e, f, g, i, j, k, m] := by
  match l, h with
  | [a, b, c, d, e, f, g, i, j, k, m], _ => exact ⟨a, b, c, d, e, f, g, i, j, k, m, rfl⟩
variable {H : Type} {enc : TypeId × Value → H} {W : World}
theorem open_like {fuel : Nat} {cs : List Value} {x : DataW H × List MemPlace} (h : DataW.trod enc Tryd.prog W 0 (fun _ => true) true fuel 46 cs = some x) (hw : ∀ n ∈ x.1.weights Tryd.prog 46, n ≤ reachBytes) :
    ∃ (v : Ver) (a b c d : Int) (t : ByteArray), cs.toArray = #[.int .i64 v.n0, .int .i64 v.n1, .int .i64 v.n2, .int .i64 v.n3, .int .i64 v.cnt, .string v.tag, .int .i64 a, .int .i64 b, .int .i64 c, .int .i64 d, .string t] ∧ Fits v := by
  obtain ⟨xs, m, _, hx, hl, hxl, hall⟩ := DataW.trod_struct Tryd.underlying46 h
  rw [cellsLk] at hl
  have hxl' : xs.length = 3 := by rw [hxl]; rfl
  obtain ⟨v0, v1, v2, v3, v4, v5, v6, v7, v8, v9, v10, rfl⟩ := len11 hl
  obtain ⟨y0, y1, y2, rfl⟩ := len3 hxl'
  have g0 := hall 0 _ rfl
  have g1 := hall 1 _ rfl
  have g2 := hall 2 _ rfl
  simp [cellsVe, cells9v, cellsN4] at g0 g1 g2
  have hwe : ∀ n ∈ DataW.weightsEach Tryd.prog [24, 22, 9] [y0.1, y1.1, y2.1], n ≤ reachBytes := by
    intro n hn
    refine hw n ?_
    rw [hx]
    simp only [DataW.weights, Tryd.underlying46]
    exact hn
  obtain ⟨v, e0, f0⟩ := open_ver g0 (fun n hn => hwe n (DataW.weights_mem_each (j := 0) rfl rfl n hn))
  obtain ⟨a, b, c, d, e1, _⟩ := open_n4 g1 rfl
  obtain ⟨s, e2, rfl, _⟩ := DataW.trod_string Tryd.underlying9 g2
  simp at e0 e1 e2
  obtain ⟨rfl, rfl, rfl, rfl, rfl, rfl⟩ := e0
  obtain ⟨rfl, rfl, rfl, rfl⟩ := e1
  subst e2
  exact ⟨v, a, b, c, d, s, rfl, f0⟩
end Go.Proofs.YthhcpnlpkomoiaaDoor
