/- My own work: a version that came in, opened. -/
import Derived.Test.YtdhmlcelofnkgaaDoorV6
import Derived.ProofKit
import Derived.OpenShut
import Derived.ShutString
import Derived.ChangeOld
import Derived.SizedLaws
import Derived.Deep.DeepHandedRow
import Derived.Deep.Slices
import Derived.Deep.Strs
import Derived.Deep.Grids
import Derived.Lib.LaidTab
namespace Go.Proofs.YtdhmlcelofnkgaaDoor
open Go.ChangeShapes Go.WideShapes Go.ChangeAt Go.RowKit Go.Deep

theorem own : ownKnob Tryd.prog.godebug = none := by kernel_rfl
theorem laidOut : laidOutB Tryd.prog = true := by kernel_rfl
theorem cellsVe : Tryd.prog.cellsOf 34 = 6 := by kernel_rfl
theorem cellsN4 : Tryd.prog.cellsOf 31 = 4 := by kernel_rfl
theorem cells3 : Tryd.prog.cellsOf 3 = 1 := by kernel_rfl
theorem cells9v : Tryd.prog.cellsOf 9 = 1 := by kernel_rfl
theorem len6 {α : Type} {l : List α} (h : l.length = 6) : ∃ a b c d e f, l = [a, b, c, d, e, f] := by
  match l, h with
  | [a, b, c, d, e, f], _ => exact ⟨a, b, c, d, e, f, rfl⟩
theorem len3 {α : Type} {l : List α} (h : l.length = 3) : ∃ a b c, l = [a, b, c] := by
  match l, h with
  | [a, b, c], _ => exact ⟨a, b, c, rfl⟩
theorem len4v {α : Type} {l : List α} (h : l.length = 4) : ∃ a b c d, l = [a, b, c, d] := by
  match l, h with
  | [a, b, c, d], _ => exact ⟨a, b, c, d, rfl⟩
/-- A number that an int may be. -/
def I64 (n : Int) : Prop := -9223372036854775808 ≤ n ∧ n ≤ 9223372036854775807
structure Fits (v : Ver) : Prop where
  n0 : I64 v.n0
  n1 : I64 v.n1
  n2 : I64 v.n2
  n3 : I64 v.n3
  cnt : I64 v.cnt
  tag : v.tag.size ≤ 140737488351232
theorem wf64 {z : Int} (h : Lit.wf (.int .i64 z) = true) : I64 z := by
  simp only [Lit.wf, IntKind.min, IntKind.max, IntKind.signed, IntKind.bits, Bool.and_eq_true] at h
  simp at h
  exact ⟨by omega, by omega⟩
variable {H : Type} {enc : TypeId × Value → H} {W : World}
theorem open_n4 {fuel : Nat} {cs : List Value} {x : DataW H × List MemPlace} (h : DataW.trod enc Tryd.prog W 0 (fun _ => true) true fuel 31 cs = some x) (hl : cs.length = 4) : ∃ a b c d : Int, cs = [.int .i64 a, .int .i64 b, .int .i64 c, .int .i64 d] ∧ I64 a ∧ I64 b ∧ I64 c ∧ I64 d := by
  obtain ⟨xs, m, _, _, _, hxl, hall⟩ := DataW.trod_array Tryd.underlying31 h
  have hz : ∀ i, i < 4 → ∃ z : Int, cs[i]? = some (.int .i64 z) ∧ I64 z := fun i hi => by
    have h1 := hall i hi
    rw [cells3, Nat.mul_one] at h1
    have hlt : i < xs.length := by omega
    rw [List.getElem?_eq_getElem hlt] at h1
    obtain ⟨z, hcz, _, hwf⟩ := DataW.trod_int Tryd.underlying3 h1
    have e := congrArg (·[0]?) hcz
    exact ⟨z, by simpa [Value.cells, List.getElem?_take, List.getElem?_drop] using e, wf64 hwf⟩
  obtain ⟨v0, v1, v2, v3, rfl⟩ := len4v hl
  obtain ⟨a, ha, fa⟩ := hz 0 (by omega)
  obtain ⟨b, hb, fb⟩ := hz 1 (by omega)
  obtain ⟨c, hc, fc⟩ := hz 2 (by omega)
  obtain ⟨d, hd, fd⟩ := hz 3 (by omega)
  simp at ha hb hc hd
  subst ha hb hc hd
  exact ⟨a, b, c, d, rfl, fa, fb, fc, fd⟩
theorem open_ver {fuel : Nat} {cs : List Value} {x : DataW H × List MemPlace} (h : DataW.trod enc Tryd.prog W 0 (fun _ => true) true fuel 34 cs = some x) (hw : ∀ n ∈ x.1.weights Tryd.prog 34, n ≤ reachBytes) : ∃ v, cs.toArray = verC v ∧ Fits v := by
  obtain ⟨xs, m, _, hx, hl, hxl, hall⟩ := DataW.trod_struct Tryd.underlying34 h
  rw [cellsVe] at hl
  have hxl' : xs.length = 3 := by rw [hxl]; rfl
  obtain ⟨v0, v1, v2, v3, v4, v5, rfl⟩ := len6 hl
  obtain ⟨y0, y1, y2, rfl⟩ := len3 hxl'
  have g0 := hall 0 _ rfl
  have g1 := hall 1 _ rfl
  have g2 := hall 2 _ rfl
  simp [cells3, cells9v, cellsN4] at g0 g1 g2
  have hwe : ∀ n ∈ DataW.weightsEach Tryd.prog [31, 3, 9] [y0.1, y1.1, y2.1], n ≤ reachBytes := by
    intro n hn
    refine hw n ?_
    rw [hx]
    simp only [DataW.weights, Tryd.underlying34]
    exact hn
  obtain ⟨a, b, c, d, e0, f0, f1, f2, f3⟩ := open_n4 g0 rfl
  obtain ⟨z, e1, _, hwf⟩ := DataW.trod_int Tryd.underlying3 g1
  obtain ⟨s, e2, rfl, _⟩ := DataW.trod_string Tryd.underlying9 g2
  simp at e0 e1 e2
  obtain ⟨rfl, rfl, rfl, rfl⟩ := e0
  subst e1 e2
  refine ⟨⟨a, b, c, d, z, s⟩, rfl, f0, f1, f2, f3, wf64 hwf, ?_⟩
  have h := hwe s.data.toList.length (DataW.weights_mem_each (j := 2) rfl rfl _ (by simp [DataW.weights]))
  simp only [reachBytes, Array.length_toList] at h
  exact h
end Go.Proofs.YtdhmlcelofnkgaaDoor
