/- My own work: an info that came in, opened. -/
import Derived.Test.YthidlckipiamkaaDoorOT2
import Derived.Test.YthidlckipiamkaaDoorOpenN
namespace Go.Proofs.YthidlckipiamkaaDoor
open Go.ChangeShapes Go.WideShapes Go.ChangeAt Go.RowKit Go.Deep

theorem cellsIf : Tryd.prog.cellsOf 24 = 4 := by kernel_rfl
theorem len4 {α : Type} {l : List α} (h : l.length = 4) : ∃ a b c d, l = [a, b, c, d] := by
  match l, h with
  | [a, b, c, d], _ => exact ⟨a, b, c, d, rfl⟩
variable {H : Type} {enc : TypeId × Value → H} {W : World}
theorem open_info {fuel : Nat} {cs : List Value} {x : DataW H × List MemPlace} (h : DataW.trod enc Tryd.prog W 0 (fun _ => true) true fuel 24 cs = some x) (hw : ∀ n ∈ x.1.weights Tryd.prog 24, n ≤ reachBytes) : ∃ i a c, cs.toArray = infV i a c ∧ InfAt W i a c := by
  obtain ⟨xs, m, _, hx, hl, hxl, hall⟩ := DataW.trod_struct Tryd.underlying24 h
  rw [cellsIf] at hl
  have hxl' : xs.length = 4 := by rw [hxl]; rfl
  obtain ⟨v0, v1, v2, v3, rfl⟩ := len4 hl
  obtain ⟨y0, y1, y2, y3, rfl⟩ := len4 hxl'
  have g0 := hall 0 _ rfl
  have g1 := hall 1 _ rfl
  have g2 := hall 2 _ rfl
  have g3 := hall 3 _ rfl
  simp [cells9, cellsSS] at g0 g1 g2 g3
  have hwe : ∀ n ∈ DataW.weightsEach Tryd.prog [9, 9, 9, 22] [y0.1, y1.1, y2.1, y3.1], n ≤ reachBytes := by
    intro n hn
    refine hw n ?_
    rw [hx]
    simp only [DataW.weights, Tryd.underlying24]
    exact hn
  obtain ⟨s0, e0, rfl, _⟩ := DataW.trod_string Tryd.underlying9 g0
  obtain ⟨s1, e1, rfl, _⟩ := DataW.trod_string Tryd.underlying9 g1
  obtain ⟨s2, e2, rfl, _⟩ := DataW.trod_string Tryd.underlying9 g2
  obtain ⟨a, ns, c, e3, hns⟩ := open_strsN g3 (fun n hn => hwe n (DataW.weights_mem_each (j := 3) rfl rfl n hn))
  simp at e0 e1 e2
  subst e0 e1 e2 e3
  have key : ∀ (j : Nat) (s : ByteArray), ([9, 9, 9, 22] : List TypeId)[j]? = some 9 → ([(DataW.lit (.string s0.data.toList) : DataW H), .lit (.string s1.data.toList), .lit (.string s2.data.toList), y3.1])[j]? = some (.lit (.string s.data.toList)) → s.size ≤ big := fun j s h1 h2 => by
    have h := hwe s.data.toList.length (DataW.weights_mem_each (j := j) h1 h2 _ (by simp [DataW.weights]))
    simp only [reachBytes, Array.length_toList] at h
    unfold big
    exact h
  exact ⟨⟨s0, s1, s2, ns⟩, a, c, rfl, hns, key 0 s0 rfl rfl, key 1 s1 rfl rfl, key 2 s2 rfl rfl⟩
end Go.Proofs.YthidlckipiamkaaDoor
