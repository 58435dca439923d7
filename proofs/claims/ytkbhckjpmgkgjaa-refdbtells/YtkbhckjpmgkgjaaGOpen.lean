/- My own work: infos that came in, opened (after stage 11's text). -/
import Derived.Test.YtkbhckjpmgkgjaaG5
import Derived.Test.YtkbhckjpmgkgjaaOpenN
namespace Go.Proofs.Ytkbhckjpmgkgjaa
open Go.ChangeShapes Go.WideShapes Go.ChangeAt Go.RowKit Go.Deep

theorem cellsIf : Try.prog.cellsOf 33 = 4 := by kernel_rfl
theorem len4 {α : Type} {l : List α} (h : l.length = 4) : ∃ a b c d, l = [a, b, c, d] := by
  match l, h with
  | [a, b, c, d], _ => exact ⟨a, b, c, d, rfl⟩
variable {H : Type} {enc : TypeId × Value → H} {W : World}
theorem open_info {fuel : Nat} {cs : List Value} {x : DataW H × List MemPlace} (h : DataW.trod enc Try.prog W 0 (fun _ => true) true fuel 33 cs = some x) (hw : ∀ n ∈ x.1.weights Try.prog 33, n ≤ reachBytes) : ∃ i a c, cs.toArray = infV i a c ∧ InfAt W i a c := by
  obtain ⟨xs, m, _, hx, hl, hxl, hall⟩ := DataW.trod_struct Try.underlying33 h
  rw [cellsIf] at hl
  have hxl' : xs.length = 4 := by rw [hxl]; rfl
  obtain ⟨v0, v1, v2, v3, rfl⟩ := len4 hl
  obtain ⟨y0, y1, y2, y3, rfl⟩ := len4 hxl'
  have g0 := hall 0 _ rfl
  have g1 := hall 1 _ rfl
  have g2 := hall 2 _ rfl
  have g3 := hall 3 _ rfl
  simp [cells9, cellsSS] at g0 g1 g2 g3
  have hwe : ∀ n ∈ DataW.weightsEach Try.prog [9, 9, 9, 23] [y0.1, y1.1, y2.1, y3.1], n ≤ reachBytes := by
    intro n hn
    refine hw n ?_
    rw [hx]
    simp only [DataW.weights, Try.underlying33]
    exact hn
  obtain ⟨s0, e0, rfl, _⟩ := DataW.trod_string Try.underlying9 g0
  obtain ⟨s1, e1, rfl, _⟩ := DataW.trod_string Try.underlying9 g1
  obtain ⟨s2, e2, rfl, _⟩ := DataW.trod_string Try.underlying9 g2
  obtain ⟨a, ns, c, e3, hns⟩ := open_strsN g3 (fun n hn => hwe n (DataW.weights_mem_each (j := 3) rfl rfl n hn))
  simp at e0 e1 e2
  subst e0 e1 e2 e3
  have key : ∀ (j : Nat) (s : ByteArray), ([9, 9, 9, 23] : List TypeId)[j]? = some 9 → ([(DataW.lit (.string s0.data.toList) : DataW H), .lit (.string s1.data.toList), .lit (.string s2.data.toList), y3.1])[j]? = some (.lit (.string s.data.toList)) → s.size ≤ big := fun j s h1 h2 => by
    have h := hwe s.data.toList.length (DataW.weights_mem_each (j := j) h1 h2 _ (by simp [DataW.weights]))
    simp only [reachBytes, Array.length_toList] at h
    unfold big
    exact h
  exact ⟨⟨s0, s1, s2, ns⟩, a, c, rfl, hns, key 0 s0 rfl rfl, key 1 s1 rfl rfl, key 2 s2 rfl rfl⟩

theorem bytesIf : Try.prog.bytesOf 33 = 72 := by kernel_rfl
/-- Infos that came in. -/
theorem open_ls {fuel : Nat} {v : Value} {x : DataW H × List MemPlace} (h : DataW.trod enc Try.prog W 0 (fun _ => true) true fuel 22 [v] = some x) (hw : ∀ n ∈ x.1.weights Try.prog 22, n ≤ reachBytes) :
    ∃ (a : Option Addr) (L : List Inf) (c : Nat), v = .slice a L.length c ∧ LsAt W a L c ∧ L.length ≤ 140737488355328 := by
  rcases open_slice Try.underlying22 h with ⟨hcs, hx⟩ | ⟨x', l, c, mm, n, D, Pl, hcs, _, hl, hm, hmm, hx4, hall4⟩
  · simp at hcs
    subst hcs
    exact ⟨none, [], 0, rfl, ⟨⟨0, 0, fun h => absurd h (by simp), fun i hi => absurd hi (by simp)⟩, Nat.le_refl _, by unfold maxLen; omega⟩, Nat.zero_le _⟩
  · simp at hcs
    subst hcs
    simp only [if_true] at hmm
    subst hmm
    rw [cellsIf] at hall4
    have each : ∀ i, i < l → ∃ y : Inf × Option Addr × Nat, (∃ cs', W.cells? 0 (x'.add (i * 4)) 4 = some cs' ∧ cs'.toArray = infV y.1 y.2.1 y.2.2) ∧ InfAt W y.1 y.2.1 y.2.2 := by
      intro i hi
      obtain ⟨cs', h1, h2⟩ := hall4 i (by omega)
      obtain ⟨z, za, zc, h3, h4⟩ := open_info (x := (D i, Pl i)) h2 (fun q hq => hw q (by
        rw [hx4]
        simp only [DataW.weights, Try.underlying22, List.mem_cons, List.mem_append]
        right; left
        exact weights_all hq _ (List.mem_map.2 ⟨i, List.mem_range.2 hi, rfl⟩)))
      exact ⟨(z, za, zc), ⟨cs', h1, h3⟩, h4⟩
    have : Inhabited (Inf × Option Addr × Nat) := ⟨(⟨⟨#[]⟩, ⟨#[]⟩, ⟨#[]⟩, []⟩, none, 0)⟩
    obtain ⟨Pf, hP⟩ := choose_lt each
    have hsp0 : 0 < l → x' = ⟨x'.block, x'.off, none⟩ := fun h0 => by
      obtain ⟨⟨cs', h1, h2⟩, _⟩ := hP 0 h0
      obtain ⟨_, hlen6, hcell⟩ := World.cells?_some h1
      have h3 := hcell 0 (by omega)
      rw [List.getElem?_eq_getElem (by omega)] at h3
      obtain ⟨bb, oo, sp⟩ := x'
      have hs : sp = none := by simpa [Addr.add] using World.cell?_spot h3
      rw [hs]
    have hlen : ((List.range l).map fun i => (Pf i).1).length = l := by simp
    refine ⟨some x', (List.range l).map fun i => (Pf i).1, mm, by rw [hlen], ⟨⟨x'.block, x'.off, fun h0 => congrArg some (hsp0 (by rw [hlen] at h0; exact h0)), fun i hi => ?_⟩, by rw [hlen]; exact hl, hm⟩, ?_⟩
    · rw [hlen] at hi
      simp only [List.getElem_map, List.getElem_range]
      obtain ⟨⟨cs', h1, h2⟩, h3⟩ := hP i hi
      refine ⟨(Pf i).2.1, (Pf i).2.2, fun j u hj => ?_, h3⟩
      have hj4 : j < 4 := by
        have := (List.getElem?_eq_some_iff.1 hj).1
        simpa using this
      obtain ⟨_, hlen6, hcell⟩ := World.cells?_some h1
      have h4 := hcell j (by omega)
      have h5 : cs' = (infV (Pf i).1 (Pf i).2.1 (Pf i).2.2).toList := by rw [← h2]
      rw [h5, hj, hsp0 (by omega), addr_plain, addr_plain] at h4
      exact h4
    · have h9 := hw ((l + (mm - l)) * 72) (by
        rw [hx4]
        simp only [DataW.weights, Try.underlying22, bytesIf, List.mem_cons, List.length_map, List.length_range]
        left
        first | trivial | (congr 2; simp))
      simp only [reachBytes] at h9
      rw [hlen]
      omega
end Go.Proofs.Ytkbhckjpmgkgjaa
