/- My own work: versions that came in, opened (after stage 12's text). -/
import Derived.Test.YtdhmlcelofnkgaaDoorLS0
import Derived.Test.YtdhmlcelofnkgaaDoorVOpen
namespace Go.Proofs.YtdhmlcelofnkgaaDoor
open Go.ChangeShapes Go.WideShapes Go.ChangeAt Go.RowKit Go.Deep

theorem bytesVe : Tryd.prog.bytesOf 34 = 56 := by kernel_rfl
theorem addr_at (b off i : Nat) : (⟨b, off, none⟩ : Addr).add i = ⟨b, off + i, none⟩ := by unfold Addr.add; split <;> simp_all
section
variable {H : Type} {enc : TypeId × Value → H} {W : World}
theorem weights_allV {e : TypeId} {d : DataW H} {n : Nat} (hn : n ∈ d.weights Tryd.prog e) : ∀ (L : List (DataW H)), d ∈ L → n ∈ DataW.weightsAll Tryd.prog e L
  | [], h => by cases h
  | y :: r, h => by
    simp only [DataW.weightsAll, List.mem_append]
    rcases List.mem_cons.1 h with e1 | e1
    · left; rw [← e1]; exact hn
    · right; exact weights_allV hn r e1
theorem open_vs {fuel : Nat} {v : Value} {x : DataW H × List MemPlace} (h : DataW.trod enc Tryd.prog W 0 (fun _ => true) true fuel 22 [v] = some x) (hw : ∀ n ∈ x.1.weights Tryd.prog 22, n ≤ reachBytes) :
    ∃ (a : Option Addr) (L : List Ver) (c : Nat), v = .slice a L.length c ∧ VsIn W a L c ∧ L.length ≤ 140737488355328 ∧ ∀ v ∈ L, Fits v := by
  rcases open_slice Tryd.underlying22 h with ⟨hcs, hx⟩ | ⟨x', l, c, mm, n, D, Pl, hcs, _, hl, hm, hmm, hx4, hall4⟩
  · simp at hcs
    subst hcs
    exact ⟨none, [], 0, rfl, ⟨⟨0, 0, fun h => absurd h (by simp), fun i hi => absurd hi (by simp)⟩, Nat.le_refl _⟩, Nat.zero_le _, fun v hv => by cases hv⟩
  · simp at hcs
    subst hcs
    simp only [if_true] at hmm
    subst hmm
    rw [cellsVe] at hall4
    have each : ∀ i, i < l → ∃ y : Ver, (∃ cs', W.cells? 0 (x'.add (i * 6)) 6 = some cs' ∧ cs'.toArray = verC y) ∧ Fits y := by
      intro i hi
      obtain ⟨cs', h1, h2⟩ := hall4 i (by omega)
      obtain ⟨z, h3, h4⟩ := open_ver (x := (D i, Pl i)) h2 (fun q hq => hw q (by
        rw [hx4]
        simp only [DataW.weights, Tryd.underlying22, List.mem_cons, List.mem_append]
        right; left
        exact weights_allV hq _ (List.mem_map.2 ⟨i, List.mem_range.2 hi, rfl⟩)))
      exact ⟨z, ⟨cs', h1, h3⟩, h4⟩
    have : Inhabited Ver := ⟨zeroV⟩
    obtain ⟨Pf, hP⟩ := choose_lt each
    have hsp0 : 0 < l → x' = ⟨x'.block, x'.off, none⟩ := fun h0 => by
      obtain ⟨⟨cs', h1, h2⟩, _⟩ := hP 0 h0
      obtain ⟨_, hlen6, hcell⟩ := World.cells?_some h1
      have h3 := hcell 0 (by omega)
      rw [List.getElem?_eq_getElem (by omega)] at h3
      obtain ⟨bb, oo, sp⟩ := x'
      have hs : sp = none := by simpa [Addr.add] using World.cell?_spot h3
      rw [hs]
    have hcl : ∀ i, i < l → ∀ j u, (encV1 (Pf i))[j]? = some u → W.cell? ⟨x'.block, x'.off + i * 6 + j, none⟩ = some u := fun i hi j u hj => by
      obtain ⟨⟨cs', h1, h2⟩, _⟩ := hP i hi
      have hj6 : j < 6 := by
        have := (List.getElem?_eq_some_iff.1 hj).1
        simpa using this
      obtain ⟨_, hlen6, hcell⟩ := World.cells?_some h1
      have h4 := hcell j (by omega)
      have h5 : cs' = encV1 (Pf i) := by
        have : cs'.toArray.toList = (verC (Pf i)).toList := by rw [h2]
        simpa using this
      rw [h5, hj, hsp0 (by omega), addr_at, addr_at] at h4
      exact h4
    have hlen : ((List.range l).map Pf).length = l := by simp
    refine ⟨some x', (List.range l).map Pf, mm, by rw [hlen], ⟨⟨x'.block, x'.off, fun h0 => ⟨congrArg some (hsp0 (by rw [hlen] at h0; exact h0)), ?_⟩, fun i hi => ?_⟩, by rw [hlen]; exact hl⟩, ?_, fun v hv => ?_⟩
    · rw [hlen] at h0
      have h5 := World.block_lt_of_cell? W ⟨x'.block, x'.off + 0 * 6 + 0, none⟩ (hcl 0 h0 0 _ rfl)
      exact h5
    · rw [hlen] at hi
      simp only [List.getElem_map, List.getElem_range]
      exact hcl i hi
    · have h9 := hw ((l + (mm - l)) * 56) (by
        rw [hx4]
        simp only [DataW.weights, Tryd.underlying22, bytesVe, List.mem_cons, List.length_map, List.length_range]
        left
        first | trivial | (congr 2; simp))
      simp only [reachBytes] at h9
      rw [hlen]
      omega
    · obtain ⟨i, hi, rfl⟩ := List.mem_map.1 hv
      exact (hP i (List.mem_range.1 hi)).2
end
end Go.Proofs.YtdhmlcelofnkgaaDoor
