/- My own work: texts that came in, opened (after stage 12's text). -/
import Derived.Test.YtecbagiionhpjaaDoorVL0
import Derived.Test.YtecbagiionhpjaaDoorVOpen
namespace Go.Proofs.YtecbagiionhpjaaDoor
open Go.ChangeShapes Go.WideShapes Go.ChangeAt Go.RowKit Go.Deep

theorem bytes9s : Tryd.prog.bytesOf 9 = 16 := by kernel_rfl
theorem addr_atS (b off i : Nat) : (⟨b, off, none⟩ : Addr).add i = ⟨b, off + i, none⟩ := by unfold Addr.add; split <;> simp_all
section
variable {H : Type} {enc : TypeId × Value → H} {W : World}
theorem weights_allS {e : TypeId} {d : DataW H} {n : Nat} (hn : n ∈ d.weights Tryd.prog e) : ∀ (L : List (DataW H)), d ∈ L → n ∈ DataW.weightsAll Tryd.prog e L
  | [], h => by cases h
  | y :: r, h => by
    simp only [DataW.weightsAll, List.mem_append]
    rcases List.mem_cons.1 h with e1 | e1
    · left; rw [← e1]; exact hn
    · right; exact weights_allS hn r e1
theorem open_txs {fuel : Nat} {v : Value} {x : DataW H × List MemPlace} (h : DataW.trod enc Tryd.prog W 0 (fun _ => true) true fuel 25 [v] = some x) (hw : ∀ n ∈ x.1.weights Tryd.prog 25, n ≤ reachBytes) :
    ∃ (a : Option Addr) (L : List ByteArray) (c : Nat), v = .slice a L.length c ∧ TxB W (.slice a L.length c) L W.heap.size ∧ L.length ≤ 140737488355328 ∧ ∀ s ∈ L, s.size ≤ 140737488355328 := by
  rcases open_slice Tryd.underlying25 h with ⟨hcs, hx⟩ | ⟨x', l, c, mm, n, D, Pl, hcs, _, hl, hm, hmm, hx4, hall4⟩
  · simp at hcs
    subst hcs
    exact ⟨none, [], 0, rfl, ⟨none, 0, 0, 0, rfl, fun h => absurd h (by simp), Nat.le_refl _, fun _ => rfl, fun i hi => absurd hi (by simp)⟩, Nat.zero_le _, fun v hv => by cases hv⟩
  · simp at hcs
    subst hcs
    simp only [if_true] at hmm
    subst hmm
    rw [cells9v] at hall4
    have each : ∀ i, i < l → ∃ y : ByteArray, W.cells? 0 (x'.add (i * 1)) 1 = some [.string y] ∧ y.size ≤ 140737488355328 := by
      intro i hi
      obtain ⟨cs', h1, h2⟩ := hall4 i (by omega)
      obtain ⟨z, h3, h4, _⟩ := DataW.trod_string Tryd.underlying9 h2
      refine ⟨z, by rw [h1, h3], ?_⟩
      have h := hw z.data.toList.length (by
        rw [hx4]
        simp only [DataW.weights, Tryd.underlying25, List.mem_cons, List.mem_append]
        right; left
        refine weights_allS (d := D i) ?_ _ (List.mem_map.2 ⟨i, List.mem_range.2 hi, rfl⟩)
        rw [show D i = DataW.lit (Lit.string z.data.toList) from congrArg Prod.fst h4]
        simp [DataW.weights])
      simp only [reachBytes, Array.length_toList] at h
      exact Nat.le_trans h (by omega)
    have : Inhabited ByteArray := ⟨⟨#[]⟩⟩
    obtain ⟨Pf, hP⟩ := choose_lt each
    have hsp0 : 0 < l → x' = ⟨x'.block, x'.off, none⟩ := fun h0 => by
      obtain ⟨h1, _⟩ := hP 0 h0
      obtain ⟨_, hlen6, hcell⟩ := World.cells?_some h1
      have h3 := hcell 0 (by omega)
      obtain ⟨bb, oo, sp⟩ := x'
      have hs : sp = none := by simpa [Addr.add] using World.cell?_spot h3
      rw [hs]
    have hcl : ∀ i, i < l → W.cell? ⟨x'.block, x'.off + i, none⟩ = some (.string (Pf i)) := fun i hi => by
      obtain ⟨h1, _⟩ := hP i hi
      obtain ⟨_, hlen6, hcell⟩ := World.cells?_some h1
      have h4 := hcell 0 (by omega)
      rw [hsp0 (by omega), addr_atS, addr_atS, Nat.mul_one, Nat.add_zero] at h4
      exact h4
    have hlen : ((List.range l).map Pf).length = l := by simp
    refine ⟨some x', (List.range l).map Pf, mm, by rw [hlen], ⟨some x', x'.block, x'.off, mm, rfl, fun h0 => ⟨congrArg some (hsp0 (by rw [hlen] at h0; exact h0)), ?_⟩, by rw [hlen]; exact hl, (fun h => by cases h), fun i hi => ?_⟩, ?_, fun v hv => ?_⟩
    · rw [hlen] at h0
      have h5 := World.block_lt_of_cell? W ⟨x'.block, x'.off + 0, none⟩ (hcl 0 h0)
      exact h5
    · rw [hlen] at hi
      simp only [List.getElem_map, List.getElem_range]
      exact hcl i hi
    · have h9 := hw ((l + (mm - l)) * 16) (by
        rw [hx4]
        simp only [DataW.weights, Tryd.underlying25, bytes9s, List.mem_cons, List.length_map, List.length_range]
        left
        first | trivial | (congr 2; simp))
      simp only [reachBytes] at h9
      rw [hlen]
      omega
    · obtain ⟨i, hi, rfl⟩ := List.mem_map.1 hv
      exact (hP i (List.mem_range.1 hi)).2
end
end Go.Proofs.YtecbagiionhpjaaDoor
