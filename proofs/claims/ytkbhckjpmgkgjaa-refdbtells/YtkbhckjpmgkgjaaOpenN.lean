/- Nodes that came in, opened. -/
import Derived.Test.YtkbhckjpmgkgjaaNd
import Derived.ProofKit
import Derived.OpenShut
import Derived.ShutString
import Derived.ChangeOld
import Derived.SizedLaws
import Derived.Deep.DeepHandedRow
import Derived.Deep.Slices
import Derived.Deep.Strs
import Derived.Deep.Grids
namespace Go.Proofs.Ytkbhckjpmgkgjaa
open Go.ChangeShapes Go.WideShapes Go.ChangeAt Go.RowKit Go.Deep

theorem own : ownKnob Try.prog.godebug = none := by kernel_rfl
theorem laidOut : laidOutB Try.prog = true := by kernel_rfl
theorem cells3 : Try.prog.cellsOf 3 = 1 := by kernel_rfl
theorem cells4 : Try.prog.cellsOf 4 = 1 := by kernel_rfl
theorem cells5 : Try.prog.cellsOf 5 = 1 := by kernel_rfl
theorem cells9 : Try.prog.cellsOf 9 = 1 := by kernel_rfl
theorem cellsBS : Try.prog.cellsOf 84 = 1 := by kernel_rfl
theorem cellsSS : Try.prog.cellsOf 23 = 1 := by kernel_rfl
theorem bytes5 : Try.prog.bytesOf 5 = 1 := by kernel_rfl
theorem bytes9 : Try.prog.bytesOf 9 = 16 := by kernel_rfl
section
variable {H : Type} {enc : TypeId × Value → H} {W : World}
theorem int_bd {k : Int} (h : (Lit.int .i64 k).wf = true) : -9223372036854775808 ≤ k ∧ k ≤ 9223372036854775807 := by
  simp only [Lit.wf, IntKind.min, IntKind.max, IntKind.signed, IntKind.bits, Bool.and_eq_true] at h
  simp at h
  omega
theorem byte_bd {k : Int} (h : (Lit.int .u8 k).wf = true) : 0 ≤ k ∧ k < 256 := by
  simp only [Lit.wf, IntKind.min, IntKind.max, IntKind.signed, IntKind.bits, Bool.and_eq_true] at h
  simp at h
  omega
theorem spot_none {x : Addr} {v : Value} (h : W.cell? (x.add 0) = some v) : x = ⟨x.block, x.off, none⟩ := by
  obtain ⟨b, off, spot⟩ := x
  have hs : spot = none := by simpa [Addr.add] using World.cell?_spot h
  rw [hs]
theorem addr_plain (b off i : Nat) : (⟨b, off, none⟩ : Addr).add i = ⟨b, off + i, none⟩ := by unfold Addr.add; split <;> simp_all
theorem open_bytesN {fuel : Nat} {v : Value} {x : DataW H × List MemPlace} (h : DataW.trod enc Try.prog W 0 (fun _ => true) true fuel 84 [v] = some x) (hw : ∀ n ∈ x.1.weights Try.prog 84, n ≤ reachBytes) :
    ∃ a d c, v = .slice a d.size c ∧ BytesAt W a d c := by
  rcases open_ints Try.underlying84 Try.underlying5 cells5 h with ⟨hcs, _⟩ | ⟨x', l, c, zs, hcs, _, hl, hm, hz, hx, hcell, hwz⟩
  · simp at hcs
    exact ⟨none, ⟨#[]⟩, 0, hcs, ⟨⟨0, 0, fun h => absurd h (by decide), fun i hi => absurd hi (by simp [ByteArray.size])⟩, fun _ => ⟨rfl, rfl⟩, Nat.le_refl _, by unfold maxLen; omega, by unfold big; exact Nat.zero_le _⟩⟩
  · simp at hcs
    have hz' : zs.length = c := by simpa using hz
    have hsz : (ByteArray.mk ((zs.take l).map fun z => UInt8.ofNat z.toNat).toArray).size = l := by simp [ByteArray.size]; omega
    have hbf : ∀ i, i < l → bf (ByteArray.mk ((zs.take l).map fun z => UInt8.ofNat z.toNat).toArray) i = zs.getD i 0 := fun i hi => by
      have hil : i < zs.length := by omega
      have hb := byte_bd (hwz (zs.getD i 0) (by simp [List.getD, List.getElem?_eq_getElem hil]))
      simp only [List.getD, List.getElem?_eq_getElem hil, Option.getD_some] at hb ⊢
      unfold bf
      simp only [List.getElem?_toArray, List.getElem?_map, List.getElem?_take_of_lt hi, List.getElem?_eq_getElem hil, Option.map_some, Option.getD_some]
      simp
      omega
    refine ⟨some x', ⟨((zs.take l).map fun z => UInt8.ofNat z.toNat).toArray⟩, c, by rw [hsz]; exact hcs, ⟨⟨x'.block, x'.off, fun h0 => congrArg some (spot_none (hcell 0 (by omega))), fun i hi => ?_⟩, (fun h => nomatch h), by omega, hm, ?_⟩⟩
    · rw [hsz] at hi
      have h := hcell i (by omega)
      rw [spot_none (hcell 0 (by omega)), addr_plain] at h
      rw [hbf i hi]
      exact h
    · have h := hw ((zs.take l).length * 1 + (zs.drop l).length * 1) (by
        rw [hx]
        simp only [DataW.weights, Try.underlying84, bytes5, List.mem_cons]
        left
        simp [lits])
      simp only [reachBytes, List.length_take, List.length_drop] at h
      rw [hsz]
      unfold big
      omega
theorem weights_all {e : TypeId} {d : DataW H} {n : Nat} (hn : n ∈ d.weights Try.prog e) : ∀ (L : List (DataW H)), d ∈ L → n ∈ DataW.weightsAll Try.prog e L
  | [], h => by cases h
  | y :: r, h => by
    simp only [DataW.weightsAll, List.mem_append]
    rcases List.mem_cons.1 h with e1 | e1
    · left; rw [← e1]; exact hn
    · right; exact weights_all hn r e1
theorem open_strsN {fuel : Nat} {v : Value} {x : DataW H × List MemPlace} (h : DataW.trod enc Try.prog W 0 (fun _ => true) true fuel 23 [v] = some x) (hw : ∀ n ∈ x.1.weights Try.prog 23, n ≤ reachBytes) :
    ∃ a ns c, v = .slice a (ns : List ByteArray).length c ∧ StrsAt W a ns c := by
  rcases open_strs Try.underlying23 Try.underlying9 cells9 h with ⟨hcs, _⟩ | ⟨x', l, c, m, Sx, hcs, _, hl, hm, hmm, hx, hcell⟩
  · simp at hcs
    exact ⟨none, [], 0, hcs, ⟨⟨0, 0, fun h => absurd h (by simp), fun i hi => absurd hi (by simp)⟩, fun _ => ⟨rfl, rfl⟩, Nat.le_refl _, by unfold maxLen; omega, by unfold big; exact Nat.zero_le _, fun s hs => by cases hs⟩⟩
  · simp at hcs
    simp only [if_true] at hmm
    subst hmm
    have hln : ((List.range l).map Sx).length = l := by simp
    refine ⟨some x', (List.range l).map Sx, m, by rw [hln]; exact hcs, ⟨⟨x'.block, x'.off, fun h0 => congrArg some (spot_none (hcell 0 (by rw [hln] at h0; omega)).1), fun i hi => ?_⟩, (fun h => nomatch h), by rw [hln]; exact hl, hm, ?_, fun s hs => ?_⟩⟩
    · rw [hln] at hi
      have h := (hcell i (by omega)).1
      rw [spot_none (hcell 0 (by omega)).1, addr_plain] at h
      rw [h]
      simp
    · have h := hw ((l + (m - l)) * 16) (by
        rw [hx]
        simp only [DataW.weights, Try.underlying23, bytes9, List.mem_cons, List.length_map, List.length_range]
        left
        trivial)
      simp only [reachBytes] at h
      rw [hln]
      unfold big
      omega
    · obtain ⟨i, hi, rfl⟩ := List.mem_map.1 hs
      have hi' := List.mem_range.1 hi
      have h := hw (Sx i).data.toList.length (by
        rw [hx]
        simp only [DataW.weights, Try.underlying23, List.mem_cons, List.mem_append]
        right; left
        exact weights_all (d := .lit (.string (Sx i).data.toList)) (by simp [DataW.weights]) _ (List.mem_map.2 ⟨i, hi, rfl⟩))
      simp only [reachBytes, Array.length_toList] at h
      unfold big
      exact h
end
end Go.Proofs.Ytkbhckjpmgkgjaa
