/- Bytes and bools that came in, opened. -/
import Derived.Test.YtdbnnljlbfjobaaGreatDoorSector
import Derived.Test.YtdbnnljlbfjobaaGreatDoorOpenN
import Derived.ProofKit
import Derived.OpenShut
import Derived.ShutString
import Derived.ChangeOld
import Derived.SizedLaws
import Derived.Deep.DeepHandedRow
import Derived.Deep.Slices
import Derived.Deep.Grids
namespace Go.Proofs.YtdbnnljlbfjobaaGreatDoor
open Go.ChangeShapes Go.WideShapes Go.ChangeAt Go.RowKit Go.Deep

theorem cells31 : Tryz.prog.cellsOf 31 = 1 := by kernel_rfl
theorem cells32 : Tryz.prog.cellsOf 62 = 1 := by kernel_rfl
theorem bytes4 : Tryz.prog.bytesOf 4 = 1 := by kernel_rfl

/-- Bools that lie in memory. -/
structure Bl (w : World) (a : Option Addr) (b off len : Nat) (f : Nat → Bool) : Prop where
  at' : 0 < len → a = some ⟨b, off, none⟩
  cell : ∀ i, i < len → w.cell? ⟨b, off + i, none⟩ = some (.bool (f i))
theorem Bl.lt {w : World} {a : Option Addr} {b off len : Nat} {f : Nat → Bool} (h : Bl w a b off len f) (hl : 0 < len) : b < w.heap.size := World.block_lt_of_cell? _ _ (h.cell 0 hl)
theorem Bl.keep {w wr : World} {a : Option Addr} {b off len : Nat} {f : Nat → Bool} (h : Bl w a b off len f) (hb : 0 < len → wr.heap[b]? = w.heap[b]?) : Bl wr a b off len f :=
  ⟨h.at', fun i hi => (World.cell?_of_block (w := w) (hb (by omega))).trans (h.cell i hi)⟩
theorem Bl.belowAll {w wr : World} {a : Option Addr} {b off len : Nat} {f : Nat → Bool} (h : Bl w a b off len f) (hb : Below w.heap.size w wr) : Bl wr a b off len f :=
  h.keep fun hl => hb.block b (h.lt hl)

section
variable {H : Type} {enc : TypeId × Value → H} {W : World}

theorem add_plain (b off i : Nat) : (⟨b, off, none⟩ : Addr).add i = ⟨b, off + i, none⟩ := by unfold Addr.add; split <;> simp_all

theorem open_bytes {fuel : Nat} {v : Value} {x : DataW H × List MemPlace} (h : DataW.trod enc Tryz.prog W 0 (fun _ => true) true fuel 31 [v] = some x) (hw : ∀ n ∈ x.1.weights Tryz.prog 31, n ≤ reachBytes) :
    ∃ a b off len cap f, v = .slice a len cap ∧ Bs W a b off len f ∧ (a = none → len = 0 ∧ cap = 0) ∧ len ≤ 140737488351232 := by
  rcases open_ints Tryz.underlying31 Tryz.underlying5 cells5 h with ⟨hcs, _⟩ | ⟨x', l, c, zs, hcs, _, hl, hm, hz, hx, hcell, hwz⟩
  · simp at hcs
    exact ⟨none, 0, 0, 0, 0, fun _ => 0, hcs, ⟨fun h => absurd h (by omega), fun i hi => absurd hi (by omega), fun _ => by decide⟩, fun _ => ⟨rfl, rfl⟩, by omega⟩
  · simp at hcs
    have hz' : zs.length = c := by simpa using hz
    have hbd : ∀ i, 0 ≤ zs.getD i 0 ∧ zs.getD i 0 < 256 := fun i => by
      by_cases hi : i < zs.length
      · exact byte_bd (hwz (zs.getD i 0) (by simp [List.getD, List.getElem?_eq_getElem hi]))
      · rw [List.getD, List.getElem?_eq_none (by omega)]; decide
    refine ⟨some x', x'.block, x'.off, l, c, fun i => zs.getD i 0, hcs, ⟨fun h0 => congrArg some (spot_none (hcell 0 (by omega))), fun i hi => ?_, hbd⟩, (fun h => nomatch h), ?_⟩
    · have h := hcell i (by omega)
      rw [spot_none (hcell 0 (by omega)), add_plain] at h
      exact h
    · have h := hw ((zs.take l).length * 1 + (zs.drop l).length * 1) (by
        rw [hx]
        simp only [DataW.weights, Tryz.underlying31, bytes5, List.mem_cons]
        left
        simp [lits])
      simp only [reachBytes, List.length_take, List.length_drop] at h
      omega

theorem open_keep {fuel : Nat} {v : Value} {x : DataW H × List MemPlace} (h : DataW.trod enc Tryz.prog W 0 (fun _ => true) true fuel 62 [v] = some x) (hw : ∀ n ∈ x.1.weights Tryz.prog 62, n ≤ reachBytes) :
    ∃ a b off len cap f, v = .slice a len cap ∧ Bl W a b off len f ∧ (a = none → len = 0 ∧ cap = 0) ∧ len ≤ 140737488351232 := by
  rcases open_bools Tryz.underlying62 Tryz.underlying4 cells4 h with ⟨hcs, _⟩ | ⟨x', l, c, B, hcs, _, hl, hm, hx, hcell⟩
  · simp at hcs
    exact ⟨none, 0, 0, 0, 0, fun _ => false, hcs, ⟨fun h => absurd h (by omega), fun i hi => absurd hi (by omega)⟩, fun _ => ⟨rfl, rfl⟩, by omega⟩
  · simp at hcs
    refine ⟨some x', x'.block, x'.off, l, c, B, hcs, ⟨fun h0 => congrArg some (spot_none (hcell 0 (by omega))), fun i hi => ?_⟩, (fun h => nomatch h), ?_⟩
    · have h := hcell i (by omega)
      rw [spot_none (hcell 0 (by omega)), add_plain] at h
      exact h
    · have h := hw (l + (c - l)) (by
        rw [hx]
        simp only [boolRow, DataW.weights, Tryz.underlying62, bytes4, List.mem_cons]
        left
        simp)
      simp only [reachBytes] at h
      omega

set_option maxRecDepth 20000 in
end
end Go.Proofs.YtdbnnljlbfjobaaGreatDoor
