/- Nodes that came in, opened. -/
import Derived.Test.YtpkbfljoakodoaaDoorNd
import Derived.ProofKit
import Derived.OpenShut
import Derived.ShutString
import Derived.ChangeOld
import Derived.SizedLaws
import Derived.Deep.DeepHandedRow
import Derived.Deep.Slices
import Derived.Deep.Strs
import Derived.Deep.Grids
namespace Go.Proofs.YtpkbfljoakodoaaDoor
open Go.ChangeShapes Go.WideShapes Go.ChangeAt Go.RowKit Go.Deep

theorem own : ownKnob Tryd.prog.godebug = none := by kernel_rfl
theorem laidOut : laidOutB Tryd.prog = true := by kernel_rfl
theorem cells3 : Tryd.prog.cellsOf 3 = 1 := by kernel_rfl
theorem cells4 : Tryd.prog.cellsOf 4 = 1 := by kernel_rfl
theorem cells5 : Tryd.prog.cellsOf 5 = 1 := by kernel_rfl
theorem cells9 : Tryd.prog.cellsOf 9 = 1 := by kernel_rfl
theorem cellsBS : Tryd.prog.cellsOf 22 = 1 := by kernel_rfl
theorem cellsSS : Tryd.prog.cellsOf 23 = 1 := by kernel_rfl
theorem cellsNS : Tryd.prog.cellsOf 24 = 1 := by kernel_rfl
theorem cellsN : Tryd.prog.cellsOf 26 = 5 := by kernel_rfl
theorem bytes5 : Tryd.prog.bytesOf 5 = 1 := by kernel_rfl
theorem bytes9 : Tryd.prog.bytesOf 9 = 16 := by kernel_rfl
section
variable {H : Type} {enc : TypeId × Value → H} {W : World}
theorem int_bd {k : Int} (h : (Lit.int .i64 k).wf = true) : -9223372036854775808 ≤ k ∧ k ≤ 9223372036854775807 := by
  simp only [Lit.wf, IntKind.min, IntKind.max, IntKind.signed, IntKind.bits, Bool.and_eq_true] at h
  simp at h
  omega
theorem byte_bd {k : Int} (h : (Lit.int .u8 k).wf = true) : 0 ≤ k ∧ k < 256 := by
  simp only [Lit.wf, IntKind.min, IntKind.max, IntKind.signed, IntKind.bits, Bool.and_eq_true] at h
  simp at h
  omega
theorem spot_none {x : Addr} {v : Value} (h : W.cell? (x.add 0) = some v) : x = ⟨x.block, x.off, none⟩ := by
  obtain ⟨b, off, spot⟩ := x
  have hs : spot = none := by simpa [Addr.add] using World.cell?_spot h
  rw [hs]
theorem addr_plain (b off i : Nat) : (⟨b, off, none⟩ : Addr).add i = ⟨b, off + i, none⟩ := by unfold Addr.add; split <;> simp_all
theorem open_bytesN {fuel : Nat} {v : Value} {x : DataW H × List MemPlace} (h : DataW.trod enc Tryd.prog W 0 (fun _ => true) true fuel 22 [v] = some x) (hw : ∀ n ∈ x.1.weights Tryd.prog 22, n ≤ reachBytes) :
    ∃ a d c, v = .slice a d.size c ∧ BytesAt W a d c := by
  rcases open_ints Tryd.underlying22 Tryd.underlying5 cells5 h with ⟨hcs, _⟩ | ⟨x', l, c, zs, hcs, _, hl, hm, hz, hx, hcell, hwz⟩
  · simp at hcs
    exact ⟨none, ⟨#[]⟩, 0, hcs, ⟨⟨0, 0, fun h => absurd h (by decide), fun i hi => absurd hi (by simp [ByteArray.size])⟩, fun _ => ⟨rfl, rfl⟩, Nat.le_refl _, by unfold maxLen; omega, by unfold big; exact Nat.zero_le _⟩⟩
  · simp at hcs
    have hz' : zs.length = c := by simpa using hz
    have hsz : (ByteArray.mk ((zs.take l).map fun z => UInt8.ofNat z.toNat).toArray).size = l := by simp [ByteArray.size]; omega
    have hbf : ∀ i, i < l → bf (ByteArray.mk ((zs.take l).map fun z => UInt8.ofNat z.toNat).toArray) i = zs.getD i 0 := fun i hi => by
      have hil : i < zs.length := by omega
      have hb := byte_bd (hwz (zs.getD i 0) (by simp [List.getD, List.getElem?_eq_getElem hil]))
      simp only [List.getD, List.getElem?_eq_getElem hil, Option.getD_some] at hb ⊢
      unfold bf
      simp only [List.getElem?_toArray, List.getElem?_map, List.getElem?_take_of_lt hi, List.getElem?_eq_getElem hil, Option.map_some, Option.getD_some]
      simp
      omega
    refine ⟨some x', ⟨((zs.take l).map fun z => UInt8.ofNat z.toNat).toArray⟩, c, by rw [hsz]; exact hcs, ⟨⟨x'.block, x'.off, fun h0 => congrArg some (spot_none (hcell 0 (by omega))), fun i hi => ?_⟩, (fun h => nomatch h), by omega, hm, ?_⟩⟩
    · rw [hsz] at hi
      have h := hcell i (by omega)
      rw [spot_none (hcell 0 (by omega)), addr_plain] at h
      rw [hbf i hi]
      exact h
    · have h := hw ((zs.take l).length * 1 + (zs.drop l).length * 1) (by
        rw [hx]
        simp only [DataW.weights, Tryd.underlying22, bytes5, List.mem_cons]
        left
        simp [lits])
      simp only [reachBytes, List.length_take, List.length_drop] at h
      rw [hsz]
      unfold big
      omega
theorem weights_all {e : TypeId} {d : DataW H} {n : Nat} (hn : n ∈ d.weights Tryd.prog e) : ∀ (L : List (DataW H)), d ∈ L → n ∈ DataW.weightsAll Tryd.prog e L
  | [], h => by cases h
  | y :: r, h => by
    simp only [DataW.weightsAll, List.mem_append]
    rcases List.mem_cons.1 h with e1 | e1
    · left; rw [← e1]; exact hn
    · right; exact weights_all hn r e1
theorem open_strsN {fuel : Nat} {v : Value} {x : DataW H × List MemPlace} (h : DataW.trod enc Tryd.prog W 0 (fun _ => true) true fuel 23 [v] = some x) (hw : ∀ n ∈ x.1.weights Tryd.prog 23, n ≤ reachBytes) :
    ∃ a ns c, v = .slice a (ns : List ByteArray).length c ∧ StrsAt W a ns c := by
  rcases open_strs Tryd.underlying23 Tryd.underlying9 cells9 h with ⟨hcs, _⟩ | ⟨x', l, c, m, Sx, hcs, _, hl, hm, hmm, hx, hcell⟩
  · simp at hcs
    exact ⟨none, [], 0, hcs, ⟨⟨0, 0, fun h => absurd h (by simp), fun i hi => absurd hi (by simp)⟩, fun _ => ⟨rfl, rfl⟩, Nat.le_refl _, by unfold maxLen; omega, by unfold big; exact Nat.zero_le _, fun s hs => by cases hs⟩⟩
  · simp at hcs
    simp only [if_true] at hmm
    subst hmm
    have hln : ((List.range l).map Sx).length = l := by simp
    refine ⟨some x', (List.range l).map Sx, m, by rw [hln]; exact hcs, ⟨⟨x'.block, x'.off, fun h0 => congrArg some (spot_none (hcell 0 (by rw [hln] at h0; omega)).1), fun i hi => ?_⟩, (fun h => nomatch h), by rw [hln]; exact hl, hm, ?_, fun s hs => ?_⟩⟩
    · rw [hln] at hi
      have h := (hcell i (by omega)).1
      rw [spot_none (hcell 0 (by omega)).1, addr_plain] at h
      rw [h]
      simp
    · have h := hw ((l + (m - l)) * 16) (by
        rw [hx]
        simp only [DataW.weights, Tryd.underlying23, bytes9, List.mem_cons, List.length_map, List.length_range]
        left
        trivial)
      simp only [reachBytes] at h
      rw [hln]
      unfold big
      omega
    · obtain ⟨i, hi, rfl⟩ := List.mem_map.1 hs
      have hi' := List.mem_range.1 hi
      have h := hw (Sx i).data.toList.length (by
        rw [hx]
        simp only [DataW.weights, Tryd.underlying23, List.mem_cons, List.mem_append]
        right; left
        exact weights_all (d := .lit (.string (Sx i).data.toList)) (by simp [DataW.weights]) _ (List.mem_map.2 ⟨i, hi, rfl⟩))
      simp only [reachBytes, Array.length_toList] at h
      unfold big
      exact h
set_option maxRecDepth 20000 in
theorem open_nodeN (N : Nat) : ∀ (fuel : Nat) (cs : List Value) (x : DataW H × List MemPlace), SizeOf.sizeOf x.1 ≤ N → DataW.trod enc Tryd.prog W 0 (fun _ => true) true fuel 26 cs = some x → (∀ n ∈ x.1.weights Tryd.prog 26, n ≤ reachBytes) → ∃ n, NodeAt W n cs.toArray := by
  induction N with
  | zero =>
    intro fuel cs x hs h hw
    obtain ⟨xs, m, _, hx, _⟩ := DataW.trod_struct Tryd.underlying26 h
    rw [hx] at hs
    simp at hs
  | succ N ih =>
    intro fuel cs x hs h hw
    obtain ⟨xs, m, _, hx, hl, hxl, hall⟩ := DataW.trod_struct Tryd.underlying26 h
    rw [cellsN] at hl
    match cs, hl with
    | [v0, v1, v2, v3, v4], _ =>
    have hxl' : xs.length = 5 := by rw [hxl]; rfl
    match xs, hxl' with
    | [y0, y1, y2, y3, y4], _ =>
    have g0 := hall 0 _ rfl
    have g1 := hall 1 _ rfl
    have g2 := hall 2 _ rfl
    have g3 := hall 3 _ rfl
    have g4 := hall 4 _ rfl
    simp [cells3, cells4, cellsBS, cellsSS, cellsNS] at g0 g1 g2 g3 g4
    have hwe : ∀ n ∈ DataW.weightsEach Tryd.prog [3, 4, 22, 23, 24] [y0.1, y1.1, y2.1, y3.1, y4.1], n ≤ reachBytes := by
      intro n hn
      refine hw n ?_
      rw [hx]
      simp only [DataW.weights, Tryd.underlying26]
      exact hn
    obtain ⟨k, e0, _, b0⟩ := DataW.trod_int Tryd.underlying3 g0
    obtain ⟨ex, e1, _⟩ := DataW.trod_bool Tryd.underlying4 g1
    obtain ⟨da, d, dc, e2, hB⟩ := open_bytesN g2 (fun n hn => hwe n (DataW.weights_mem_each (j := 2) rfl rfl n hn))
    obtain ⟨na, ns, nc, e3, hS⟩ := open_strsN g3 (fun n hn => hwe n (DataW.weights_mem_each (j := 3) rfl rfl n hn))
    simp at e0 e1
    subst e0 e1 e2 e3
    have hw4 : ∀ n ∈ y4.1.weights Tryd.prog 24, n ≤ reachBytes := fun n hn => hwe n (DataW.weights_mem_each (j := 4) rfl rfl n hn)
    have hs4 : SizeOf.sizeOf y4.1 ≤ N := by
      rw [hx] at hs
      simp at hs
      omega
    rcases open_slice Tryd.underlying24 g4 with ⟨hcs, _⟩ | ⟨x', l, c, mm, n, D, Pl, hcs, _, hl, hm, hmm, hx4, hall4⟩
    · simp at hcs
      subst hcs
      exact ⟨.mk k ex d ns [], .mk (kb := 0) (koff := 0) (Cs := fun _ => #[]) (int_bd b0) hB hS ⟨fun h => absurd h (by simp), fun i hi => absurd hi (by simp), fun i hi => absurd hi (by simp), fun _ => ⟨rfl, rfl⟩, Nat.le_refl _, by unfold maxLen; omega⟩ (fun i h => absurd h (by simp))⟩
    · simp at hcs
      subst hcs
      simp only [if_true] at hmm
      subst hmm
      rw [cellsN] at hall4
      have hsp0 : 0 < l → x' = ⟨x'.block, x'.off, none⟩ := fun h0 => by
        obtain ⟨cs', h1, h2⟩ := hall4 0 (by omega)
        obtain ⟨_, hlen6, hcell⟩ := World.cells?_some h1
        have h3 := hcell 0 (by omega)
        rw [List.getElem?_eq_getElem (by omega)] at h3
        obtain ⟨bb, oo, sp⟩ := x'
        have hs : sp = none := by simpa [Addr.add] using World.cell?_spot h3
        rw [hs]
      have each : ∀ i, i < l → ∃ p : Nd × Array Value, NodeAt W p.1 p.2 ∧ p.2.size = 5 ∧ ∀ j, j < 5 → W.cell? ⟨x'.block, x'.off + i * 5 + j, none⟩ = p.2[j]? := by
        intro i hi
        obtain ⟨cs', h1, h2⟩ := hall4 i (by omega)
        have hmem : D i ∈ (List.range l).map D := List.mem_map.2 ⟨i, List.mem_range.2 hi, rfl⟩
        obtain ⟨nd, hnd⟩ := ih n cs' (D i, Pl i) (by
          have h3 := List.sizeOf_lt_of_mem hmem
          rw [hx4] at hs4
          simp at hs4
          simp only
          omega) h2 (fun q hq => hw4 q (by
          rw [hx4]
          simp only [DataW.weights, Tryd.underlying24, List.mem_cons, List.mem_append]
          right; left
          exact weights_all hq _ hmem))
        obtain ⟨_, hlen6, hcell⟩ := World.cells?_some h1
        refine ⟨(nd, cs'.toArray), hnd, by simpa using hlen6, fun j hj => ?_⟩
        have h3 := hcell j (by omega)
        rw [hsp0 (by omega), addr_plain, addr_plain] at h3
        rw [h3]
        simp
      obtain ⟨P, hP⟩ := choose_lt each
      refine ⟨.mk k ex d ns ((List.range l).map fun i => (P i).1), ?_⟩
      have hlen : ((List.range l).map fun i => (P i).1).length = l := by simp
      have hk : KidsAt W (some x') x'.block x'.off ((List.range l).map fun i => (P i).1).length mm (fun i => (P i).2) := by
        rw [hlen]
        exact ⟨fun h0 => congrArg some (hsp0 h0), fun i hi j hj => (hP i hi).2.2 j hj, fun i hi => (hP i hi).2.1, (fun h => nomatch h), hl, hm⟩
      have hfin : NodeAt W (.mk k ex d ns ((List.range l).map fun i => (P i).1)) (nodeV k ex da d.size dc na ns.length nc (some x') ((List.range l).map fun i => (P i).1).length mm) := .mk (int_bd b0) hB hS hk (fun i h => by
        rw [hlen] at h
        simp only [List.getElem_map, List.getElem_range]
        exact (hP i h).1)
      rw [hlen] at hfin
      exact hfin
end
end Go.Proofs.YtpkbfljoakodoaaDoor
