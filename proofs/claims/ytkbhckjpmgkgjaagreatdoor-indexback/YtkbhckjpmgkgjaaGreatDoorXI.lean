/- My own work: a version that came in, opened. My own work: the table of tens out of the row's list; what the law VersionBack is handed, opened. My own work: packages that came in, opened. -/
import Derived.Test.YtkbhckjpmgkgjaaGreatDoorV6
import Derived.ProofKit
import Derived.OpenShut
import Derived.ShutString
import Derived.ChangeOld
import Derived.SizedLaws
import Derived.Deep.DeepHandedRow
import Derived.Deep.Slices
import Derived.Deep.Strs
import Derived.Deep.Grids
import Derived.Lib.LaidTab
import Derived.Test.YtkbhckjpmgkgjaaGreatDoorV11
import Derived.LaidLaws
import Derived.Stop.LaidErr
import Derived.Test.YtkbhckjpmgkgjaaGreatDoorXE
namespace Go.Proofs.YtkbhckjpmgkgjaaGreatDoor
open Go.ChangeShapes Go.WideShapes Go.ChangeAt Go.RowKit Go.Deep

theorem own : ownKnob Tryz.prog.godebug = none := by kernel_rfl
theorem laidOut : laidOutB Tryz.prog = true := by kernel_rfl
theorem cellsVe : Tryz.prog.cellsOf 112 = 6 := by kernel_rfl
theorem cellsN4 : Tryz.prog.cellsOf 102 = 4 := by kernel_rfl
theorem cells3 : Tryz.prog.cellsOf 3 = 1 := by kernel_rfl
theorem cells9v : Tryz.prog.cellsOf 9 = 1 := by kernel_rfl
theorem len6 {α : Type} {l : List α} (h : l.length = 6) : ∃ a b c d e f, l = [a, b, c, d, e, f] := by
  match l, h with
  | [a, b, c, d, e, f], _ => exact ⟨a, b, c, d, e, f, rfl⟩
theorem len3 {α : Type} {l : List α} (h : l.length = 3) : ∃ a b c, l = [a, b, c] := by
  match l, h with
  | [a, b, c], _ => exact ⟨a, b, c, rfl⟩
theorem len4v {α : Type} {l : List α} (h : l.length = 4) : ∃ a b c d, l = [a, b, c, d] := by
  match l, h with
  | [a, b, c, d], _ => exact ⟨a, b, c, d, rfl⟩
/-- A number that an int may be. -/
def I64 (n : Int) : Prop := -9223372036854775808 ≤ n ∧ n ≤ 9223372036854775807
structure Fits (v : Ver) : Prop where
  n0 : I64 v.n0
  n1 : I64 v.n1
  n2 : I64 v.n2
  n3 : I64 v.n3
  cnt : I64 v.cnt
  tag : v.tag.size ≤ 140737488351232
theorem wf64 {z : Int} (h : Lit.wf (.int .i64 z) = true) : I64 z := by
  simp only [Lit.wf, IntKind.min, IntKind.max, IntKind.signed, IntKind.bits, Bool.and_eq_true] at h
  simp at h
  exact ⟨by omega, by omega⟩
variable {H : Type} {enc : TypeId × Value → H} {W : World}
theorem open_n4 {fuel : Nat} {cs : List Value} {x : DataW H × List MemPlace} (h : DataW.trod enc Tryz.prog W 0 (fun _ => true) true fuel 102 cs = some x) (hl : cs.length = 4) : ∃ a b c d : Int, cs = [.int .i64 a, .int .i64 b, .int .i64 c, .int .i64 d] ∧ I64 a ∧ I64 b ∧ I64 c ∧ I64 d := by
  obtain ⟨xs, m, _, _, _, hxl, hall⟩ := DataW.trod_array Tryz.underlying102 h
  have hz : ∀ i, i < 4 → ∃ z : Int, cs[i]? = some (.int .i64 z) ∧ I64 z := fun i hi => by
    have h1 := hall i hi
    rw [cells3, Nat.mul_one] at h1
    have hlt : i < xs.length := by omega
    rw [List.getElem?_eq_getElem hlt] at h1
    obtain ⟨z, hcz, _, hwf⟩ := DataW.trod_int Tryz.underlying3 h1
    have e := congrArg (·[0]?) hcz
    exact ⟨z, by simpa [Value.cells, List.getElem?_take, List.getElem?_drop] using e, wf64 hwf⟩
  obtain ⟨v0, v1, v2, v3, rfl⟩ := len4v hl
  obtain ⟨a, ha, fa⟩ := hz 0 (by omega)
  obtain ⟨b, hb, fb⟩ := hz 1 (by omega)
  obtain ⟨c, hc, fc⟩ := hz 2 (by omega)
  obtain ⟨d, hd, fd⟩ := hz 3 (by omega)
  simp at ha hb hc hd
  subst ha hb hc hd
  exact ⟨a, b, c, d, rfl, fa, fb, fc, fd⟩
theorem open_ver {fuel : Nat} {cs : List Value} {x : DataW H × List MemPlace} (h : DataW.trod enc Tryz.prog W 0 (fun _ => true) true fuel 112 cs = some x) (hw : ∀ n ∈ x.1.weights Tryz.prog 112, n ≤ reachBytes) : ∃ v, cs.toArray = verC v ∧ Fits v := by
  obtain ⟨xs, m, _, hx, hl, hxl, hall⟩ := DataW.trod_struct Tryz.underlying112 h
  rw [cellsVe] at hl
  have hxl' : xs.length = 3 := by rw [hxl]; rfl
  obtain ⟨v0, v1, v2, v3, v4, v5, rfl⟩ := len6 hl
  obtain ⟨y0, y1, y2, rfl⟩ := len3 hxl'
  have g0 := hall 0 _ rfl
  have g1 := hall 1 _ rfl
  have g2 := hall 2 _ rfl
  simp [cells3, cells9v, cellsN4] at g0 g1 g2
  have hwe : ∀ n ∈ DataW.weightsEach Tryz.prog [102, 3, 9] [y0.1, y1.1, y2.1], n ≤ reachBytes := by
    intro n hn
    refine hw n ?_
    rw [hx]
    simp only [DataW.weights, Tryz.underlying112]
    exact hn
  obtain ⟨a, b, c, d, e0, f0, f1, f2, f3⟩ := open_n4 g0 rfl
  obtain ⟨z, e1, _, hwf⟩ := DataW.trod_int Tryz.underlying3 g1
  obtain ⟨s, e2, rfl, _⟩ := DataW.trod_string Tryz.underlying9 g2
  simp at e0 e1 e2
  obtain ⟨rfl, rfl, rfl, rfl⟩ := e0
  subst e1 e2
  refine ⟨⟨a, b, c, d, z, s⟩, rfl, f0, f1, f2, f3, wf64 hwf, ?_⟩
  have h := hwe s.data.toList.length (DataW.weights_mem_each (j := 2) rfl rfl _ (by simp [DataW.weights]))
  simp only [reachBytes, Array.length_toList] at h
  exact h
end Go.Proofs.YtkbhckjpmgkgjaaGreatDoor
namespace Go.Proofs.YtkbhckjpmgkgjaaGreatDoor
open Go.ChangeShapes Go.WideShapes Go.ChangeAt Go.RowKit Go.Deep

theorem pow_eq : (Rows.laid_internal_strconv_uint64pow10 : DataW Unit) = Lib.tabData .u64 Lib.pow10Tab := by kernel_rfl
theorem gPwT : (Tryz.prog.globals[2]?).map (·.type) = some 260 := by kernel_rfl
theorem pw_of {rest : List (String × DataW Unit)} {W : World} (h : laidMet Tryz.prog (("internal/strconv.uint64pow10", Rows.laid_internal_strconv_uint64pow10) :: rest) W) : Pw W := by
  rw [pow_eq] at h
  exact Lib.tabIs_of_head gPw gPwT Tryz.underlying260 Tryz.underlying203 (by kernel_rfl) (by kernel_rfl) h
theorem len11 {α : Type} {l : List α} (h : l.length = 11) : ∃ a b c d e f g i j k m, l = [a, b, c, d, e, f, g, i, j, k, m] := by
  match l, h with
  | [a, b, c, d, e, f, g, i, j, k, m], _ => exact ⟨a, b, c, d, e, f, g, i, j, k, m, rfl⟩
variable {H : Type} {enc : TypeId × Value → H} {W : World}
end Go.Proofs.YtkbhckjpmgkgjaaGreatDoor
namespace Go.Proofs.YtkbhckjpmgkgjaaGreatDoor
open Go.ChangeShapes Go.WideShapes Go.ChangeAt Go.RowKit Go.Deep

theorem cellsNd : Tryz.prog.cellsOf 61 = 2 := by kernel_rfl
theorem cellsPk : Tryz.prog.cellsOf 44 = 3 := by kernel_rfl
theorem cellsNds : Tryz.prog.cellsOf 42 = 1 := by kernel_rfl
theorem bytesNd : Tryz.prog.bytesOf 61 = 32 := by kernel_rfl
theorem bytesPk : Tryz.prog.bytesOf 44 = 56 := by kernel_rfl
theorem addr_atP (b off i : Nat) : (⟨b, off, none⟩ : Addr).add i = ⟨b, off + i, none⟩ := by unfold Addr.add; split <;> simp_all
theorem len2p {α : Type} {l : List α} (h : l.length = 2) : ∃ a b, l = [a, b] := by
  match l, h with
  | [a, b], _ => exact ⟨a, b, rfl⟩
section
variable {H : Type} {enc : TypeId × Value → H} {W : World}
theorem weights_allP {e : TypeId} {d : DataW H} {n : Nat} (hn : n ∈ d.weights Tryz.prog e) : ∀ (L : List (DataW H)), d ∈ L → n ∈ DataW.weightsAll Tryz.prog e L
  | [], h => by cases h
  | y :: r, h => by
    simp only [DataW.weightsAll, List.mem_append]
    rcases List.mem_cons.1 h with e1 | e1
    · left; rw [← e1]; exact hn
    · right; exact weights_allP hn r e1
theorem open_need {fuel : Nat} {cs : List Value} {x : DataW H × List MemPlace} (h : DataW.trod enc Tryz.prog W 0 (fun _ => true) true fuel 61 cs = some x) (hw : ∀ n ∈ x.1.weights Tryz.prog 61, n ≤ reachBytes) : ∃ v : Ned, cs = encN v ∧ v.nm.size ≤ 140737488355328 ∧ v.rg.size ≤ 140737488355328 := by
  obtain ⟨xs, m, _, hx, hl, hxl, hall⟩ := DataW.trod_struct Tryz.underlying61 h
  rw [cellsNd] at hl
  have hxl' : xs.length = 2 := by rw [hxl]; rfl
  obtain ⟨v0, v1, rfl⟩ := len2p hl
  obtain ⟨y0, y1, rfl⟩ := len2p hxl'
  have g0 := hall 0 _ rfl
  have g1 := hall 1 _ rfl
  simp [cells9v] at g0 g1
  have hwe : ∀ n ∈ DataW.weightsEach Tryz.prog [9, 9] [y0.1, y1.1], n ≤ reachBytes := by
    intro n hn
    refine hw n ?_
    rw [hx]
    simp only [DataW.weights, Tryz.underlying61]
    exact hn
  obtain ⟨s0, e0, rfl, _⟩ := DataW.trod_string Tryz.underlying9 g0
  obtain ⟨s1, e1, rfl, _⟩ := DataW.trod_string Tryz.underlying9 g1
  simp at e0 e1
  subst e0 e1
  have h0 := hwe s0.data.toList.length (DataW.weights_mem_each (j := 0) rfl rfl _ (by simp [DataW.weights]))
  have h1 := hwe s1.data.toList.length (DataW.weights_mem_each (j := 1) rfl rfl _ (by simp [DataW.weights]))
  simp only [reachBytes, Array.length_toList] at h0 h1
  have k0 : s0.size ≤ 140737488351232 := h0
  have k1 : s1.size ≤ 140737488351232 := h1
  exact ⟨⟨s0, s1⟩, rfl, by show s0.size ≤ _; omega, by show s1.size ≤ _; omega⟩
theorem open_needs {fuel : Nat} {v : Value} {x : DataW H × List MemPlace} (h : DataW.trod enc Tryz.prog W 0 (fun _ => true) true fuel 42 [v] = some x) (hw : ∀ n ∈ x.1.weights Tryz.prog 42, n ≤ reachBytes) :
    ∃ L : List Ned, NeedsIn W v L ∧ L.length ≤ 140737488355328 ∧ ∀ n ∈ L, n.nm.size ≤ 140737488355328 ∧ n.rg.size ≤ 140737488355328 := by
  rcases open_slice Tryz.underlying42 h with ⟨hcs, hx⟩ | ⟨x', l, c, mm, n, D, Pl, hcs, _, hl, hm, hmm, hx4, hall4⟩
  · simp at hcs
    subst hcs
    exact ⟨[], ⟨none, 0, 0, 0, rfl, Nat.le_refl _, fun h => absurd h (by simp), fun _ => rfl, fun i hi => absurd hi (by simp)⟩, Nat.zero_le _, fun v hv => by cases hv⟩
  · simp at hcs
    subst hcs
    simp only [if_true] at hmm
    subst hmm
    rw [cellsNd] at hall4
    have each : ∀ i, i < l → ∃ y : Ned, W.cells? 0 (x'.add (i * 2)) 2 = some (encN y) ∧ y.nm.size ≤ 140737488355328 ∧ y.rg.size ≤ 140737488355328 := by
      intro i hi
      obtain ⟨cs', h1, h2⟩ := hall4 i (by omega)
      obtain ⟨z, h3, h4⟩ := open_need (x := (D i, Pl i)) h2 (fun q hq => hw q (by
        rw [hx4]
        simp only [DataW.weights, Tryz.underlying42, List.mem_cons, List.mem_append]
        right; left
        exact weights_allP hq _ (List.mem_map.2 ⟨i, List.mem_range.2 hi, rfl⟩)))
      exact ⟨z, by rw [← h3]; exact h1, h4⟩
    have : Inhabited Ned := ⟨⟨⟨#[]⟩, ⟨#[]⟩⟩⟩
    obtain ⟨Pf, hP⟩ := choose_lt each
    have hsp0 : 0 < l → x' = ⟨x'.block, x'.off, none⟩ := fun h0 => by
      obtain ⟨h1, _⟩ := hP 0 h0
      obtain ⟨_, hlen6, hcell⟩ := World.cells?_some h1
      have h3 := hcell 0 (by omega)
      rw [List.getElem?_eq_getElem (by omega)] at h3
      obtain ⟨bb, oo, sp⟩ := x'
      have hs : sp = none := by simpa [Addr.add] using World.cell?_spot h3
      rw [hs]
    have hcl : ∀ i, i < l → ∀ j u, (encN (Pf i))[j]? = some u → W.cell? ⟨x'.block, x'.off + i * 2 + j, none⟩ = some u := fun i hi j u hj => by
      obtain ⟨h1, _⟩ := hP i hi
      have hj6 : j < 2 := by
        have := (List.getElem?_eq_some_iff.1 hj).1
        simpa using this
      obtain ⟨_, hlen6, hcell⟩ := World.cells?_some h1
      have h4 := hcell j (by omega)
      rw [hj, hsp0 (by omega), addr_atP, addr_atP] at h4
      exact h4
    have hlen : ((List.range l).map Pf).length = l := by simp
    refine ⟨(List.range l).map Pf, ⟨some x', x'.block, x'.off, mm, by rw [hlen], by rw [hlen]; exact hl, fun h0 => ⟨congrArg some (hsp0 (by rw [hlen] at h0; exact h0)), ?_⟩, (fun h => nomatch h), fun i hi => ?_⟩, ?_, fun v hv => ?_⟩
    · rw [hlen] at h0
      exact World.block_lt_of_cell? W ⟨x'.block, x'.off + 0 * 2 + 0, none⟩ (hcl 0 h0 0 _ rfl)
    · rw [hlen] at hi
      simp only [List.getElem_map, List.getElem_range]
      exact hcl i hi
    · have h9 := hw ((l + (mm - l)) * 32) (by
        rw [hx4]
        simp only [DataW.weights, Tryz.underlying42, bytesNd, List.mem_cons, List.length_map, List.length_range]
        left
        first | trivial | (congr 2; simp))
      simp only [reachBytes] at h9
      rw [hlen]
      omega
    · obtain ⟨i, hi, rfl⟩ := List.mem_map.1 hv
      exact (hP i (List.mem_range.1 hi)).2
/-- What a package that came in has: texts that may be, and needs in memory. -/
structure PkO (W : World) (p : Pak) (nv : Value) : Prop where
  nm : p.nm.size ≤ 140737488355328
  vr : p.vr.size ≤ 140737488355328
  nds : NeedsIn W nv p.nd
  len : p.nd.length ≤ 140737488355328
  fit : ∀ n ∈ p.nd, n.nm.size ≤ 140737488355328 ∧ n.rg.size ≤ 140737488355328
theorem open_pack {fuel : Nat} {cs : List Value} {x : DataW H × List MemPlace} (h : DataW.trod enc Tryz.prog W 0 (fun _ => true) true fuel 44 cs = some x) (hw : ∀ n ∈ x.1.weights Tryz.prog 44, n ≤ reachBytes) : ∃ (p : Pak) (nv : Value), cs = encP p nv ∧ PkO W p nv := by
  obtain ⟨xs, m, _, hx, hl, hxl, hall⟩ := DataW.trod_struct Tryz.underlying44 h
  rw [cellsPk] at hl
  have hxl' : xs.length = 3 := by rw [hxl]; rfl
  obtain ⟨v0, v1, v2, rfl⟩ := len3 hl
  obtain ⟨y0, y1, y2, rfl⟩ := len3 hxl'
  have g0 := hall 0 _ rfl
  have g1 := hall 1 _ rfl
  have g2 := hall 2 _ rfl
  simp [cells9v, cellsNds] at g0 g1 g2
  have hwe : ∀ n ∈ DataW.weightsEach Tryz.prog [9, 9, 42] [y0.1, y1.1, y2.1], n ≤ reachBytes := by
    intro n hn
    refine hw n ?_
    rw [hx]
    simp only [DataW.weights, Tryz.underlying44]
    exact hn
  obtain ⟨s0, e0, rfl, _⟩ := DataW.trod_string Tryz.underlying9 g0
  obtain ⟨s1, e1, rfl, _⟩ := DataW.trod_string Tryz.underlying9 g1
  obtain ⟨ns, e2, f2, f3⟩ := open_needs g2 (fun n hn => hwe n (DataW.weights_mem_each (j := 2) rfl rfl n hn))
  simp at e0 e1
  subst e0 e1
  have h0 := hwe s0.data.toList.length (DataW.weights_mem_each (j := 0) rfl rfl _ (by simp [DataW.weights]))
  have h1 := hwe s1.data.toList.length (DataW.weights_mem_each (j := 1) rfl rfl _ (by simp [DataW.weights]))
  simp only [reachBytes, Array.length_toList] at h0 h1
  have k0 : s0.size ≤ 140737488351232 := h0
  have k1 : s1.size ≤ 140737488351232 := h1
  exact ⟨⟨s0, s1, ns⟩, v2, rfl, by show s0.size ≤ _; omega, by show s1.size ≤ _; omega, e2, f2, f3⟩
theorem open_packs {fuel : Nat} {v : Value} {x : DataW H × List MemPlace} (h : DataW.trod enc Tryz.prog W 0 (fun _ => true) true fuel 22 [v] = some x) (hw : ∀ n ∈ x.1.weights Tryz.prog 22, n ≤ reachBytes) :
    ∃ (a : Option Addr) (L : List Pak) (c : Nat), v = .slice a L.length c ∧ PacksIn W (.slice a L.length c) L ∧ FitP L ∧ L.length ≤ 140737488355328 ∧ ∀ p ∈ L, p.nd.length ≤ 140737488355328 := by
  rcases open_slice Tryz.underlying22 h with ⟨hcs, hx⟩ | ⟨x', l, c, mm, n, D, Pl, hcs, _, hl, hm, hmm, hx4, hall4⟩
  · simp at hcs
    subst hcs
    exact ⟨none, [], 0, rfl, ⟨none, 0, 0, 0, rfl, Nat.le_refl _, fun h => absurd h (by simp), fun _ => rfl, fun i hi => absurd hi (by simp)⟩, (fun v hv => by cases hv), Nat.zero_le _, fun v hv => by cases hv⟩
  · simp at hcs
    subst hcs
    simp only [if_true] at hmm
    subst hmm
    rw [cellsPk] at hall4
    have each : ∀ i, i < l → ∃ y : Pak × Value, W.cells? 0 (x'.add (i * 3)) 3 = some (encP y.1 y.2) ∧ PkO W y.1 y.2 := by
      intro i hi
      obtain ⟨cs', h1, h2⟩ := hall4 i (by omega)
      obtain ⟨z, nv, h3, h4⟩ := open_pack (x := (D i, Pl i)) h2 (fun q hq => hw q (by
        rw [hx4]
        simp only [DataW.weights, Tryz.underlying22, List.mem_cons, List.mem_append]
        right; left
        exact weights_allP hq _ (List.mem_map.2 ⟨i, List.mem_range.2 hi, rfl⟩)))
      exact ⟨(z, nv), by rw [← h3]; exact h1, h4⟩
    have : Inhabited (Pak × Value) := ⟨(⟨⟨#[]⟩, ⟨#[]⟩, []⟩, .slice none 0 0)⟩
    obtain ⟨Pf, hP⟩ := choose_lt each
    have hsp0 : 0 < l → x' = ⟨x'.block, x'.off, none⟩ := fun h0 => by
      obtain ⟨h1, _⟩ := hP 0 h0
      obtain ⟨_, hlen6, hcell⟩ := World.cells?_some h1
      have h3 := hcell 0 (by omega)
      rw [List.getElem?_eq_getElem (by omega)] at h3
      obtain ⟨bb, oo, sp⟩ := x'
      have hs : sp = none := by simpa [Addr.add] using World.cell?_spot h3
      rw [hs]
    have hcl : ∀ i, i < l → ∀ j u, (encP (Pf i).1 (Pf i).2)[j]? = some u → W.cell? ⟨x'.block, x'.off + i * 3 + j, none⟩ = some u := fun i hi j u hj => by
      obtain ⟨h1, _⟩ := hP i hi
      have hj6 : j < 3 := by
        have := (List.getElem?_eq_some_iff.1 hj).1
        simpa using this
      obtain ⟨_, hlen6, hcell⟩ := World.cells?_some h1
      have h4 := hcell j (by omega)
      rw [hj, hsp0 (by omega), addr_atP, addr_atP] at h4
      exact h4
    have hlen : ((List.range l).map fun i => (Pf i).1).length = l := by simp
    refine ⟨some x', (List.range l).map fun i => (Pf i).1, mm, by rw [hlen], ⟨some x', x'.block, x'.off, mm, rfl, by rw [hlen]; exact hl, fun h0 => ⟨congrArg some (hsp0 (by rw [hlen] at h0; exact h0)), ?_⟩, (fun h => nomatch h), fun i hi => ?_⟩, fun p hp => ?_, ?_, fun p hp => ?_⟩
    · rw [hlen] at h0
      exact World.block_lt_of_cell? W ⟨x'.block, x'.off + 0 * 3 + 0, none⟩ (hcl 0 h0 0 _ rfl)
    · rw [hlen] at hi
      simp only [List.getElem_map, List.getElem_range]
      exact ⟨(Pf i).2, hcl i hi, (hP i hi).2.nds⟩
    · obtain ⟨i, hi, rfl⟩ := List.mem_map.1 hp
      have hk := (hP i (List.mem_range.1 hi)).2
      exact ⟨hk.nm, hk.vr, hk.fit⟩
    · have h9 := hw ((l + (mm - l)) * 56) (by
        rw [hx4]
        simp only [DataW.weights, Tryz.underlying22, bytesPk, List.mem_cons, List.length_map, List.length_range]
        left
        first | trivial | (congr 2; simp))
      simp only [reachBytes] at h9
      rw [hlen]
      omega
    · obtain ⟨i, hi, rfl⟩ := List.mem_map.1 hp
      exact (hP i (List.mem_range.1 hi)).2.len
end
end Go.Proofs.YtkbhckjpmgkgjaaGreatDoor
