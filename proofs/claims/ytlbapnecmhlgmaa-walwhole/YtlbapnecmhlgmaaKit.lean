/- Acts that came in, opened. -/
import Derived.Test.YtlbapnecmhlgmaaSector
import Derived.ProofKit
import Derived.OpenShut
import Derived.ShutString
import Derived.ChangeOld
import Derived.SizedLaws
import Derived.Deep.DeepHandedRow
import Derived.Deep.Slices
import Derived.Deep.Grids
namespace Go.Proofs.Ytlbapnecmhlgmaa
open Go.ChangeShapes Go.WideShapes Go.ChangeAt Go.RowKit Go.Deep

theorem own : ownKnob Try.prog.godebug = none := by kernel_rfl
theorem laidOut : laidOutB Try.prog = true := by kernel_rfl
theorem cells3 : Try.prog.cellsOf 3 = 1 := by kernel_rfl
theorem cells4 : Try.prog.cellsOf 4 = 1 := by kernel_rfl
theorem cells5 : Try.prog.cellsOf 5 = 1 := by kernel_rfl
theorem cells31 : Try.prog.cellsOf 40 = 1 := by kernel_rfl
theorem cells32 : Try.prog.cellsOf 41 = 1 := by kernel_rfl
theorem cells34 : Try.prog.cellsOf 43 = 6 := by kernel_rfl
theorem bytes5 : Try.prog.bytesOf 5 = 1 := by kernel_rfl
theorem bytes4 : Try.prog.bytesOf 4 = 1 := by kernel_rfl

/-- Bools that lie in memory. -/
structure Bl (w : World) (a : Option Addr) (b off len : Nat) (f : Nat → Bool) : Prop where
  at' : 0 < len → a = some ⟨b, off, none⟩
  cell : ∀ i, i < len → w.cell? ⟨b, off + i, none⟩ = some (.bool (f i))
theorem Bl.lt {w : World} {a : Option Addr} {b off len : Nat} {f : Nat → Bool} (h : Bl w a b off len f) (hl : 0 < len) : b < w.heap.size := World.block_lt_of_cell? _ _ (h.cell 0 hl)
theorem Bl.keep {w wr : World} {a : Option Addr} {b off len : Nat} {f : Nat → Bool} (h : Bl w a b off len f) (hb : 0 < len → wr.heap[b]? = w.heap[b]?) : Bl wr a b off len f :=
  ⟨h.at', fun i hi => (World.cell?_of_block (w := w) (hb (by omega))).trans (h.cell i hi)⟩
theorem Bl.belowAll {w wr : World} {a : Option Addr} {b off len : Nat} {f : Nat → Bool} (h : Bl w a b off len f) (hb : Below w.heap.size w wr) : Bl wr a b off len f :=
  h.keep fun hl => hb.block b (h.lt hl)

/-- An act: what it holds, and where its bytes and bools lie. -/
structure ActD where
  kind : Int
  n : Int
  back : Int
  a : Option Addr
  b : Nat
  off : Nat
  len : Nat
  cap : Nat
  f : Nat → Int
  fill : Int
  ka : Option Addr
  kb : Nat
  koff : Nat
  klen : Nat
  kcap : Nat
  kf : Nat → Bool
instance : Inhabited ActD := ⟨⟨0, 0, 0, none, 0, 0, 0, 0, fun _ => 0, 0, none, 0, 0, 0, 0, fun _ => false⟩⟩
def ActD.cells (x : ActD) : Array Value := actV x.kind x.n x.back x.a x.len x.cap x.fill x.ka x.klen x.kcap
structure ActD.In (x : ActD) (W : World) : Prop where
  bytes : Bs W x.a x.b x.off x.len x.f
  nil : x.a = none → x.len = 0 ∧ x.cap = 0
  len : x.len ≤ 140737488351232
  keep : Bl W x.ka x.kb x.koff x.klen x.kf
  knil : x.ka = none → x.klen = 0 ∧ x.kcap = 0
  klen : x.klen ≤ 140737488351232
  kind : -9223372036854775808 ≤ x.kind ∧ x.kind ≤ 9223372036854775807
  n : -9223372036854775808 ≤ x.n ∧ x.n ≤ 9223372036854775807
  back : -9223372036854775808 ≤ x.back ∧ x.back ≤ 9223372036854775807
  fill : 0 ≤ x.fill ∧ x.fill < 256
theorem ActD.In.below {x : ActD} {w w' : World} (h : x.In w) (hb : Below w.heap.size w w') : x.In w' :=
  ⟨h.bytes.belowAll hb, h.nil, h.len, h.keep.belowAll hb, h.knil, h.klen, h.kind, h.n, h.back, h.fill⟩

section
variable {H : Type} {enc : TypeId × Value → H} {W : World}

theorem int_bd {k : Int} (h : (Lit.int .i64 k).wf = true) : -9223372036854775808 ≤ k ∧ k ≤ 9223372036854775807 := by
  simp only [Lit.wf, IntKind.min, IntKind.max, IntKind.signed, IntKind.bits, Bool.and_eq_true] at h
  simp at h
  omega
theorem byte_bd {k : Int} (h : (Lit.int .u8 k).wf = true) : 0 ≤ k ∧ k < 256 := by
  simp only [Lit.wf, IntKind.min, IntKind.max, IntKind.signed, IntKind.bits, Bool.and_eq_true] at h
  simp at h
  omega

theorem spot_none {x : Addr} {v : Value} (h : W.cell? (x.add 0) = some v) : x = ⟨x.block, x.off, none⟩ := by
  obtain ⟨b, off, spot⟩ := x
  have hs : spot = none := by simpa [Addr.add] using World.cell?_spot h
  rw [hs]
theorem add_plain (b off i : Nat) : (⟨b, off, none⟩ : Addr).add i = ⟨b, off + i, none⟩ := by unfold Addr.add; split <;> simp_all

theorem open_bytes {fuel : Nat} {v : Value} {x : DataW H × List MemPlace} (h : DataW.trod enc Try.prog W 0 (fun _ => true) true fuel 40 [v] = some x) (hw : ∀ n ∈ x.1.weights Try.prog 40, n ≤ reachBytes) :
    ∃ a b off len cap f, v = .slice a len cap ∧ Bs W a b off len f ∧ (a = none → len = 0 ∧ cap = 0) ∧ len ≤ 140737488351232 := by
  rcases open_ints Try.underlying40 Try.underlying5 cells5 h with ⟨hcs, _⟩ | ⟨x', l, c, zs, hcs, _, hl, hm, hz, hx, hcell, hwz⟩
  · simp at hcs
    exact ⟨none, 0, 0, 0, 0, fun _ => 0, hcs, ⟨fun h => absurd h (by omega), fun i hi => absurd hi (by omega), fun _ => by decide⟩, fun _ => ⟨rfl, rfl⟩, by omega⟩
  · simp at hcs
    have hz' : zs.length = c := by simpa using hz
    have hbd : ∀ i, 0 ≤ zs.getD i 0 ∧ zs.getD i 0 < 256 := fun i => by
      by_cases hi : i < zs.length
      · exact byte_bd (hwz (zs.getD i 0) (by simp [List.getD, List.getElem?_eq_getElem hi]))
      · rw [List.getD, List.getElem?_eq_none (by omega)]; decide
    refine ⟨some x', x'.block, x'.off, l, c, fun i => zs.getD i 0, hcs, ⟨fun h0 => congrArg some (spot_none (hcell 0 (by omega))), fun i hi => ?_, hbd⟩, (fun h => nomatch h), ?_⟩
    · have h := hcell i (by omega)
      rw [spot_none (hcell 0 (by omega)), add_plain] at h
      exact h
    · have h := hw ((zs.take l).length * 1 + (zs.drop l).length * 1) (by
        rw [hx]
        simp only [DataW.weights, Try.underlying40, bytes5, List.mem_cons]
        left
        simp [lits])
      simp only [reachBytes, List.length_take, List.length_drop] at h
      omega

theorem open_keep {fuel : Nat} {v : Value} {x : DataW H × List MemPlace} (h : DataW.trod enc Try.prog W 0 (fun _ => true) true fuel 41 [v] = some x) (hw : ∀ n ∈ x.1.weights Try.prog 41, n ≤ reachBytes) :
    ∃ a b off len cap f, v = .slice a len cap ∧ Bl W a b off len f ∧ (a = none → len = 0 ∧ cap = 0) ∧ len ≤ 140737488351232 := by
  rcases open_bools Try.underlying41 Try.underlying4 cells4 h with ⟨hcs, _⟩ | ⟨x', l, c, B, hcs, _, hl, hm, hx, hcell⟩
  · simp at hcs
    exact ⟨none, 0, 0, 0, 0, fun _ => false, hcs, ⟨fun h => absurd h (by omega), fun i hi => absurd hi (by omega)⟩, fun _ => ⟨rfl, rfl⟩, by omega⟩
  · simp at hcs
    refine ⟨some x', x'.block, x'.off, l, c, B, hcs, ⟨fun h0 => congrArg some (spot_none (hcell 0 (by omega))), fun i hi => ?_⟩, (fun h => nomatch h), ?_⟩
    · have h := hcell i (by omega)
      rw [spot_none (hcell 0 (by omega)), add_plain] at h
      exact h
    · have h := hw (l + (c - l)) (by
        rw [hx]
        simp only [boolRow, DataW.weights, Try.underlying41, bytes4, List.mem_cons]
        left
        simp)
      simp only [reachBytes] at h
      omega

set_option maxRecDepth 20000 in
theorem open_act {fuel : Nat} {cs : List Value} {x : DataW H × List MemPlace} (h : DataW.trod enc Try.prog W 0 (fun _ => true) true fuel 43 cs = some x) (hw : ∀ n ∈ x.1.weights Try.prog 43, n ≤ reachBytes) :
    ∃ X : ActD, cs = X.cells.toList ∧ X.In W := by
  obtain ⟨xs, m, _, hx, hl, hxl, hall⟩ := DataW.trod_struct Try.underlying43 h
  rw [cells34] at hl
  match cs, hl with
  | [v0, v1, v2, v3, v4, v5], _ =>
  have hxl' : xs.length = 6 := by rw [hxl]; rfl
  match xs, hxl' with
  | [y0, y1, y2, y3, y4, y5], _ =>
  have g0 := hall 0 _ rfl
  have g1 := hall 1 _ rfl
  have g2 := hall 2 _ rfl
  have g3 := hall 3 _ rfl
  have g4 := hall 4 _ rfl
  have g5 := hall 5 _ rfl
  simp [cells3, cells5, cells31, cells32] at g0 g1 g2 g3 g4 g5
  have hwe : ∀ n ∈ DataW.weightsEach Try.prog [3, 3, 3, 40, 5, 41] [y0.1, y1.1, y2.1, y3.1, y4.1, y5.1], n ≤ reachBytes := by
    intro n hn
    refine hw n ?_
    rw [hx]
    simp only [DataW.weights, Try.underlying43]
    exact hn
  obtain ⟨k, e0, _, b0⟩ := DataW.trod_int Try.underlying3 g0
  obtain ⟨n, e1, _, b1⟩ := DataW.trod_int Try.underlying3 g1
  obtain ⟨back, e2, _, b2⟩ := DataW.trod_int Try.underlying3 g2
  obtain ⟨a, b, off, len, cap, f, e3, hB, hnil, hlen⟩ := open_bytes g3 (fun n hn => hwe n (DataW.weights_mem_each (j := 3) rfl rfl n hn))
  obtain ⟨fill, e4, _, b4⟩ := DataW.trod_int Try.underlying5 g4
  obtain ⟨ka, kb, koff, klen, kcap, kf, e5, hK, hknil, hklen⟩ := open_keep g5 (fun n hn => hwe n (DataW.weights_mem_each (j := 5) rfl rfl n hn))
  simp at e0 e1 e2 e4
  subst e0 e1 e2 e3 e4 e5
  exact ⟨⟨k, n, back, a, b, off, len, cap, f, fill, ka, kb, koff, klen, kcap, kf⟩, rfl, ⟨hB, hnil, hlen, hK, hknil, hklen, int_bd b0, int_bd b1, int_bd b2, byte_bd b4⟩⟩

/-- A list of acts that came in. -/
structure Acts (W : World) (a : Option Addr) (b off len : Nat) (X : Nat → ActD) : Prop where
  at' : 0 < len → a = some ⟨b, off, none⟩
  cell : ∀ i, i < len → ∀ j, j < 6 → W.cell? ⟨b, off + i * 6 + j, none⟩ = (X i).cells[j]?
  is : ∀ i, i < len → (X i).In W
theorem Acts.belowAll {w w' : World} {a : Option Addr} {b off len : Nat} {X : Nat → ActD} (h : Acts w a b off len X) (hb : Below w.heap.size w w') : Acts w' a b off len X :=
  ⟨h.at', fun i hi j hj => by
    have hc := h.cell i hi j hj
    have hlt : b < w.heap.size := by
      have e : (X i).cells[j]? = some ((X i).cells[j]'hj) := Array.getElem?_eq_getElem _
      rw [e] at hc
      exact World.block_lt_of_cell? _ ⟨b, off + i * 6 + j, none⟩ hc
    rw [hb.cell (p := ⟨b, off + i * 6 + j, none⟩) hlt]
    exact hc, fun i hi => (h.is i hi).below hb⟩

theorem open_acts {a : Option Addr} {len cap fuel : Nat} {x : DataW H × List MemPlace} (h : DataW.trod enc Try.prog W 0 (fun _ => true) true fuel 22 [.slice a len cap] = some x) (hw : ∀ n ∈ x.1.weights Try.prog 22, n ≤ reachBytes) :
    ∃ b off X, Acts W a b off len X ∧ len ≤ cap ∧ cap ≤ maxLen ∧ (a = none → len = 0 ∧ cap = 0) := by
  rcases open_slice Try.underlying22 h with ⟨hcs, _⟩ | ⟨x', l, c, m, n, D, Pl, hcs, _, hl, hm, hmm, hx, hall⟩
  · simp at hcs
    obtain ⟨rfl, rfl, rfl⟩ := hcs
    exact ⟨0, 0, fun _ => ⟨0, 0, 0, none, 0, 0, 0, 0, fun _ => 0, 0, none, 0, 0, 0, 0, fun _ => false⟩, ⟨fun h => absurd h (by omega), fun i hi => absurd hi (by omega), fun i hi => absurd hi (by omega)⟩, by omega, by decide, fun _ => ⟨rfl, rfl⟩⟩
  · simp at hcs
    obtain ⟨rfl, rfl, rfl⟩ := hcs
    simp only [if_true] at hmm
    subst hmm
    rw [cells34] at hall
    have hsp0 : 0 < len → x' = ⟨x'.block, x'.off, none⟩ := fun h0 => by
      obtain ⟨cs', h1, h2⟩ := hall 0 (by omega)
      obtain ⟨_, hlen6, hcell⟩ := World.cells?_some h1
      have h3 := hcell 0 (by omega)
      rw [List.getElem?_eq_getElem (by omega)] at h3
      obtain ⟨bb, oo, sp⟩ := x'
      have hs : sp = none := by simpa [Addr.add] using World.cell?_spot h3
      rw [hs]
    have each : ∀ i, i < len → ∃ X : ActD, X.In W ∧ ∀ j, j < 6 → W.cell? ⟨x'.block, x'.off + i * 6 + j, none⟩ = X.cells[j]? ∧ x' = ⟨x'.block, x'.off, none⟩ := by
      intro i hi
      obtain ⟨cs', h1, h2⟩ := hall i (by omega)
      obtain ⟨X, hX, hin⟩ := open_act h2 (fun n hn => hw n (by
        rw [hx]
        simp only [DataW.weights, Try.underlying22, List.mem_cons, List.mem_append]
        right; left
        have hmem : D i ∈ (List.range len).map D := List.mem_map.2 ⟨i, List.mem_range.2 hi, rfl⟩
        revert hmem
        generalize (List.range len).map D = L
        intro hmem
        induction L with
        | nil => cases hmem
        | cons d r ih =>
          simp only [DataW.weightsAll, List.mem_append]
          rcases List.mem_cons.1 hmem with e | e
          · left; rw [← e]; exact hn
          · right; exact ih e))
      obtain ⟨_, hlen6, hcell⟩ := World.cells?_some h1
      have hsp := hsp0 (by omega)
      refine ⟨X, hin, fun j hj => ⟨?_, hsp⟩⟩
      have hc := hcell j (by omega)
      rw [hsp, add_plain, add_plain, hX] at hc
      rw [hc]
      simp
    obtain ⟨X, hX⟩ := choose_lt each
    exact ⟨x'.block, x'.off, X, ⟨fun h0 => congrArg some ((hX 0 h0).2 0 (by omega)).2, fun i hi j hj => ((hX i hi).2 j hj).1, fun i hi => (hX i hi).1⟩, hl, hm, fun h => nomatch h⟩
end
end Go.Proofs.Ytlbapnecmhlgmaa
