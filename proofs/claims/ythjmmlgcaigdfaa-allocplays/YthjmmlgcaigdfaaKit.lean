/- What came in, opened: bytes, ints, acts. -/
import Derived.Test.YthjmmlgcaigdfaaSet
import Derived.ProofKit
import Derived.OpenShut
import Derived.ShutString
import Derived.ChangeOld
import Derived.SizedLaws
import Derived.Deep.DeepHandedRow
import Derived.Deep.Slices
import Derived.Deep.Grids
namespace Go.Proofs.Ythjmmlgcaigdfaa
open Go.ChangeShapes Go.WideShapes Go.ChangeAt Go.RowKit Go.Deep

theorem own : ownKnob Try.prog.godebug = none := by kernel_rfl
theorem laidOut : laidOutB Try.prog = true := by kernel_rfl
theorem cells3 : Try.prog.cellsOf 3 = 1 := by kernel_rfl
theorem cells5 : Try.prog.cellsOf 5 = 1 := by kernel_rfl
theorem cells32 : Try.prog.cellsOf 32 = 3 := by kernel_rfl
theorem bytes5 : Try.prog.bytesOf 5 = 1 := by kernel_rfl
theorem bytes3 : Try.prog.bytesOf 3 = 8 := by kernel_rfl

/-- Bytes that lie in memory: their numbers by the place. -/
structure Bs (w : World) (a : Option Addr) (b off len : Nat) (f : Nat → Int) : Prop where
  at' : 0 < len → a = some ⟨b, off, none⟩
  cell : ∀ i, i < len → w.cell? ⟨b, off + i, none⟩ = some (.int .u8 (f i))
  bd : ∀ i, 0 ≤ f i ∧ f i < 256
theorem Bs.lt {w : World} {a : Option Addr} {b off len : Nat} {f : Nat → Int} (h : Bs w a b off len f) (hl : 0 < len) : b < w.heap.size := World.block_lt_of_cell? _ _ (h.cell 0 hl)
theorem Bs.keep {w wr : World} {a : Option Addr} {b off len : Nat} {f : Nat → Int} (h : Bs w a b off len f) (hb : 0 < len → wr.heap[b]? = w.heap[b]?) : Bs wr a b off len f :=
  ⟨h.at', fun i hi => (World.cell?_of_block (w := w) (hb (by omega))).trans (h.cell i hi), h.bd⟩
theorem Bs.belowAll {w wr : World} {a : Option Addr} {b off len : Nat} {f : Nat → Int} (h : Bs w a b off len f) (hb : Below w.heap.size w wr) : Bs wr a b off len f :=
  h.keep fun hl => hb.block b (h.lt hl)
/-- Ints that lie in memory. -/
structure Is (w : World) (a : Option Addr) (b off len : Nat) (f : Nat → Int) : Prop where
  at' : 0 < len → a = some ⟨b, off, none⟩
  cell : ∀ i, i < len → w.cell? ⟨b, off + i, none⟩ = some (.int .i64 (f i))
  bd : ∀ i, -9223372036854775808 ≤ f i ∧ f i ≤ 9223372036854775807
theorem Is.lt {w : World} {a : Option Addr} {b off len : Nat} {f : Nat → Int} (h : Is w a b off len f) (hl : 0 < len) : b < w.heap.size := World.block_lt_of_cell? _ _ (h.cell 0 hl)
theorem Is.belowAll {w wr : World} {a : Option Addr} {b off len : Nat} {f : Nat → Int} (h : Is w a b off len f) (hb : Below w.heap.size w wr) : Is wr a b off len f :=
  ⟨h.at', fun i hi => (World.cell?_of_block (w := w) (hb.block b (h.lt (by omega)))).trans (h.cell i hi), h.bd⟩
/-- An act: its kind, its number, how often. -/
structure ActD where
  kind : Int
  n : Int
  times : Int
instance : Inhabited ActD := ⟨⟨0, 0, 0⟩⟩
def ActD.cells (x : ActD) : Array Value := #[.int .i64 x.kind, .int .i64 x.n, .int .i64 x.times]
structure Acts (W : World) (a : Option Addr) (b off len : Nat) (X : Nat → ActD) : Prop where
  at' : 0 < len → a = some ⟨b, off, none⟩
  cell : ∀ i, i < len → ∀ j, j < 3 → W.cell? ⟨b, off + i * 3 + j, none⟩ = (X i).cells[j]?
theorem Acts.belowAll {w w' : World} {a : Option Addr} {b off len : Nat} {X : Nat → ActD} (h : Acts w a b off len X) (hb : Below w.heap.size w w') : Acts w' a b off len X :=
  ⟨h.at', fun i hi j hj => by
    have hc := h.cell i hi j hj
    have hlt : b < w.heap.size := by
      have e : (X i).cells[j]? = some ((X i).cells[j]'hj) := Array.getElem?_eq_getElem _
      rw [e] at hc
      exact World.block_lt_of_cell? _ ⟨b, off + i * 3 + j, none⟩ hc
    rw [hb.cell (p := ⟨b, off + i * 3 + j, none⟩) hlt]
    exact hc⟩

section
variable {H : Type} {enc : TypeId × Value → H} {W : World}

theorem int_bd {k : Int} (h : (Lit.int .i64 k).wf = true) : -9223372036854775808 ≤ k ∧ k ≤ 9223372036854775807 := by
  simp only [Lit.wf, IntKind.min, IntKind.max, IntKind.signed, IntKind.bits, Bool.and_eq_true] at h
  simp at h
  omega
theorem byte_bd {k : Int} (h : (Lit.int .u8 k).wf = true) : 0 ≤ k ∧ k < 256 := by
  simp only [Lit.wf, IntKind.min, IntKind.max, IntKind.signed, IntKind.bits, Bool.and_eq_true] at h
  simp at h
  omega

theorem spot_none {x : Addr} {v : Value} (h : W.cell? (x.add 0) = some v) : x = ⟨x.block, x.off, none⟩ := by
  obtain ⟨b, off, spot⟩ := x
  have hs : spot = none := by simpa [Addr.add] using World.cell?_spot h
  rw [hs]
theorem add_plain (b off i : Nat) : (⟨b, off, none⟩ : Addr).add i = ⟨b, off + i, none⟩ := by unfold Addr.add; split <;> simp_all

theorem open_bytes {fuel : Nat} {v : Value} {x : DataW H × List MemPlace} (h : DataW.trod enc Try.prog W 0 (fun _ => true) true fuel 42 [v] = some x) (hw : ∀ n ∈ x.1.weights Try.prog 42, n ≤ reachBytes) :
    ∃ a b off len cap f, v = .slice a len cap ∧ Bs W a b off len f ∧ (a = none → len = 0 ∧ cap = 0) ∧ len ≤ 140737488351232 := by
  rcases open_ints Try.underlying42 Try.underlying5 cells5 h with ⟨hcs, _⟩ | ⟨x', l, c, zs, hcs, _, hl, hm, hz, hx, hcell, hwz⟩
  · simp at hcs
    exact ⟨none, 0, 0, 0, 0, fun _ => 0, hcs, ⟨fun h => absurd h (by omega), fun i hi => absurd hi (by omega), fun _ => by decide⟩, fun _ => ⟨rfl, rfl⟩, by omega⟩
  · simp at hcs
    have hz' : zs.length = c := by simpa using hz
    have hbd : ∀ i, 0 ≤ zs.getD i 0 ∧ zs.getD i 0 < 256 := fun i => by
      by_cases hi : i < zs.length
      · exact byte_bd (hwz (zs.getD i 0) (by simp [List.getD, List.getElem?_eq_getElem hi]))
      · rw [List.getD, List.getElem?_eq_none (by omega)]; decide
    refine ⟨some x', x'.block, x'.off, l, c, fun i => zs.getD i 0, hcs, ⟨fun h0 => congrArg some (spot_none (hcell 0 (by omega))), fun i hi => ?_, hbd⟩, (fun h => nomatch h), ?_⟩
    · have h := hcell i (by omega)
      rw [spot_none (hcell 0 (by omega)), add_plain] at h
      exact h
    · have h := hw ((zs.take l).length * 1 + (zs.drop l).length * 1) (by
        rw [hx]
        simp only [DataW.weights, Try.underlying42, bytes5, List.mem_cons]
        left
        simp [lits])
      simp only [reachBytes, List.length_take, List.length_drop] at h
      omega

theorem open_nums {fuel : Nat} {v : Value} {x : DataW H × List MemPlace} (h : DataW.trod enc Try.prog W 0 (fun _ => true) true fuel 55 [v] = some x) :
    ∃ a b off len cap f, v = .slice a len cap ∧ Is W a b off len f ∧ (a = none → len = 0 ∧ cap = 0) ∧ len ≤ cap ∧ cap ≤ maxLen := by
  rcases open_ints Try.underlying55 Try.underlying3 cells3 h with ⟨hcs, _⟩ | ⟨x', l, c, zs, hcs, _, hl, hm, hz, hx, hcell, hwz⟩
  · simp at hcs
    exact ⟨none, 0, 0, 0, 0, fun _ => 0, hcs, ⟨fun h => absurd h (by omega), fun i hi => absurd hi (by omega), fun _ => by decide⟩, fun _ => ⟨rfl, rfl⟩, by omega, by decide⟩
  · simp at hcs
    have hz' : zs.length = c := by simpa using hz
    have hbd : ∀ i, -9223372036854775808 ≤ zs.getD i 0 ∧ zs.getD i 0 ≤ 9223372036854775807 := fun i => by
      by_cases hi : i < zs.length
      · exact int_bd (hwz (zs.getD i 0) (by simp [List.getD, List.getElem?_eq_getElem hi]))
      · rw [List.getD, List.getElem?_eq_none (by omega)]; decide
    refine ⟨some x', x'.block, x'.off, l, c, fun i => zs.getD i 0, hcs, ⟨fun h0 => congrArg some (spot_none (hcell 0 (by omega))), fun i hi => ?_, hbd⟩, (fun h => nomatch h), hl, hm⟩
    · have h := hcell i (by omega)
      rw [spot_none (hcell 0 (by omega)), add_plain] at h
      exact h

theorem open_act {fuel : Nat} {cs : List Value} {x : DataW H × List MemPlace} (h : DataW.trod enc Try.prog W 0 (fun _ => true) true fuel 32 cs = some x) : ∃ X : ActD, cs = X.cells.toList := by
  obtain ⟨xs, m, _, hx, hl, hxl, hall⟩ := DataW.trod_struct Try.underlying32 h
  rw [cells32] at hl
  match cs, hl with
  | [v0, v1, v2], _ =>
  have hxl' : xs.length = 3 := by rw [hxl]; rfl
  match xs, hxl' with
  | [y0, y1, y2], _ =>
  have g0 := hall 0 _ rfl
  have g1 := hall 1 _ rfl
  have g2 := hall 2 _ rfl
  simp [cells3] at g0 g1 g2
  obtain ⟨k, e0, _, b0⟩ := DataW.trod_int Try.underlying3 g0
  obtain ⟨n, e1, _, b1⟩ := DataW.trod_int Try.underlying3 g1
  obtain ⟨t, e2, _, b2⟩ := DataW.trod_int Try.underlying3 g2
  simp at e0 e1 e2
  subst e0 e1 e2
  exact ⟨⟨k, n, t⟩, rfl⟩
theorem open_acts {a : Option Addr} {len cap fuel : Nat} {x : DataW H × List MemPlace} (h : DataW.trod enc Try.prog W 0 (fun _ => true) true fuel 22 [.slice a len cap] = some x) :
    ∃ b off X, Acts W a b off len X ∧ len ≤ cap ∧ cap ≤ maxLen ∧ (a = none → len = 0 ∧ cap = 0) := by
  rcases open_slice Try.underlying22 h with ⟨hcs, _⟩ | ⟨x', l, c, m, n, D, Pl, hcs, _, hl, hm, hmm, hx, hall⟩
  · simp at hcs
    obtain ⟨rfl, rfl, rfl⟩ := hcs
    exact ⟨0, 0, fun _ => ⟨0, 0, 0⟩, ⟨fun h => absurd h (by omega), fun i hi => absurd hi (by omega)⟩, by omega, by decide, fun _ => ⟨rfl, rfl⟩⟩
  · simp at hcs
    obtain ⟨rfl, rfl, rfl⟩ := hcs
    simp only [if_true] at hmm
    subst hmm
    rw [cells32] at hall
    have hsp0 : 0 < len → x' = ⟨x'.block, x'.off, none⟩ := fun h0 => by
      obtain ⟨cs', h1, h2⟩ := hall 0 (by omega)
      obtain ⟨_, hlen6, hcell⟩ := World.cells?_some h1
      have h3 := hcell 0 (by omega)
      rw [List.getElem?_eq_getElem (by omega)] at h3
      obtain ⟨bb, oo, sp⟩ := x'
      have hs : sp = none := by simpa [Addr.add] using World.cell?_spot h3
      rw [hs]
    have each : ∀ i, i < len → ∃ X : ActD, ∀ j, j < 3 → W.cell? ⟨x'.block, x'.off + i * 3 + j, none⟩ = X.cells[j]? ∧ x' = ⟨x'.block, x'.off, none⟩ := by
      intro i hi
      obtain ⟨cs', h1, h2⟩ := hall i (by omega)
      obtain ⟨X, hX⟩ := open_act h2
      obtain ⟨_, hlen6, hcell⟩ := World.cells?_some h1
      have hsp := hsp0 (by omega)
      refine ⟨X, fun j hj => ⟨?_, hsp⟩⟩
      have hc := hcell j (by omega)
      rw [hsp, add_plain, add_plain, hX] at hc
      rw [hc]
      simp
    obtain ⟨X, hX⟩ := choose_lt each
    exact ⟨x'.block, x'.off, X, ⟨fun h0 => congrArg some (hX 0 h0 0 (by omega)).2, fun i hi j hj => (hX i hi j hj).1⟩, hl, hm, fun h => nomatch h⟩
end
end Go.Proofs.Ythjmmlgcaigdfaa
