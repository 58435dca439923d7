/- What the proofs of the cards share: the tables out of the rows' lists, arguments opened. -/
import Derived.Test.YthidlckipiamkaaDoorCards
import Derived.Test.YthidlckipiamkaaDoorTie
import Derived.Test.YthidlckipiamkaaDoorXG
import Derived.ProofKit
import Derived.OpenShut
import Derived.ShutString
import Derived.ChangeOld
import Derived.Below
import Derived.SizedLaws
import Derived.Deep.DeepHandedRow
import Derived.Lib.LaidTab
namespace Go.Proofs.YthidlckipiamkaaDoor.S2
set_option maxRecDepth 20000
open Go.ChangeShapes Go.WideShapes Go.ChangeAt Go.RowKit

theorem own : ownKnob Tryd.prog.godebug = none := by kernel_rfl
theorem laidOut : laidOutB Tryd.prog = true := by kernel_rfl
theorem gTab : Tryd.prog.globalNamed "stillroom/bits.signs" = some 1 := by kernel_rfl
theorem gTabType : (Tryd.prog.globals[1]?).map (·.type) = some 51 := by kernel_rfl
theorem cells23 : Tryd.prog.cellsOf 51 = 32 := by kernel_rfl
theorem cells5 : Tryd.prog.cellsOf 5 = 1 := by kernel_rfl
theorem bytes5 : Tryd.prog.bytesOf 5 = 1 := by kernel_rfl

/-- What the row's list gives: block 2 holds the table. -/
theorem table {W : World} (h : laidMetH Tryd.prog [("stillroom/bits.signs", Rows.laid_stillroom_bits_signs)] W) : Tab W := by
  have h1 : Lib.TabIs Tryd.prog W "stillroom/bits.signs" .u8 sgs := Lib.tabIs_of_head (rest := []) gTab gTabType Tryd.underlying51 Tryd.underlying5 cells5 cells23 h
  unfold Lib.TabIs World.var? at h1
  rw [gTab] at h1
  simp only [Option.bind_some] at h1
  split at h1
  · rename_i cs t fr hh
    exact ⟨t, fr, by rw [hh]; congr 1; congr 1; exact Option.some.inj h1⟩
  · cases h1

/-- Bytes that came in: their numbers by the place, 0 behind them. -/
structure Bs (w : World) (a : Option Addr) (b off len : Nat) (f : Nat → Int) : Prop where
  at' : 0 < len → a = some ⟨b, off, none⟩
  cell : ∀ i, i < len → w.cell? ⟨b, off + i, none⟩ = some (.int .u8 (f i))
  bd : ∀ i, 0 ≤ f i ∧ f i < 256
  past : ∀ i, len ≤ i → f i = 0

theorem Bs.below {w wr : World} {a : Option Addr} {b off len : Nat} {f : Nat → Int} (h : Bs w a b off len f) (hb : Below w.heap.size w wr) : Bs wr a b off len f :=
  ⟨h.at', fun i hi => by rw [hb.cell (p := ⟨b, off + i, none⟩) (World.block_lt_of_cell? _ _ (h.cell i hi))]; exact h.cell i hi, h.bd, h.past⟩

/-- An argument of bytes, opened. -/
theorem open_bytes {H : Type} {enc : TypeId × Value → H} {W : World} {a : Option Addr} {len cap : Nat} {d : DataW H} {p : List MemPlace}
    (h : DataW.Trod enc Tryd.prog W 0 (fun _ => true) true 38 (.slice a len cap) d p) :
    ∃ b off f, Bs W a b off len f ∧ (len = 0 ∨ ∃ elems spare, d = .slice elems spare ∧ len ≤ elems.length + spare.length) ∧ (a = none → len = 0 ∧ cap = 0) := by
  obtain ⟨fuel, hf⟩ := h
  rcases open_ints Tryd.underlying38 Tryd.underlying5 cells5 hf with ⟨hcs, _⟩ | ⟨x, l, c, zs, hcs, _, hl, hm, hz, hx, hcell, hwz⟩
  · simp [Value.cells] at hcs
    obtain ⟨rfl, rfl, rfl⟩ := hcs
    exact ⟨0, 0, fun _ => 0, ⟨fun h => absurd h (by omega), fun i hi => absurd hi (by omega), fun _ => by decide, fun _ _ => rfl⟩, .inl rfl, fun _ => ⟨rfl, rfl⟩⟩
  · simp [Value.cells] at hcs
    obtain ⟨rfl, rfl, rfl⟩ := hcs
    have hz' : zs.length = cap := by simpa using hz
    obtain ⟨b, off, spot⟩ := x
    have hd : d = .slice (lits .u8 (zs.take len)) (lits .u8 (zs.drop len)) := congrArg Prod.fst hx
    have hbd : ∀ i, 0 ≤ (if i < len then zs.getD i 0 else 0) ∧ (if i < len then zs.getD i 0 else 0) < 256 := fun i => by
      by_cases hi : i < len
      · rw [if_pos hi]
        have hi' : i < zs.length := by omega
        have h := hwz (zs.getD i 0) (by simp [List.getD, List.getElem?_eq_getElem hi'])
        simp only [Lit.wf, IntKind.min, IntKind.max, IntKind.signed, IntKind.bits, Bool.and_eq_true] at h
        simp at h
        simp only [List.getD_eq_getElem?_getD]
        omega
      · rw [if_neg hi]; decide
    have hlen : len ≤ (lits (H := H) .u8 (zs.take len)).length + (lits (H := H) .u8 (zs.drop len)).length := by
      simp [lits]; omega
    refine ⟨b, off, fun i => if i < len then zs.getD i 0 else 0, ⟨fun h0 => ?_, fun i hi => ?_, hbd, fun i hi => by rw [if_neg (by omega)]⟩, .inr ⟨_, _, hd, hlen⟩, fun h => by cases h⟩
    · have hs : spot = none := by simpa [Addr.add] using World.cell?_spot (hcell 0 (by omega))
      rw [hs]
    · have hs : spot = none := by simpa [Addr.add] using World.cell?_spot (hcell 0 (by omega))
      subst hs
      have h := hcell i (by omega)
      have hp : (⟨b, off, none⟩ : Addr).add i = ⟨b, off + i, none⟩ := by unfold Addr.add; split <;> simp_all
      rw [hp] at h
      rw [h, if_pos hi]

/-- A digest that came in, opened: thirty-two bytes. -/
theorem open_digest {H : Type} {enc : TypeId × Value → H} {W : World} {base : Nat} {v : Value} {d : DataW H} {p : List MemPlace} (hv : Value.okWide Tryd.prog W .any base 51 v)
    (h : DataW.Trod enc Tryd.prog W 0 (fun _ => true) true 51 v d p) : ∃ f, v = .agg (arr f 32) ∧ (∀ i, 0 ≤ f i ∧ f i < 256) ∧ (∀ i, 32 ≤ i → f i = 0) := by
  simp only [Value.okWide, Tryd.underlying51] at hv
  obtain ⟨cs, rfl, hcs, _⟩ := hv
  rw [cells23] at hcs
  obtain ⟨fuel, hf⟩ := h
  obtain ⟨xs, m, _, _, _, _, hall⟩ := DataW.trod_array Tryd.underlying51 hf
  have hz : ∀ i, i < 32 → ∃ z : Int, cs[i]? = some (.int .u8 z) ∧ 0 ≤ z ∧ z < 256 := fun i hi => by
    have h1 := hall i hi
    rw [cells5, Nat.mul_one] at h1
    have hlt : i < xs.length := by omega
    rw [List.getElem?_eq_getElem hlt] at h1
    obtain ⟨z, hcz, _, hwf⟩ := DataW.trod_int Tryd.underlying5 h1
    have h2 : cs[i]? = some (.int .u8 z) := by
      have := congrArg (·[0]?) hcz
      simpa [Value.cells, List.getElem?_take, List.getElem?_drop] using this
    simp only [Lit.wf, IntKind.min, IntKind.max, IntKind.signed, IntKind.bits, Bool.and_eq_true] at hwf
    simp at hwf
    exact ⟨z, h2, by omega, by omega⟩
  refine ⟨fun i => if i < 32 then (match cs[i]? with | some (.int _ z) => z | _ => 0) else 0, ?_, fun i => ?_, fun i hi => if_neg (by omega)⟩
  · congr 1
    apply Array.ext_getElem?
    intro i
    by_cases hi : i < 32
    · obtain ⟨z, h2, _⟩ := hz i hi
      rw [arr_at _ 32 i hi]
      simp only [if_pos hi, h2]
    · have e : (arr (fun i => if i < 32 then (match cs[i]? with | some (.int _ z) => z | _ => 0) else 0) 32)[i]? = none := by simp [arr, Nat.not_lt.1 hi]
      rw [e, Array.getElem?_eq_none (by omega)]
  · by_cases hi : i < 32
    · obtain ⟨z, h2, h3, h4⟩ := hz i hi
      simp only [if_pos hi, h2]
      exact ⟨h3, h4⟩
    · simp only [if_neg hi]
      decide
/-- A byte that came in. -/
theorem open_byte {H : Type} {enc : TypeId × Value → H} {W : World} {base : Nat} {v : Value} {d : DataW H} {p : List MemPlace} (hv : Value.okWide Tryd.prog W .any base 5 v)
    (h : DataW.Trod enc Tryd.prog W 0 (fun _ => true) true 5 v d p) : ∃ n, v = .int .u8 n ∧ 0 ≤ n ∧ n < 256 := by
  obtain ⟨n, rfl⟩ := okWide_int Tryd.underlying5 hv
  obtain ⟨fuel, hf⟩ := h
  obtain ⟨z, hcz, _, hwf⟩ := DataW.trod_int Tryd.underlying5 hf
  have e : n = z := by
    have := congrArg (·[0]?) hcz
    simpa [Value.cells] using this
  subst e
  simp only [Lit.wf, IntKind.min, IntKind.max, IntKind.signed, IntKind.bits, Bool.and_eq_true] at hwf
  simp at hwf
  exact ⟨n, rfl, by omega, by omega⟩
end Go.Proofs.YthidlckipiamkaaDoor.S2
