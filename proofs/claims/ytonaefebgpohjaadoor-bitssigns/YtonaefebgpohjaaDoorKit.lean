/- What both proofs over the table of signs share: the table out of the row's list, an argument of bytes opened. -/
import Derived.Test.YtonaefebgpohjaaDoorCards
import Derived.Test.YtonaefebgpohjaaDoorTie
import Derived.Test.YtonaefebgpohjaaDoorBack
import Derived.ProofKit
import Derived.OpenShut
import Derived.ShutString
import Derived.ChangeOld
import Derived.Below
import Derived.SizedLaws
import Derived.Deep.DeepHandedRow
import Derived.Lib.LaidTab
namespace Go.Proofs.YtonaefebgpohjaaDoor
open Go.ChangeShapes Go.WideShapes Go.ChangeAt Go.RowKit

theorem own : ownKnob Tryd.prog.godebug = none := by kernel_rfl
theorem laidOut : laidOutB Tryd.prog = true := by kernel_rfl
theorem gTab : Tryd.prog.globalNamed "stillroom/bits.signs" = some 0 := by kernel_rfl
theorem gTabType : (Tryd.prog.globals[0]?).map (·.type) = some 34 := by kernel_rfl
theorem cells34 : Tryd.prog.cellsOf 34 = 32 := by kernel_rfl
theorem cells5 : Tryd.prog.cellsOf 5 = 1 := by kernel_rfl
theorem bytes5 : Tryd.prog.bytesOf 5 = 1 := by kernel_rfl

/-- What the row's list gives: block 0 holds the table. -/
theorem table {W : World} (h : laidMetH Tryd.prog [("stillroom/bits.signs", Rows.laid_stillroom_bits_signs)] W) : Tab W := by
  have h1 : Lib.TabIs Tryd.prog W "stillroom/bits.signs" .u8 sgs := Lib.tabIs_of_head (rest := []) gTab gTabType Tryd.underlying34 Tryd.underlying5 cells5 cells34 h
  unfold Lib.TabIs World.var? at h1
  rw [gTab] at h1
  simp only [Option.bind_some] at h1
  split at h1
  · rename_i cs t fr hh
    exact ⟨t, fr, by rw [hh]; congr 1; congr 1; exact Option.some.inj h1⟩
  · cases h1

/-- An argument of bytes, opened. -/
theorem open_bytes {H : Type} {enc : TypeId × Value → H} {W : World} {a : Option Addr} {len cap : Nat} {d : DataW H} {p : List MemPlace}
    (h : DataW.Trod enc Tryd.prog W 0 (fun _ => true) true 22 (.slice a len cap) d p) :
    ∃ b off f, Bs W a b off len f ∧ (len = 0 ∨ ∃ elems spare, d = .slice elems spare ∧ len ≤ elems.length + spare.length) ∧ (a = none → len = 0 ∧ cap = 0) := by
  obtain ⟨fuel, hf⟩ := h
  rcases open_ints Tryd.underlying22 Tryd.underlying5 cells5 hf with ⟨hcs, _⟩ | ⟨x, l, c, zs, hcs, _, hl, hm, hz, hx, hcell, hwz⟩
  · simp [Value.cells] at hcs
    obtain ⟨rfl, rfl, rfl⟩ := hcs
    exact ⟨0, 0, fun _ => 0, ⟨fun h => absurd h (by omega), fun i hi => absurd hi (by omega), fun _ => by decide, fun _ _ => rfl⟩, .inl rfl, fun _ => ⟨rfl, rfl⟩⟩
  · simp [Value.cells] at hcs
    obtain ⟨rfl, rfl, rfl⟩ := hcs
    have hz' : zs.length = cap := by simpa using hz
    obtain ⟨b, off, spot⟩ := x
    have hd : d = .slice (lits .u8 (zs.take len)) (lits .u8 (zs.drop len)) := congrArg Prod.fst hx
    have hbd : ∀ i, 0 ≤ (if i < len then zs.getD i 0 else 0) ∧ (if i < len then zs.getD i 0 else 0) < 256 := fun i => by
      by_cases hi : i < len
      · rw [if_pos hi]
        have hi' : i < zs.length := by omega
        have h := hwz (zs.getD i 0) (by simp [List.getD, List.getElem?_eq_getElem hi'])
        simp only [Lit.wf, IntKind.min, IntKind.max, IntKind.signed, IntKind.bits, Bool.and_eq_true] at h
        simp at h
        simp only [List.getD_eq_getElem?_getD]
        omega
      · rw [if_neg hi]; decide
    have hlen : len ≤ (lits (H := H) .u8 (zs.take len)).length + (lits (H := H) .u8 (zs.drop len)).length := by
      simp [lits]; omega
    refine ⟨b, off, fun i => if i < len then zs.getD i 0 else 0, ⟨fun h0 => ?_, fun i hi => ?_, hbd, fun i hi => by rw [if_neg (by omega)]⟩, .inr ⟨_, _, hd, hlen⟩, fun h => by cases h⟩
    · have hs : spot = none := by simpa [Addr.add] using World.cell?_spot (hcell 0 (by omega))
      rw [hs]
    · have hs : spot = none := by simpa [Addr.add] using World.cell?_spot (hcell 0 (by omega))
      subst hs
      have h := hcell i (by omega)
      have hp : (⟨b, off, none⟩ : Addr).add i = ⟨b, off + i, none⟩ := by unfold Addr.add; split <;> simp_all
      rw [hp] at h
      rw [h, if_pos hi]

end Go.Proofs.YtonaefebgpohjaaDoor
