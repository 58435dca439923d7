/- The three disks at the start of the last loop. -/
import Derived.Test.YtlbapnecmhlgmaaWKit2
namespace Go.Proofs.Ytlbapnecmhlgmaa
open Go.RowKit

theorem rl_start {w0 wE wO wF wG wH : World} {sv : Value} {sts : List ByteArray} {T : ByteArray} {go go1 co1 go2 co2 gf gf1 cf1 gf2 cf2 gh gh1 ch1 gh2 ch2 : Nat} {ev1 : Value} {D1 : Dk} {X Xh : Nat → Int}
    (rs : wO.ownsRow w0.heap.size 9 1 sv sts.length (sts.map Value.string)) (oldE : Below w0.heap.size w0 wE) (hbO : Below wE.heap.size wE wO) (hO : DiskAt wO wE.heap.size go go1 co1 go2 co2 (.slice none 0 0) (freshD 12 X)) (hbF : Below wO.heap.size wO wF)
    (hT : To wF wG wO.heap.size gf gf1 cf1 gf2 cf2 (.slice none 0 0) ev1 D1) (hBG : Below wO.heap.size wF wG) (hOp : Opn T (freshD 12 X) D1) (hH : DiskAt wH wG.heap.size gh gh1 ch1 gh2 ch2 (.slice none 0 0) (freshD 12 Xh)) (hbH : Below wG.heap.size wG wH) (rX : Rec T X) (rH : Rec T Xh) :
    Rl w0 sv sts T wH.heap.size go gf gh 0 (wH.alloc (.cells #[.pointer (some ⟨go, 0, none⟩), .pointer (some ⟨gh, 0, none⟩)] 23)) := by
  have hbI : Below wH.heap.size wH (wH.alloc (.cells #[.pointer (some ⟨go, 0, none⟩), .pointer (some ⟨gh, 0, none⟩)] 23)) := (Below.refl _ _).alloc (Nat.le_refl _) _
  have s1 := oldE.size
  have s2 := hbO.size
  have s3 := hbF.size
  have s4 := hBG.size
  have s5 := hbH.size
  have s6 := hbI.size
  have hGI : Below wG.heap.size wG (wH.alloc (.cells #[.pointer (some ⟨go, 0, none⟩), .pointer (some ⟨gh, 0, none⟩)] 23)) := hbH.trans (hbI.mono s5)
  have hOI : Below wO.heap.size wO (wH.alloc (.cells #[.pointer (some ⟨go, 0, none⟩), .pointer (some ⟨gh, 0, none⟩)] 23)) := hbF.trans (hBG.trans (hGI.mono (by omega)))
  refine ⟨wE.heap.size, go1, co1, go2, co2, wO.heap.size, gf1, cf1, gf2, cf2, wG.heap.size, gh1, ch1, gh2, ch2, ev1, D1, .slice none 0 0, freshD 12 X, .slice none 0 0, freshD 12 Xh, ⟨own_below rs hOI, Row.new wH _ 23, hO.below hOI (Nat.le_refl _), hT.disk.below hGI (Nat.le_refl _), hH.below hbI (Nat.le_refl _),
    oldE.trans ((hbO.mono s1).trans (hOI.mono (by omega))), ⟨hO.row.lt, hO.lt1, hO.lt2⟩, ⟨hT.disk.row.lt, hT.disk.lt1, hT.disk.lt2⟩, by omega, by omega, s1, s2⟩, ⟨hOp.shows, hOp.s12⟩, .inl ⟨rfl, rfl, rfl, X, Xh, rfl, rfl, rX, rH⟩⟩
theorem own_int {w : World} {base q c : Nat} {ends : List Nat} (h : w.ownsRow base 3 1 (.slice (some ⟨q, 0, none⟩) ends.length c) ends.length (ends.map fun k => Value.int .i64 (k : Nat))) (k : Nat) (hk : k < ends.length) : w.cell? ⟨q, k, none⟩ = some (.int .i64 (ends.getD k 0 : Nat)) := by
  rw [h.cellAt k (by omega)]
  simp [List.getD, List.getElem?_eq_getElem hk]
theorem own_str {w : World} {base q c : Nat} {sts : List ByteArray} (h : w.ownsRow base 9 1 (.slice (some ⟨q, 0, none⟩) sts.length c) sts.length (sts.map Value.string)) (k : Nat) (hk : k < sts.length) : w.cell? ⟨q, k, none⟩ = some (.string (sts.getD k ⟨#[]⟩)) := by
  rw [h.cellAt k (by omega)]
  simp [List.getD, List.getElem?_eq_getElem hk]
theorem after_zero {w : World} {base g g1 c1 g2 c2 : Nat} {X : Nat → Int} (hD : DiskAt w base g g1 c1 g2 c2 (.slice none 0 0) (freshD 12 X)) :
    Calls Try.prog 27 #[.pointer (some ⟨g, 0, none⟩), .int .i64 0, .slice none 0 0] w fun e w' => ∃ g' g1' c1' g2' c2', e = .returned (.tuple #[.pointer (some ⟨g', 0, none⟩), .int .i64 0]) ∧ DiskAt w' w.heap.size g' g1' c1' g2' c2' (.slice none 0 0) (freshD 12 X) ∧ Below w.heap.size w w' :=
  after_ok hD 0 (Nat.zero_le _) (by show 0 ≤ _; omega) none 0 0 0 0 (fun _ => false) ⟨fun h => absurd h (by omega), fun i hi => absurd hi (by omega)⟩ (by decide)
end Go.Proofs.Ytlbapnecmhlgmaa
