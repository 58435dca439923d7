/- My own work: the path of a kind, a digest and a name; the walk of Make. -/
import Derived.Test.YtpkbfljoakodoaaDoorPLib
import Derived.Test.YtpkbfljoakodoaaDoorS2Sum
import Derived.Lib.ConvBytes
import Derived.Laws.AppendOwn
namespace Go.Proofs.YtpkbfljoakodoaaDoor.S2
open Go.RowKit Math

/-- A text's bytes as numbers. -/
def fX (X : List UInt8) (i : Nat) : Int := ((X[i]?).getD 0).toNat
theorem fX_bd (X : List UInt8) (i : Nat) : 0 ≤ fX X i ∧ fX X i < 256 := by
  unfold fX
  have := ((X[i]?).getD 0).toNat_lt
  omega
theorem fX_past (X : List UInt8) (i : Nat) (h : X.length ≤ i) : fX X i = 0 := by
  unfold fX
  rw [List.getElem?_eq_none h]
  rfl
/-- The digest of a text's bytes. -/
def digX (X : List UInt8) : Nat → Int :=
  dig (hs (fX X) X.length (64 * (X.length / 64) + 64 * (if X.length % 64 + 9 > 64 then 2 else 1)) (X.length / 64 + (if X.length % 64 + 9 > 64 then 2 else 1)))
/-- The text of which the signs are made. -/
def textE (kind : ByteArray) (f : Nat → Int) (name : ByteArray) : ByteArray := kind ++ ⟨#[58]⟩ ++ strOfNums (enc (bitAt 8 f) 52) ++ ⟨#[58]⟩ ++ name
/-- The signs of a path. -/
def signE' (kind : ByteArray) (f : Nat → Int) (name : ByteArray) : ByteArray := strOfNums (enc (bitAt 8 (short (digX (bl (textE kind f name))))) 32)
def pathE (kind : ByteArray) (f : Nat → Int) (name : ByteArray) : ByteArray := ⟨#[47, 115, 116, 111, 114, 101, 47]⟩ ++ signE' kind f name ++ ⟨#[45]⟩ ++ name
def mayB (kind name : ByteArray) : Bool := nameB (bl name) && kindB (bl kind)
/-- What Make tells. -/
def makeV (kind : ByteArray) (f : Nat → Int) (name : ByteArray) : Value := if mayB kind name then .tuple #[.string (pathE kind f name), .int .i64 0] else .tuple #[.string ⟨#[]⟩, .int .i64 17]
theorem bs_conv (w : World) (s : ByteArray) : Bs (Lib.bytesWorld w 5 s) (some ⟨w.heap.size, 0, none⟩) w.heap.size 0 s.size (fX (bl s)) := by
  refine ⟨fun _ => rfl, fun i hi => ?_, fX_bd _, fun i hi => fX_past _ _ (by rw [bl_len]; exact hi)⟩
  rw [Nat.zero_add, Lib.bytesWorld_cell _ _ _ _ hi]
  unfold fX
  rw [List.getD_eq_getElem?_getD]
theorem bytesWorld_below (w : World) (s : ByteArray) : Below w.heap.size w (Lib.bytesWorld w 5 s) :=
  ⟨rfl, rfl, rfl, by rw [Lib.bytesWorld_size]; omega, fun k hk => Lib.bytesWorld_at_old w 5 s k hk⟩
theorem Tab.keep {w w' : World} (h : Tab w) (hb : Below w.heap.size w w') : Tab w' := h.below hb h.pos
theorem may_facts {kind name : ByteArray} (h : mayB kind name = true) : 1 ≤ name.size ∧ name.size ≤ 27 ∧ 1 ≤ kind.size ∧ kind.size ≤ 20 := by
  unfold mayB nameB kindB at h
  simp only [Bool.and_eq_true, decide_eq_true_eq, bl_len] at h
  exact ⟨h.1.1.1, h.1.1.2.1, h.2.1.1, h.2.1.2⟩
theorem cat_size (a b : ByteArray) : (a ++ b).size = a.size + b.size := ByteArray.size_append
theorem text_size (kind : ByteArray) (f : Nat → Int) (name : ByteArray) : (textE kind f name).size = kind.size + name.size + 54 := by
  unfold textE
  have e1 : (⟨#[58]⟩ : ByteArray).size = 1 := rfl
  have e2 : (enc (bitAt 8 f) 52).length = 52 := by simp [enc]
  simp only [cat_size, strOfNums_size, e1, e2]
  omega
end Go.Proofs.YtpkbfljoakodoaaDoor.S2
