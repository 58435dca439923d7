/- My own work: the document's own Read, by its states. -/
import Derived.Test.YthidlckipiamkaaDoorOT5
import Derived.Test.YthidlckipiamkaaDoorNodeOn
import Derived.Test.YthidlckipiamkaaDoorRCell
import Derived.Deep.DeepCutAuto
namespace Go.Proofs.YthidlckipiamkaaDoor
open Go.RowKit
open S2 (bl bl_len bl_inj splitB splitV Tab NTab arr)

/-- What the document's Read knows: where the line begins, and what the lines told. -/
structure RSt where
  fro : Nat
  h : ByteArray
  d : ByteArray
  rs : List ByteArray
abbrev PH : List UInt8 := [104, 97, 115, 104, 32]
abbrev PD : List UInt8 := [100, 101, 114, 105, 118, 101, 114, 32]
abbrev PR : List UInt8 := [114, 101, 102, 32]
/-- Does a line begin with a word, and say something behind it? -/
def isLine (n : Nat) (W : List UInt8) (l : ByteArray) : Bool := decide (n < l.size) && ((l.extract 0 n).toList == W)
def updH (l : ByteArray) (st : RSt) : RSt := if isLine 5 PH l then { st with h := l.extract 5 l.size } else st
def updD (l : ByteArray) (st : RSt) : RSt := if isLine 8 PD l then { st with d := l.extract 8 l.size } else st
def updR (l : ByteArray) (st : RSt) : RSt := if isLine 4 PR l then { st with rs := st.rs ++ [l.extract 4 l.size] } else st
/-- What a byte does. -/
def dStep (s : ByteArray) (k : Nat) (st : RSt) : RSt := if (bl s)[k]? = some 10 then { updR (s.extract st.fro k) (updD (s.extract st.fro k) (updH (s.extract st.fro k) st)) with fro := k + 1 } else st
def dSt (s : ByteArray) : Nat → RSt
  | 0 => ⟨0, ⟨#[]⟩, ⟨#[]⟩, []⟩
  | k + 1 => dStep s k (dSt s k)
theorem upd_fro (l : ByteArray) (st : RSt) : (updR l (updD l (updH l st))).fro = st.fro := by unfold updR updD updH; cases isLine 4 PR l <;> cases isLine 8 PD l <;> cases isLine 5 PH l <;> rfl
theorem upd_rs (l : ByteArray) (st : RSt) : (updR l (updD l (updH l st))).rs.length ≤ st.rs.length + 1 := by unfold updR updD updH; cases isLine 4 PR l <;> cases isLine 8 PD l <;> cases isLine 5 PH l <;> simp
theorem dSt_bd (s : ByteArray) : ∀ k, (dSt s k).fro ≤ k ∧ (dSt s k).rs.length ≤ k
  | 0 => ⟨Nat.le_refl _, Nat.le_refl _⟩
  | k + 1 => by
    have ih := dSt_bd s k
    show (dStep s k (dSt s k)).fro ≤ k + 1 ∧ (dStep s k (dSt s k)).rs.length ≤ k + 1
    unfold dStep
    split
    · exact ⟨Nat.le_refl _, by have := upd_rs (s.extract (dSt s k).fro k) (dSt s k); show (updR _ _).rs.length ≤ _; omega⟩
    · omega
/-- The info as it lies while it is read. -/
structure DR (w1 : World) (p h d : ByteArray) (rs : List ByteArray) (v : Value) (wx : World) : Prop where
  old : Below w1.heap.size w1 wx
  row : Row wx w1.heap.size #[.string p, .string h, .string d, v] 24
  own : wx.ownsRow (w1.heap.size + 1) 9 1 v rs.length (rs.map Value.string)
section
variable {w1 : World} {p h d : ByteArray} {rs : List ByteArray} {v : Value} {wx : World}
theorem DR.old_set (H : DR w1 p h d rs v wx) (i : Nat) (x : Value) : Below w1.heap.size w1 (wx.setCell ⟨w1.heap.size, i, none⟩ x) :=
  H.old.trans ⟨rfl, rfl, rfl, by simp, fun q hq => heap_setCell_other wx ⟨w1.heap.size, i, none⟩ q x (by show q ≠ w1.heap.size; omega)⟩
theorem DR.own_set (H : DR w1 p h d rs v wx) (i : Nat) (x : Value) : (wx.setCell ⟨w1.heap.size, i, none⟩ x).ownsRow (w1.heap.size + 1) 9 1 v rs.length (rs.map Value.string) :=
  ownsRow_keep H.own fun q hq _ => heap_setCell_other wx ⟨w1.heap.size, i, none⟩ q x (by have := (ownsRow_lt H.own q hq).2.1; show q ≠ w1.heap.size; omega)
theorem DR.setH (H : DR w1 p h d rs v wx) (x : ByteArray) : DR w1 p x d rs v (wx.setCell ⟨w1.heap.size, 1, none⟩ (.string x)) := ⟨H.old_set 1 _, H.row.setCell (i := 1) (.string x), H.own_set 1 _⟩
theorem DR.setD (H : DR w1 p h d rs v wx) (x : ByteArray) : DR w1 p h x rs v (wx.setCell ⟨w1.heap.size, 2, none⟩ (.string x)) := ⟨H.old_set 2 _, H.row.setCell (i := 2) (.string x), H.own_set 2 _⟩
theorem DR.drew (H : DR w1 p h d rs v wx) : DR w1 p h d rs v wx.drew := ⟨H.old.drew, H.row, H.own⟩
end
theorem extract_all (l : ByteArray) (n : Nat) : l.extract n l.size = l.extract n l.size := rfl
theorem refs_slice {w : World} {base n s : Nat} {e : TypeId} {v : Value} {xs : List Value} (h : w.ownsRow base e s v n xs) : ∃ a c, v = .slice a n c := by
  obtain ⟨_, ⟨h1, h2⟩ | ⟨g, c, cur, h1, _⟩⟩ := h
  · exact ⟨none, 0, by rw [h1, h2]⟩
  · exact ⟨_, c, h1⟩
theorem resRead : Tryd.f7.results = #[.cell 4 24, .tmp 5] := by kernel_rfl
abbrev info0 : Array Value := #[.string ⟨#[]⟩, .string ⟨#[]⟩, .string ⟨#[]⟩, .slice none 0 0]
theorem info0_one : info0.all (·.oneCell') = true := by kernel_rfl
theorem infV_one (i : Inf) (a : Option Addr) (c : Nat) : (infV i a c).all (·.oneCell') = true := by simp [infV, Value.oneCell']
end Go.Proofs.YthidlckipiamkaaDoor
