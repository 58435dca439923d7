/- My own work: a file by itself, its archive's length, and bytes of which one bit is turned about. -/
import Derived.Test.YtimiginpdkokiaaDoorUses
namespace Go.Proofs.YtimiginpdkokiaaDoor
open Go.RowKit

abbrev fileN (ex : Bool) (d : ByteArray) : Nd := .mk 1 ex d [] []
theorem file_at {w : World} {a : Option Addr} {d : ByteArray} {c : Nat} (ex : Bool) (h : BytesAt w a d c) : NodeAt w (fileN ex d) (nodeV 1 ex a d.size c none 0 0 none 0 0) :=
  .mk (d := d) (ns := []) (ks := []) (kb := 0) (koff := 0) (Cs := fun _ => #[]) (by omega) h
    ⟨⟨0, 0, fun h => absurd h (by simp), fun i hi => absurd hi (by simp)⟩, fun _ => ⟨rfl, rfl⟩, Nat.le_refl _, by unfold maxLen; omega, by unfold big; exact Nat.zero_le _, fun s hs => by cases hs⟩
    ⟨fun h => absurd h (by simp), fun i hi => absurd hi (by simp), fun i hi => absurd hi (by simp), fun _ => ⟨rfl, rfl⟩, Nat.le_refl _, by unfold maxLen; omega⟩ (fun i hi => absurd hi (by simp))
theorem bytes_cut {w : World} {a : Option Addr} {d : ByteArray} {c : Nat} (h : BytesAt w a d c) (hk : 3000 < d.size) : (⟨d.data.extract 0 3000⟩ : ByteArray).size = 3000 ∧ BytesAt w a ⟨d.data.extract 0 3000⟩ c := by
  have hs : (⟨d.data.extract 0 3000⟩ : ByteArray).size = 3000 := by
    show (d.data.extract 0 3000).size = 3000
    have hk' : 3000 < d.data.size := hk
    rw [Array.size_extract]
    omega
  obtain ⟨b, off, h1, h2⟩ := h.ex
  refine ⟨hs, ⟨b, off, fun _ => h1 (by omega), fun i hi => ?_⟩, fun e => ?_, by have := h.le; omega, h.cap, by have := h.len; omega⟩
  · rw [h2 i (by omega)]
    unfold bf
    have hi' : i < 3000 := by omega
    have hid : i < d.data.size := by have : 3000 < d.data.size := hk; omega
    rw [Array.getElem?_extract_of_lt (by have : 3000 < d.data.size := hk; omega)]
    simp [Array.getElem?_eq_getElem hid]
  · have := (h.nil e).1
    omega
theorem file_right (ex : Bool) (d : ByteArray) (h : d.size ≤ 3000) : rightE (fileN ex d) = 0 := by
  have h1 : cen (fileN ex d) 0 1 = (1, true) := by unfold cen cenL; rfl
  unfold rightE
  rw [h1, if_neg (by simp)]
  unfold eachE
  have h2 : aloneE (fileN ex d) = 0 := by
    unfold aloneE
    have hk : kindB (fileN ex d) = true := by unfold kindB; rfl
    have hb : bigB (fileN ex d) = false := by
      unfold bigB
      have e0 : entN (fileN ex d).names = 0 := rfl
      rw [e0]
      refine decide_eq_false ?_
      show ¬ (31744 : Int) < ((d.size + 0 : Nat) : Int)
      omega
    rw [hk, hb, if_neg (by simp), if_neg (by simp), if_neg (by rintro ⟨e, _⟩; exact absurd (show (1 : Int) = 3 from e) (by decide))]
    rfl
  rw [if_neg (fun h => h h2)]
  unfold eachL
  rfl
theorem file_len (ex : Bool) (d : ByteArray) : (encA (fileN ex d)).length = 112 + (d.size + 7) / 8 * 8 + (if ex then 32 else 0) := by
  unfold encA encN
  rw [if_pos rfl]
  have e1 : (strsU [wFirst]).length = 24 := rfl
  have e2 : (strsU [wOpen, wType]).length = 32 := rfl
  have e3 : (strsU [wFile]).length = 16 := rfl
  have e4 : (strsU [wExec, wNone]).length = 32 := rfl
  have e5 : (strsU [wShut]).length = 16 := rfl
  have e6 : (strsU [wData, d]).length = 16 + (8 + d.size + fillN d.size) := by
    rw [strsU_cons, strsU_cons, List.length_append, List.length_append, strU_length, strU_length d]
    rfl
  have e7 : d.size + fillN d.size = (d.size + 7) / 8 * 8 := by unfold fillN; omega
  cases ex
  · simp only [List.length_append, e1, e2, e3, e5, e6, Bool.false_eq_true, if_false, List.length_nil]
    omega
  · simp only [List.length_append, e1, e2, e3, e4, e5, e6, if_true]
    omega
theorem flip_tab : ∀ x, x < 256 → ∀ r, r < 8 → (bits .xor .u8 (x : Nat) (2 ^ r) ≠ (x : Nat) ∧ 0 ≤ bits .xor .u8 (x : Nat) (2 ^ r) ∧ bits .xor .u8 (x : Nat) (2 ^ r) < 256) := by decide +kernel
/-- A byte of which a bit is turned about is another byte. -/
theorem flip_ne (x : Int) (h0 : 0 ≤ x) (h1 : x < 256) (r : Nat) (hr : r < 8) : bits .xor .u8 x (2 ^ r) ≠ x ∧ 0 ≤ bits .xor .u8 x (2 ^ r) ∧ bits .xor .u8 x (2 ^ r) < 256 := by
  obtain ⟨y, rfl⟩ := Int.eq_ofNat_of_zero_le h0
  exact flip_tab y (by omega) r hr
theorem pow_tab : ∀ r, r < 8 → (2 : Int) ^ r % 256 = 2 ^ r := by decide
theorem ownsRow_cells {w : World} {base n s g c m : Nat} {e : TypeId} {xs : List Value} (h : w.ownsRow base e s (.slice (some ⟨g, 0, none⟩) m c) n xs) : base ≤ g ∧ n = m ∧ n ≤ c ∧ c ≤ maxLen ∧ ∃ cur, Row w g cur e ∧ cur.size = c * s ∧ cur.toList.take (n * s) = xs := by
  obtain ⟨_, ⟨h1, _⟩ | ⟨g', c', cur, h1, h2, e3, e4, e5, e6, e7⟩⟩ := h
  · cases h1
  simp only [Value.slice.injEq, Option.some.injEq, Addr.mk.injEq, and_true] at h1
  obtain ⟨rfl, rfl, rfl⟩ := h1
  exact ⟨h2, rfl, e4, e5, cur, e3, e6, e7⟩
/-- Bytes of one's own, one of them changed. -/
theorem inB_set {w : World} {B g c L m : Nat} {X : List UInt8} {z : Int} (hX : X.length = L) (hm : m < L) (hz : 0 ≤ z) (hz' : z < 256) (hne : z ≠ fU X m) (h : Buf w B (.slice (some ⟨g, 0, none⟩) L c) X) :
    ∃ X' : List UInt8, X'.length = L ∧ X' ≠ X ∧ InB (w.setCell ⟨g, m, none⟩ (.int .u8 z)) (some ⟨g, 0, none⟩) g 0 X' c := by
  have h' : w.ownsRow B 5 1 (.slice (some ⟨g, 0, none⟩) L c) L (u8s X) := by have := h; unfold Buf at this; rw [hX] at this; exact this
  obtain ⟨_, _, h3, h4, cur, hr, hs, ht⟩ := ownsRow_cells h'
  have hu : fU (X.set m (UInt8.ofNat z.toNat)) m = z := by
    unfold fU
    rw [List.getElem?_set_self (by omega)]
    simp only [Option.getD_some, UInt8.toNat_ofNat']
    rw [Nat.mod_eq_of_lt (by simp; omega)]
    omega
  refine ⟨X.set m (UInt8.ofNat z.toNat), by rw [List.length_set, hX], fun e => hne (by rw [← hu, e]), fun _ => rfl, fun i hi => ?_, by rw [List.length_set]; omega, by unfold maxLen at h4; omega⟩
  rw [List.length_set] at hi
  rw [Nat.zero_add, (hr.setCell _).cell i]
  by_cases him : i = m
  · subst him
    rw [hu, Array.getElem?_setIfInBounds_self_of_lt (by omega)]
  · rw [Array.getElem?_setIfInBounds_ne (by omega)]
    have e1 : fU (X.set m (UInt8.ofNat z.toNat)) i = fU X i := by
      unfold fU
      rw [List.getElem?_set_ne (by omega)]
    have e2 := congrArg (fun l => l[i]?) ht
    simp only [Nat.mul_one] at e2
    rw [List.getElem?_take_of_lt (by omega), Array.getElem?_toList] at e2
    rw [e1, e2]
    unfold u8s fU
    rw [List.getElem?_map, List.getElem?_eq_getElem hi]
    rfl
theorem int_quo (k : Nat) : (k : Int).tdiv 8 = ((k / 8 : Nat) : Int) := rfl
theorem int_rem (k : Nat) : (k : Int).tmod 8 = ((k % 8 : Nat) : Int) := rfl
/-- Where in the archive: k. -/
theorem at_place (t : Int) (L : Nat) (hL : 0 < L) : ∃ r : Int, ∃ k : Nat, t.tmod (8 * (L : Int)) = r ∧ -(8 * (L : Int)) < r ∧ r < 8 * (L : Int) ∧ (r + 8 * (L : Int)).tmod (8 * (L : Int)) = (k : Int) ∧ k < 8 * L := by
  refine ⟨_, ((t.tmod (8 * (L : Int)) + 8 * (L : Int)).tmod (8 * (L : Int))).toNat, rfl, ?_, ?_, ?_, ?_⟩
  all_goals
    have h1 := Int.tmod_lt_of_pos (-t) (show (0 : Int) < 8 * (L : Int) by omega)
    rw [Int.neg_tmod] at h1
    have h2 := Int.tmod_lt_of_pos t (show (0 : Int) < 8 * (L : Int) by omega)
    have h3 := Int.tmod_nonneg (8 * (L : Int)) (show (0 : Int) ≤ t.tmod (8 * (L : Int)) + 8 * (L : Int) by omega)
    have h4 := Int.tmod_lt_of_pos (t.tmod (8 * (L : Int)) + 8 * (L : Int)) (show (0 : Int) < 8 * (L : Int) by omega)
    omega
end Go.Proofs.YtimiginpdkokiaaDoor
