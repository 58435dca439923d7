/- The plain facts on the order: texts of signs of equally many bytes stand as the bytes do. -/
import Derived.Test.YtonaefebgpohjaaDoorPlain
namespace Go.Proofs.YtonaefebgpohjaaDoor
open Go.RowKit Math

theorem cmp_digits (B a b x y : Int) (hx0 : 0 ≤ x) (hx1 : x < B) (hy0 : 0 ≤ y) (hy1 : y < B) :
    (a * B + x < b * B + y ↔ a < b ∨ (a = b ∧ x < y)) ∧ (a * B + x = b * B + y ↔ a = b ∧ x = y) := by
  rcases Int.lt_trichotomy a b with h | h | h
  · have h1 : (a + 1) * B ≤ b * B := Int.mul_le_mul_of_nonneg_right (by omega) (by omega)
    rw [Int.add_mul, Int.one_mul] at h1
    omega
  · subst h; omega
  · have h1 : (b + 1) * B ≤ a * B := Int.mul_le_mul_of_nonneg_right (by omega) (by omega)
    rw [Int.add_mul, Int.one_mul] at h1
    omega

/-- Lists of digits of one length, told by bytes that rise as the digits do: the lesser number has the lesser text. -/
theorem less_iff (B : Int) (d : Int → UInt8) (hd : ∀ x y, 0 ≤ x → x < B → 0 ≤ y → y < B → ((d x < d y ↔ x < y) ∧ (d x = d y ↔ x = y))) :
    ∀ (xs ys : List Int) (a b : Int), xs.length = ys.length → (∀ x ∈ xs, 0 ≤ x ∧ x < B) → (∀ y ∈ ys, 0 ≤ y ∧ y < B) →
      (xs.foldl (fun n x => n * B + x) a < ys.foldl (fun n x => n * B + x) b ↔ a < b ∨ (a = b ∧ Op.bytesLess (xs.map d) (ys.map d) = true))
  | [], [], a, b, _, _, _ => by simp [Op.bytesLess]
  | x :: xs, y :: ys, a, b, hl, hx, hy => by
    have hx' := hx x (by simp)
    have hy' := hy y (by simp)
    have ih := less_iff B d hd xs ys (a * B + x) (b * B + y) (by simpa using hl) (fun z hz => hx z (by simp [hz])) (fun z hz => hy z (by simp [hz]))
    have hc := cmp_digits B a b x y hx'.1 hx'.2 hy'.1 hy'.2
    have hdd := hd x y hx'.1 hx'.2 hy'.1 hy'.2
    simp only [List.foldl_cons, List.map_cons, Op.bytesLess]
    rw [ih, hc.1, hc.2]
    simp only [Bool.or_eq_true, decide_eq_true_eq, Bool.and_eq_true, beq_iff_eq, hdd.1, hdd.2]
    constructor
    · rintro ((h | ⟨h1, h2⟩) | ⟨⟨h1, h2⟩, h3⟩)
      · exact .inl h
      · exact .inr ⟨h1, .inl h2⟩
      · exact .inr ⟨h1, .inr ⟨h2, h3⟩⟩
    · rintro (h | ⟨h1, h2 | ⟨h2, h3⟩⟩)
      · exact .inl (.inl h)
      · exact .inl (.inr ⟨h1, h2⟩)
      · exact .inr ⟨⟨h1, h2⟩, h3⟩
  | [], y :: ys, _, _, hl, _, _ => by simp at hl
  | x :: xs, [], _, _, hl, _, _ => by simp at hl

/-- The number of n groups of t bits is that of all their bits. -/
theorem fold_val (g : Nat → Int) (t n : Nat) : ((List.range n).map fun j => val g (t * j) t).foldl (fun m x => m * 2 ^ t + x) 0 = val g 0 (t * n) := by
  induction n with
  | zero => simp [val]
  | succ n ih =>
    rw [List.range_succ, List.map_append, List.foldl_append, ih]
    simp only [List.map_cons, List.map_nil, List.foldl_cons, List.foldl_nil]
    rw [Nat.mul_add, Nat.mul_one, val_add, Nat.zero_add]

theorem byte_order (x y : Int) (hx0 : 0 ≤ x) (hx : x < 256) (hy0 : 0 ≤ y) (hy : y < 256) : (UInt8.ofNat x.toNat < UInt8.ofNat y.toNat ↔ x < y) ∧ (UInt8.ofNat x.toNat = UInt8.ofNat y.toNat ↔ x = y) := by
  have ex : (UInt8.ofNat x.toNat).toNat = x.toNat := UInt8.toNat_ofNat_of_lt' (by simp; omega)
  have ey : (UInt8.ofNat y.toNat).toNat = y.toNat := UInt8.toNat_ofNat_of_lt' (by simp; omega)
  constructor
  · rw [UInt8.lt_iff_toNat_lt, ex, ey]; omega
  · constructor
    · intro h
      have := congrArg UInt8.toNat h
      rw [ex, ey] at this; omega
    · rintro rfl; rfl

theorem sign_order (x y : Int) (hx0 : 0 ≤ x) (hx : x < 32) (hy0 : 0 ≤ y) (hy : y < 32) :
    (UInt8.ofNat (sg x.toNat).toNat < UInt8.ofNat (sg y.toNat).toNat ↔ x < y) ∧ (UInt8.ofNat (sg x.toNat).toNat = UInt8.ofNat (sg y.toNat).toNat ↔ x = y) := by
  have bx := sg_lt x.toNat
  have bY := sg_lt y.toNat
  have h := byte_order (sg x.toNat) (sg y.toNat) bx.1 (by omega) bY.1 (by omega)
  rw [h.1, h.2]
  rcases Int.lt_trichotomy x y with e | e | e
  · have := sg_mono ⟨x.toNat, by omega⟩ ⟨y.toNat, by omega⟩ (by simp; omega)
    simp at this
    omega
  · subst e; omega
  · have := sg_mono ⟨y.toNat, by omega⟩ ⟨x.toNat, by omega⟩ (by simp; omega)
    simp at this
    omega

/-- The bytes' list. -/
def raw (f : Nat → Int) (L : Nat) : List Int := (List.range L).map f

theorem raw_val (f : Nat → Int) (L : Nat) (hf : ∀ i, 0 ≤ f i ∧ f i < 256) : raw f L = (List.range L).map fun j => val (bitAt 8 f) (8 * j) 8 := by
  unfold raw
  apply List.map_congr_left
  intro j _
  rw [val_group 8 f j (hf j).1 (by have := (hf j).2; omega)]

theorem order_same (f f' : Nat → Int) (L N : Nat) (hf : ∀ i, 0 ≤ f i ∧ f i < 256) (hf' : ∀ i, 0 ≤ f' i ∧ f' i < 256) (hf0 : ∀ i, L ≤ i → f i = 0) (hf0' : ∀ i, L ≤ i → f' i = 0) (hN : 8 * L ≤ 5 * N) :
    Op.bytesLess (strOfNums (enc (bitAt 8 f) N)).toList (strOfNums (enc (bitAt 8 f') N)).toList = Op.bytesLess (strOfNums (raw f L)).toList (strOfNums (raw f' L)).toList := by
  have hz : ∀ (f : Nat → Int), (∀ i, L ≤ i → f i = 0) → val (bitAt 8 f) 0 (5 * N) = val (bitAt 8 f) 0 (8 * L) * 2 ^ (5 * N - 8 * L) := fun f hf0 => by
    have e := val_add (bitAt 8 f) 0 (8 * L) (5 * N - 8 * L)
    rw [show 8 * L + (5 * N - 8 * L) = 5 * N by omega] at e
    rw [e, val_zero (bitAt 8 f) (0 + 8 * L) (5 * N - 8 * L) (fun i hi => by
      unfold bitAt; rw [hf0 _ (by omega)]; simp), Int.add_zero]
  have mem : ∀ (t : Nat) (f : Nat → Int) (n : Nat), ∀ x ∈ (List.range n).map (fun j => val (bitAt 8 f) (t * j) t), 0 ≤ x ∧ x < 2 ^ t := fun t f n x hx => by
    rw [List.mem_map] at hx
    obtain ⟨j, _, rfl⟩ := hx
    exact val_bd _ (bitAt_bd 8 f) _ _
  have s5 := less_iff (2 ^ 5) (fun x => UInt8.ofNat (sg x.toNat).toNat) (fun x y a b c d => sign_order x y a (by omega) c (by omega)) _ _ 0 0 (by simp) (mem 5 f N) (mem 5 f' N)
  have s8 := less_iff (2 ^ 8) (fun x => UInt8.ofNat x.toNat) (fun x y a b c d => byte_order x y a (by omega) c (by omega)) _ _ 0 0 (by simp) (mem 8 f L) (mem 8 f' L)
  rw [fold_val, fold_val] at s5 s8
  rw [Bool.eq_iff_iff]
  have hP := two_pow_pos (5 * N - 8 * L)
  have key : val (bitAt 8 f) 0 (5 * N) < val (bitAt 8 f') 0 (5 * N) ↔ val (bitAt 8 f) 0 (8 * L) < val (bitAt 8 f') 0 (8 * L) := by
    rw [hz f hf0, hz f' hf0']
    constructor
    · intro h; exact Int.lt_of_mul_lt_mul_right h (Int.le_of_lt hP)
    · intro h; exact Int.mul_lt_mul_of_pos_right h hP
  have e5 : ∀ f : Nat → Int, (strOfNums (enc (bitAt 8 f) N)).toList = ((List.range N).map fun j => val (bitAt 8 f) (5 * j) 5).map (fun x => UInt8.ofNat (sg x.toNat).toNat) := fun f => by
    rw [strOfNums_toList]; simp [enc]
  have e8 : ∀ f : Nat → Int, (∀ i, 0 ≤ f i ∧ f i < 256) → (strOfNums (raw f L)).toList = ((List.range L).map fun j => val (bitAt 8 f) (8 * j) 8).map (fun x => UInt8.ofNat x.toNat) := fun f hf => by
    rw [strOfNums_toList, raw_val f L hf]
  rw [e5 f, e5 f', e8 f hf, e8 f' hf']
  simp only [Int.lt_irrefl, true_and, false_or] at s5 s8
  rw [← s5, ← s8, key]

theorem same_same (f f' : Nat → Int) (L N : Nat) (hf : ∀ i, 0 ≤ f i ∧ f i < 256) (hf' : ∀ i, 0 ≤ f' i ∧ f' i < 256) (hf0 : ∀ i, L ≤ i → f i = 0) (hf0' : ∀ i, L ≤ i → f' i = 0) (hN : 8 * L ≤ 5 * N) :
    ((strOfNums (enc (bitAt 8 f) N)).toList == (strOfNums (enc (bitAt 8 f') N)).toList) = ((strOfNums (raw f L)).toList == (strOfNums (raw f' L)).toList) := by
  rw [Bool.eq_iff_iff, beq_iff_eq, beq_iff_eq]
  constructor
  · intro e
    rw [strOfNums_toList, strOfNums_toList] at e
    unfold enc at e
    rw [List.map_map, List.map_map, List.map_inj_left] at e
    have hb : ∀ k, k < 5 * N → bitAt 8 f k = bitAt 8 f' k := fun k hk => by
      have ej := e (k / 5) (by rw [List.mem_range]; omega)
      have b1 := val_bd (bitAt 8 f) (bitAt_bd 8 f) (5 * (k / 5)) 5
      have b2 := val_bd (bitAt 8 f') (bitAt_bd 8 f') (5 * (k / 5)) 5
      have ex := sgU_inj _ _ (by omega) (by omega) ej
      have ev : val (bitAt 8 f) (5 * (k / 5)) 5 = val (bitAt 8 f') (5 * (k / 5)) 5 := by omega
      have c1 := val_bit (bitAt 8 f) (bitAt_bd 8 f) (5 * (k / 5)) 5 (k % 5) (by omega)
      have c2 := val_bit (bitAt 8 f') (bitAt_bd 8 f') (5 * (k / 5)) 5 (k % 5) (by omega)
      rw [Nat.div_add_mod] at c1 c2
      rw [← c1, ev, c2]
    have hff : raw f L = raw f' L := by
      rw [raw_val f L hf, raw_val f' L hf']
      apply List.map_congr_left
      intro j hj
      rw [List.mem_range] at hj
      exact val_congr _ _ _ _ (fun i hi => hb _ (by omega))
    rw [hff]
  · intro e
    have hff : ∀ i, f i = f' i := fun i => by
      by_cases hi : i < L
      · rw [strOfNums_toList, strOfNums_toList] at e
        unfold raw at e
        rw [List.map_map, List.map_map, List.map_inj_left] at e
        have ei := e i (by rw [List.mem_range]; exact hi)
        exact (byte_order _ _ (hf i).1 (hf i).2 (hf' i).1 (hf' i).2).2.1 ei
      · rw [hf0 i (by omega), hf0' i (by omega)]
    rw [show f = f' from funext hff]
end Go.Proofs.YtonaefebgpohjaaDoor
