/- The plain arithmetic of bits in groups that layer 1's proofs on signs use: no program in sight. The walk of bits.regroup: the bits of groups of one width told as groups of another, in new memory. The table of signs and the walks of bits.valueOf and of the document's own sign and bit. The walk of bits.Encode: the bytes' bits as signs of five bits. The walk of bits.Decode: the bytes of signs of five bits, or ErrForm. Digests: arrays of thirty-two bytes, as values and in memory, and the walks of digest.Text and digest.Short. -/
import Derived.WalkKit
import Derived.Test.YthidlckipiamkaaDoorRows
import Derived.WalkSpells
import Derived.WalkLawsBesides
import Derived.Deep.OwnRows
import Derived.Deep.DeepAppendWide
import Derived.Laws.BytesArg
import Derived.Deep.WholeRow
import Derived.Deep.MidRow
import Derived.Laws.Closers25b
namespace Go.Proofs.YthidlckipiamkaaDoor.Math
set_option maxRecDepth 20000
open Go.RowKit

theorem two_pow_pos (k : Nat) : (0 : Int) < 2 ^ k := Int.pow_pos (by decide)

/-- The k-th bit of groups of `fr` bits, the highest of each first. -/
def bitAt (fr : Nat) (f : Nat → Int) (k : Nat) : Int := f (k / fr) / 2 ^ (fr - 1 - k % fr) % 2

/-- The number of the l bits from the k-th on, the highest first. -/
def val (g : Nat → Int) (k : Nat) : Nat → Int
  | 0 => 0
  | l + 1 => val g k l * 2 + g (k + l)

theorem bitAt_bd (fr : Nat) (f : Nat → Int) (k : Nat) : 0 ≤ bitAt fr f k ∧ bitAt fr f k ≤ 1 := by unfold bitAt; omega

theorem bitAt_in (fr : Nat) (f : Nat → Int) (i j : Nat) (hj : j < fr) : bitAt fr f (fr * i + j) = f i / 2 ^ (fr - 1 - j) % 2 := by
  unfold bitAt
  rw [Nat.mul_add_div (by omega), Nat.div_eq_of_lt hj, Nat.mul_add_mod, Nat.mod_eq_of_lt hj, Nat.add_zero]

theorem val_bd (g : Nat → Int) (hg : ∀ k, 0 ≤ g k ∧ g k ≤ 1) (k l : Nat) : 0 ≤ val g k l ∧ val g k l < 2 ^ l := by
  induction l with
  | zero => simp [val]
  | succ l ih =>
    have := hg (k + l)
    rw [Int.pow_succ]
    simp only [val]
    omega

theorem val_bd7 (g : Nat → Int) (hg : ∀ k, 0 ≤ g k ∧ g k ≤ 1) (k l : Nat) (hl : l ≤ 7) : 0 ≤ val g k l ∧ val g k l < 128 := by
  have h := val_bd g hg k l
  have h2 : 2 ^ l ≤ 128 := Nat.pow_le_pow_right (n := 2) (by decide) (show l ≤ 7 by omega)
  have e : ((2 ^ l : Nat) : Int) = (2 : Int) ^ l := by rw [Int.natCast_pow]; rfl
  omega

theorem val_congr (g h : Nat → Int) (k l : Nat) (e : ∀ i, i < l → g (k + i) = h (k + i)) : val g k l = val h k l := by
  induction l with
  | zero => rfl
  | succ l ih => simp only [val]; rw [ih (fun i hi => e i (by omega)), e l (by omega)]

theorem val_zero (g : Nat → Int) (k l : Nat) (e : ∀ i, i < l → g (k + i) = 0) : val g k l = 0 := by
  induction l with
  | zero => rfl
  | succ l ih => simp only [val]; rw [ih (fun i hi => e i (by omega)), e l (by omega)]; rfl

theorem val_zero_inv (g : Nat → Int) (hg : ∀ k, 0 ≤ g k ∧ g k ≤ 1) (k l : Nat) (h : val g k l = 0) : ∀ i, i < l → g (k + i) = 0 := by
  induction l with
  | zero => intro i hi; omega
  | succ l ih =>
    simp only [val] at h
    have hb := val_bd g hg k l
    have hc := hg (k + l)
    intro i hi
    by_cases e : i = l
    · subst e; omega
    · exact ih (by omega) i (by omega)

/-- Two runs of bits, one behind the other. -/
theorem val_add (g : Nat → Int) (k l m : Nat) : val g k (l + m) = val g k l * 2 ^ m + val g (k + l) m := by
  induction m with
  | zero => simp [val]
  | succ m ih =>
    rw [← Nat.add_assoc]
    simp only [val]
    rw [ih, Int.pow_succ, Int.add_mul, Int.mul_assoc, Nat.add_assoc, Int.add_assoc]

/-- A bit laid behind at most seven others, in a byte. -/
theorem or_bit (x c : Int) (h0 : 0 ≤ x) (h1 : x < 128) (h2 : 0 ≤ c) (h3 : c ≤ 1) : bits .or .u8 (x * 2) c = x * 2 + c :=
  bits_join .u8 8 (by decide) wraps_u8 1 (x * 2) c (by omega) (by omega) (by omega) h2 (by omega) (by omega)

theorem and_one (x : Int) (h0 : 0 ≤ x) (h1 : x < 256) : bits .and .u8 x 1 = x % 2 :=
  bits_mask .u8 8 (by decide) wraps_u8 1 (by decide) x h0 h1

end Go.Proofs.YthidlckipiamkaaDoor.Math
namespace Go.Proofs.YthidlckipiamkaaDoor.S2
set_option maxRecDepth 20000
open Go.RowKit Math
theorem Tryd.info5 : (Tryd.prog.info? 5).map (fun i => (i.zero, i.size, i.bytes)) = some (some (.int .u8 0), 1, 1) := by kernel_rfl

/-- The groups of t bits that are told so far. -/
def row (g : Nat → Int) (t q : Nat) : List Value := (List.range q).map fun p => .int .u8 (val g (t * p) t)

theorem row_succ (g : Nat → Int) (t q : Nat) : row g t (q + 1) = row g t q ++ [.int .u8 (val g (t * q) t)] := by
  simp [row, List.range_succ]

/-- A group is full: one more is told. -/
theorem app_step {w wr w1 : World} {g : Nat → Int} {t fr k j q n : Nat} {x y : Int} {v v' : Value} {c : Value} (hm : fr * k + j = t * q + n) (hn : n + 1 = t) (hx : x = val g (t * q) n) (hG : g (t * q + n) = y)
    (hown : wr.ownsRow w.heap.size 5 1 v q (row g t q)) (hown' : w1.ownsRow w.heap.size 5 1 v' (q + 1) (row g t q ++ [.int .u8 (x * 2 + y)])) (hgrow : (wr.alloc (.cells #[c] 5)).grownBy w1 v.ownBlock) (hb : Below w.heap.size w wr) :
    Hid (fr * k + (j + 1) = t * (q + 1) + 0) ∧ w1.ownsRow w.heap.size 5 1 v' (q + 1) (row g t (q + 1)) ∧ Below w.heap.size w w1 := by
  refine ⟨?_, ?_, ?_⟩
  · show fr * k + (j + 1) = t * (q + 1) + 0
    rw [Nat.mul_add]; omega
  · rw [row_succ, ← hn]
    simp only [val]
    rw [hn, ← hx, hG]
    exact hown'
  · have hsz := hb.size
    refine (hb.alloc hsz _).grown hgrow (by simp; omega) (fun r hr => ?_)
    obtain ⟨_, ⟨rfl, _⟩ | ⟨g', cap, cur, rfl, hle, _⟩⟩ := hown
    · cases hr
    · simp [Value.ownBlock] at hr; omega

set_option maxRecDepth 20000 in
set_option maxHeartbeats 1000000 in
theorem regroup_any (a : Option Addr) (b off len cap fr t : Nat) (f g : Nat → Int) (w : World) (hfr : 1 ≤ fr) (hfr8 : fr ≤ 8) (ht : 1 ≤ t) (ht8 : t ≤ 8) (hlen : len ≤ 281474976710656)
    (ha : 0 < len → a = some ⟨b, off, none⟩) (hcell : ∀ i, i < len → w.cell? ⟨b, off + i, none⟩ = some (.int .u8 (f i))) (hf : ∀ i, 0 ≤ f i ∧ f i < 256)
    (hg : ∀ k, 0 ≤ g k ∧ g k ≤ 1) (hgf : ∀ i j, j < fr → g (fr * i + j) = f i / 2 ^ (fr - 1 - j) % 2)
    (hroom : ∀ q, t * q ≤ fr * len → q + q / 4 + 192 ≤ 281474976710656) :
    Calls Tryd.prog 42 #[.slice a len cap, .int .i64 fr, .int .i64 t] w fun e w' => ∃ v q l, e = .returned (.tuple #[v, .int .u8 (val g (t * q) l), .int .i64 (l : Nat)]) ∧ fr * len = t * q + l ∧ l < t ∧
      w'.ownsRow w.heap.size 5 1 v q (row g t q) ∧ Below w.heap.size w w' := by
  obtain ⟨i0, hi, hz0, hz1, hz2⟩ := info_parts Tryd.info5
  go_enter Tryd.func42, Tryd.ntmps42
  go_wp2
  go_loopw [6, 7, 8, 14] (fun v r l i wr => ∃ k q n : Nat, k ≤ len ∧ i = .int .i64 k ∧ l = .int .i64 n ∧ r = .int .u8 (val g (t * q) n) ∧ Hid (fr * k = t * q + n) ∧ n < t ∧
      wr.ownsRow w.heap.size 5 1 v q (row g t q) ∧ Below w.heap.size w wr) (fun _ _ _ i _ => len - (intOf i).toNat)
  case atStart => exact ⟨0, 0, 0, Nat.zero_le _, rfl, rfl, rfl, by show fr * 0 = t * 0 + 0; omega, by omega, World.ownsRow_nil _ _ _ _, Below.refl _ _⟩
  case round =>
    obtain ⟨k, q, n, hk, rfl, rfl, rfl, hm, hn, hown, hb⟩ := hrel
    by_cases hlt : k < len
    · have hc : wr.cell? ⟨b, off + k, none⟩ = some (.int .u8 (f k)) := by
        rw [hb.cell (p := ⟨b, off + k, none⟩) (World.block_lt_of_cell? _ _ (hcell k hlt))]; exact hcell k hlt
      obtain rfl := ha (by omega)
      have hfk := hf k
      go_wp2
      clear hc
      go_loopw [6, 7, 8, 19] (fun v r l i wi => ∃ j q n : Nat, j ≤ fr ∧ i = .int .i64 j ∧ l = .int .i64 n ∧ (∃ x : Int, r = .int .u8 x ∧ 0 ≤ x ∧ x < 128 ∧ Hid (x = val g (t * q) n)) ∧ Hid (fr * k + j = t * q + n) ∧ n < t ∧
          wi.ownsRow w.heap.size 5 1 v q (row g t q) ∧ Below w.heap.size w wi) (fun _ _ _ i _ => fr - (intOf i).toNat)
      case atStart =>
        have hx := val_bd7 g hg (t * q) n (by omega)
        exact ⟨0, q, n, Nat.zero_le _, rfl, rfl, ⟨_, rfl, hx.1, hx.2, rfl⟩, hm, hn, hown, hb⟩
      case round =>
        clear hown hb hm hn
        obtain ⟨j, q', n', hj, rfl, rfl, ⟨x, rfl, hx0, hx1, hx⟩, hm, hn, hown, hb⟩ := hrel
        by_cases hjl : j < fr
        · obtain ⟨y, hy⟩ : ∃ y, f k / 2 ^ (fr - 1 - j) = y := ⟨_, rfl⟩
          have hy0 : 0 ≤ y := by rw [← hy]; exact Int.ediv_nonneg hfk.1 (Int.le_of_lt (two_pow_pos _))
          have hy1 : y < 256 := by rw [← hy]; exact Int.lt_of_le_of_lt (Int.ediv_le_self _ hfk.1) hfk.2
          have hand := and_one y hy0 hy1
          have hor := or_bit x (y % 2) hx0 hx1 (by omega) (by omega)
          have HG : Hid (g (t * q' + n') = y % 2) := by
            show g (t * q' + n') = y % 2
            rw [← hm.out, hgf k j hjl, hy]
          by_cases hnt : n' + 1 = t
          · have hq : t * (q' + 1) ≤ fr * len := by
              have h1 := hm.out
              have h2 : fr * (k + 1) ≤ fr * len := Nat.mul_le_mul_left _ hlt
              rw [Nat.mul_add] at h2 ⊢
              omega
            have hr := hroom (q' + 1) hq
            have hsz := hb.size
            go_wp2_with (at_builtin; refine wpList_append_own_wide _ rfl _ _ 38 rfl w.heap.size 5 i0 (.int .u8 0) 1 1 Tryd.underlying38 hi hz0 hz1 hz2 rfl (by decide) _ _ _ rfl (hown.alloc _) ⟨wr.heap.size, 0, none⟩ 1 1 [.int .u8 (x * 2 + y % 2)] rfl rfl ?c1 ?c2 ?c3 ?c4 ?c5 ?_)
            case c1 => exact cell_one_new _ _ _
            case c2 => intro u hu; simp at hu; subst hu; rfl
            case c3 => unfold maxLen; omega
            case c4 => omega
            case c5 => simp; omega
            intro v' w1 hown' hgrow _
            have R := app_step hm.out hnt hx.out HG.out hown hown' hgrow hb
            clear hown' hgrow hown hb hq hr
            go_wp2
            go_roundw
            case rel => exact ⟨j + 1, q' + 1, 0, by omega, by go_num, rfl, ⟨0, rfl, by decide, by decide, rfl⟩, R.1, by omega, R.2.1, R.2.2⟩
            case measure => simp [intOf]; omega
          · go_wp2
            go_roundw
            case rel =>
              have e : x * 2 + y % 2 = val g (t * q') (n' + 1) := by simp only [val]; rw [← hx.out, HG.out]
              have hx' := val_bd7 g hg (t * q') (n' + 1) (by omega)
              have hm' := hm.out
              exact ⟨j + 1, q', n' + 1, by omega, by go_num, by go_num, ⟨_, rfl, by omega, by omega, e⟩, by show fr * k + (j + 1) = t * q' + (n' + 1); omega, by omega, hown, hb⟩
            case measure => simp [intOf]; omega
        · go_wp2
          go_roundw
          case rel =>
            have hm' := hm.out
            exact ⟨k + 1, q', n', by omega, by go_num, rfl, by rw [hx.out], by show fr * (k + 1) = t * q' + n'; rw [Nat.mul_add]; omega, hn, hown, hb⟩
          case measure => simp [intOf]; omega
    · go_wp2
      go_ret3
      obtain rfl : k = len := by omega
      exact ⟨_, q, n, rfl, hm, hn, hown, hb⟩
end Go.Proofs.YthidlckipiamkaaDoor.S2
namespace Go.Proofs.YthidlckipiamkaaDoor.S2
set_option maxRecDepth 20000
open Go.RowKit Math

/-- The signs' numbers as bytes. -/
def sgs : List Int := [48, 49, 50, 51, 52, 53, 54, 55, 56, 57, 97, 98, 99, 100, 102, 103, 104, 105, 106, 107, 108, 109, 110, 112, 113, 114, 115, 118, 119, 120, 121, 122]
def sg (k : Nat) : Int := sgs.getD k 0
def tabArr : Array Value := #[.int .u8 48, .int .u8 49, .int .u8 50, .int .u8 51, .int .u8 52, .int .u8 53, .int .u8 54, .int .u8 55, .int .u8 56, .int .u8 57, .int .u8 97, .int .u8 98, .int .u8 99, .int .u8 100, .int .u8 102, .int .u8 103, .int .u8 104, .int .u8 105, .int .u8 106, .int .u8 107, .int .u8 108, .int .u8 109, .int .u8 110, .int .u8 112, .int .u8 113, .int .u8 114, .int .u8 115, .int .u8 118, .int .u8 119, .int .u8 120, .int .u8 121, .int .u8 122]
/-- The table lies in block 2. -/
def Tab (w : World) : Prop := ∃ t fr, w.heap[1]? = some (.cells tabArr t fr)

theorem Tab.below {B : Nat} {w w' : World} (h : Tab w) (hb : Below B w w') (hB : 1 < B) : Tab w' := by
  obtain ⟨t, fr, h⟩ := h
  exact ⟨t, fr, (hb.block 1 hB).trans h⟩
theorem Tab.pos {w : World} (h : Tab w) : 1 < w.heap.size := by
  obtain ⟨t, fr, h⟩ := h
  obtain ⟨hlt, _⟩ := Array.getElem?_eq_some_iff.1 h
  exact hlt

theorem sg_lt (k : Nat) : 0 ≤ sg k ∧ sg k < 123 := by
  by_cases h : k < 32
  · revert k; decide
  · unfold sg; rw [List.getD, List.getElem?_eq_none (by simp [sgs]; omega)]; decide
theorem sg_mono : ∀ i : Fin 32, ∀ j : Fin 32, i < j → sg i < sg j := by decide
theorem sg_inj (i j : Nat) (hi : i < 32) (hj : j < 32) (h : sg i = sg j) : i = j := by
  rcases Nat.lt_trichotomy i j with h' | h' | h'
  · have := sg_mono ⟨i, hi⟩ ⟨j, hj⟩ h'; simp at this; omega
  · exact h'
  · have := sg_mono ⟨j, hj⟩ ⟨i, hi⟩ h'; simp at this; omega

theorem tab_index (k : Nat) (hk : k < 32) (w : World) : (Instr.index 51 (.agg tabArr) (.int .i64 k)).run Tryd.prog w = .ok (.int .u8 (sg k)) w := by
  match k, hk with
  | 0, _ => show _ = _; kernel_rfl
  | 1, _ => show _ = _; kernel_rfl
  | 2, _ => show _ = _; kernel_rfl
  | 3, _ => show _ = _; kernel_rfl
  | 4, _ => show _ = _; kernel_rfl
  | 5, _ => show _ = _; kernel_rfl
  | 6, _ => show _ = _; kernel_rfl
  | 7, _ => show _ = _; kernel_rfl
  | 8, _ => show _ = _; kernel_rfl
  | 9, _ => show _ = _; kernel_rfl
  | 10, _ => show _ = _; kernel_rfl
  | 11, _ => show _ = _; kernel_rfl
  | 12, _ => show _ = _; kernel_rfl
  | 13, _ => show _ = _; kernel_rfl
  | 14, _ => show _ = _; kernel_rfl
  | 15, _ => show _ = _; kernel_rfl
  | 16, _ => show _ = _; kernel_rfl
  | 17, _ => show _ = _; kernel_rfl
  | 18, _ => show _ = _; kernel_rfl
  | 19, _ => show _ = _; kernel_rfl
  | 20, _ => show _ = _; kernel_rfl
  | 21, _ => show _ = _; kernel_rfl
  | 22, _ => show _ = _; kernel_rfl
  | 23, _ => show _ = _; kernel_rfl
  | 24, _ => show _ = _; kernel_rfl
  | 25, _ => show _ = _; kernel_rfl
  | 26, _ => show _ = _; kernel_rfl
  | 27, _ => show _ = _; kernel_rfl
  | 28, _ => show _ = _; kernel_rfl
  | 29, _ => show _ = _; kernel_rfl
  | 30, _ => show _ = _; kernel_rfl
  | 31, _ => show _ = _; kernel_rfl
  | n + 32, h => exact absurd h (by omega)
theorem str_index (k : Nat) (hk : k < 32) (w : World) : (Instr.index 9 (.string { data := #[48, 49, 50, 51, 52, 53, 54, 55, 56, 57, 97, 98, 99, 100, 102, 103, 104, 105, 106, 107, 108, 109, 110, 112, 113, 114, 115, 118, 119, 120, 121, 122] }) (.int .i64 k)).run Tryd.prog w = .ok (.int .u8 (sg k)) w := by
  match k, hk with
  | 0, _ => show _ = _; kernel_rfl
  | 1, _ => show _ = _; kernel_rfl
  | 2, _ => show _ = _; kernel_rfl
  | 3, _ => show _ = _; kernel_rfl
  | 4, _ => show _ = _; kernel_rfl
  | 5, _ => show _ = _; kernel_rfl
  | 6, _ => show _ = _; kernel_rfl
  | 7, _ => show _ = _; kernel_rfl
  | 8, _ => show _ = _; kernel_rfl
  | 9, _ => show _ = _; kernel_rfl
  | 10, _ => show _ = _; kernel_rfl
  | 11, _ => show _ = _; kernel_rfl
  | 12, _ => show _ = _; kernel_rfl
  | 13, _ => show _ = _; kernel_rfl
  | 14, _ => show _ = _; kernel_rfl
  | 15, _ => show _ = _; kernel_rfl
  | 16, _ => show _ = _; kernel_rfl
  | 17, _ => show _ = _; kernel_rfl
  | 18, _ => show _ = _; kernel_rfl
  | 19, _ => show _ = _; kernel_rfl
  | 20, _ => show _ = _; kernel_rfl
  | 21, _ => show _ = _; kernel_rfl
  | 22, _ => show _ = _; kernel_rfl
  | 23, _ => show _ = _; kernel_rfl
  | 24, _ => show _ = _; kernel_rfl
  | 25, _ => show _ = _; kernel_rfl
  | 26, _ => show _ = _; kernel_rfl
  | 27, _ => show _ = _; kernel_rfl
  | 28, _ => show _ = _; kernel_rfl
  | 29, _ => show _ = _; kernel_rfl
  | 30, _ => show _ = _; kernel_rfl
  | 31, _ => show _ = _; kernel_rfl
  | n + 32, h => exact absurd h (by omega)
theorem tab_cell (w : World) (h : Tab w) (k : Nat) (hk : k < 32) : w.cell? ⟨1, k, none⟩ = some (.int .u8 (sg k)) := by
  obtain ⟨t, fr, h⟩ := h
  rw [cell_of_row w 1 k tabArr t fr h]
  match k, hk with
  | 0, _ => rfl
  | 1, _ => rfl
  | 2, _ => rfl
  | 3, _ => rfl
  | 4, _ => rfl
  | 5, _ => rfl
  | 6, _ => rfl
  | 7, _ => rfl
  | 8, _ => rfl
  | 9, _ => rfl
  | 10, _ => rfl
  | 11, _ => rfl
  | 12, _ => rfl
  | 13, _ => rfl
  | 14, _ => rfl
  | 15, _ => rfl
  | 16, _ => rfl
  | 17, _ => rfl
  | 18, _ => rfl
  | 19, _ => rfl
  | 20, _ => rfl
  | 21, _ => rfl
  | 22, _ => rfl
  | 23, _ => rfl
  | 24, _ => rfl
  | 25, _ => rfl
  | 26, _ => rfl
  | 27, _ => rfl
  | 28, _ => rfl
  | 29, _ => rfl
  | 30, _ => rfl
  | 31, _ => rfl
  | n + 32, h => exact absurd h (by omega)

set_option maxHeartbeats 400000 in
theorem valueOf_yes (v : Nat) (c : Int) (w : World) (hT : Tab w) (hv : v < 32) (hc : sg v = c) :
    Calls Tryd.prog 41 #[.int .u8 c] w fun e w' => e = .returned (.tuple #[.int .u8 v, .bool true]) ∧ w' = w := by
  obtain ⟨tt, fr, hT⟩ := hT
  have HC : Hid (sg v = c) := hc
  clear hc
  go_enter Tryd.func41, Tryd.ntmps41
  go_wp2_with (refine wpList_load_row rfl 51 _ rfl 1 rfl tt _ fr _ hT Tryd.underlying51 rfl (by kernel_rfl) ?_)
  go_loop [7] (fun i => ∃ k : Nat, k ≤ v ∧ i = .int .i64 k) (fun i => 32 - (intOf i).toNat)
  case atStart => exact ⟨0, Nat.zero_le _, rfl⟩
  case round =>
    obtain ⟨k, hk, rfl⟩ := hrel
    have hidx := tab_index k (by omega)
    by_cases hkv : k = v
    · subst hkv
      have ht : (sg k == c) = true := by rw [HC.out]; simp
      go_wp2
      go_ret2
      exact ⟨rfl, rfl⟩
    · have ht : (sg k == c) = false := by
        rw [← HC.out]; simp; intro h; exact hkv (sg_inj k v (by omega) hv h)
      go_wp2
      go_round
      case rel => exact ⟨k + 1, by omega, by go_num⟩
      case measure => simp [intOf]; omega
set_option maxHeartbeats 400000 in
theorem valueOf_no (c : Int) (w : World) (hT : Tab w) (hc : ∀ k, k < 32 → sg k ≠ c) :
    Calls Tryd.prog 41 #[.int .u8 c] w fun e w' => e = .returned (.tuple #[.int .u8 0, .bool false]) ∧ w' = w := by
  obtain ⟨tt, fr, hT⟩ := hT
  go_enter Tryd.func41, Tryd.ntmps41
  go_wp2_with (refine wpList_load_row rfl 51 _ rfl 1 rfl tt _ fr _ hT Tryd.underlying51 rfl (by kernel_rfl) ?_)
  go_loop [7] (fun i => ∃ k : Nat, k ≤ 32 ∧ i = .int .i64 k) (fun i => 32 - (intOf i).toNat)
  case atStart => exact ⟨0, Nat.zero_le _, rfl⟩
  case round =>
    obtain ⟨k, hk, rfl⟩ := hrel
    by_cases hlt : k < 32
    · have hidx := tab_index k hlt
      have ht : (sg k == c) = false := by simpa using hc k hlt
      go_wp2
      go_round
      case rel => exact ⟨k + 1, by omega, by go_num⟩
      case measure => simp [intOf]; omega
    · go_wp2
      go_ret2
      exact ⟨rfl, rfl⟩
set_option maxHeartbeats 400000 in
theorem refSign_yes (v : Nat) (c : Int) (w : World) (hv : v < 32) (hc : sg v = c) :
    Calls Tryd.prog 45 #[.int .u8 c] w fun e w' => e = .returned (.int .i64 v) ∧ w' = w := by
  have HC : Hid (sg v = c) := hc
  clear hc
  go_enter Tryd.func45, Tryd.ntmps45
  go_wp2
  go_loop [3] (fun i => ∃ k : Nat, k ≤ v ∧ i = .int .i64 k) (fun i => 32 - (intOf i).toNat)
  case atStart => exact ⟨0, Nat.zero_le _, rfl⟩
  case round =>
    obtain ⟨k, hk, rfl⟩ := hrel
    have hidx := str_index k (by omega)
    by_cases hkv : k = v
    · subst hkv
      have ht : (sg k == c) = true := by rw [HC.out]; simp
      go_wp2
      go_ret
      exact ⟨rfl, rfl⟩
    · have ht : (sg k == c) = false := by
        rw [← HC.out]; simp; intro h; exact hkv (sg_inj k v (by omega) hv h)
      go_wp2
      go_round
      case rel => exact ⟨k + 1, by omega, by go_num⟩
      case measure => simp [intOf]; omega
set_option maxHeartbeats 400000 in
theorem refSign_no (c : Int) (w : World) (hc : ∀ k, k < 32 → sg k ≠ c) :
    Calls Tryd.prog 45 #[.int .u8 c] w fun e w' => e = .returned (.int .i64 (-1)) ∧ w' = w := by
  go_enter Tryd.func45, Tryd.ntmps45
  go_wp2
  go_loop [3] (fun i => ∃ k : Nat, k ≤ 32 ∧ i = .int .i64 k) (fun i => 32 - (intOf i).toNat)
  case atStart => exact ⟨0, Nat.zero_le _, rfl⟩
  case round =>
    obtain ⟨k, hk, rfl⟩ := hrel
    by_cases hlt : k < 32
    · have hidx := str_index k hlt
      have ht : (sg k == c) = false := by simpa using hc k hlt
      go_wp2
      go_round
      case rel => exact ⟨k + 1, by omega, by go_num⟩
      case measure => simp [intOf]; omega
    · go_wp2
      go_ret
      exact ⟨rfl, rfl⟩
end Go.Proofs.YthidlckipiamkaaDoor.S2
namespace Go.Proofs.YthidlckipiamkaaDoor.S2
set_option maxRecDepth 20000
open Go.RowKit Math

/-- The signs' bytes of the first N groups of five bits. -/
def enc (g : Nat → Int) (N : Nat) : List Int := (List.range N).map fun j => sg (val g (5 * j) 5).toNat

/-- While the loop goes: the first k groups are signs already. -/
def rowS (g : Nat → Int) (N k : Nat) : List Value := (List.range N).map fun j => .int .u8 (if j < k then sg (val g (5 * j) 5).toNat else val g (5 * j) 5)

theorem rowS_zero (g : Nat → Int) (N : Nat) : rowS g N 0 = row g 5 N := by simp [rowS, row]
theorem rowS_full (g : Nat → Int) (N : Nat) : rowS g N N = (enc g N).map (Value.int .u8) := by
  simp only [rowS, enc, List.map_map]
  apply List.map_congr_left
  intro j hj
  rw [List.mem_range] at hj
  simp [hj]
theorem rowS_at (g : Nat → Int) (N k : Nat) (h : k < N) : (rowS g N k)[k]? = some (.int .u8 (val g (5 * k) 5)) := by
  simp [rowS, h]
theorem rowS_set (g : Nat → Int) (N k : Nat) (h : k < N) : (rowS g N k).set k (.int .u8 (sg (val g (5 * k) 5).toNat)) = rowS g N (k + 1) := by
  apply List.ext_getElem?
  intro j
  rw [List.getElem?_set]
  by_cases hj : j < N
  · by_cases e : k = j
    · subst e; simp [rowS, h]
    · rw [if_neg e]
      simp only [rowS, List.getElem?_map, List.getElem?_range hj, Option.map_some]
      by_cases h1 : j < k
      · rw [if_pos h1, if_pos (by omega)]
      · rw [if_neg h1, if_neg (by omega)]
  · rw [if_neg (by omega)]
    simp [rowS, Nat.not_lt.1 hj]

theorem conv_own (w : World) (B : Nat) (v : Value) (N : Nat) (xs : List Int) (h : w.ownsRow B 5 1 v N (xs.map (Value.int .u8))) :
    (convert 38 9 v).run Tryd.prog w = .ok (.string (strOfNums xs)) w := by
  have hl : xs.length = N := by simpa using h.1
  obtain ⟨_, ⟨rfl, rfl⟩ | ⟨g, cap, cur, rfl, _⟩⟩ := id h
  · have : xs = [] := List.length_eq_zero_iff.1 hl
    subst this
    exact run_convert_bytes_nil (P := Tryd.prog) w 38 5 Tryd.underlying38 Tryd.underlying5 0 0 9 Tryd.underlying9
  · refine run_convert_bytes_arg (P := Tryd.prog) w 38 5 Tryd.underlying38 Tryd.underlying5 g 0 N cap xs hl (fun i hi => ?_) 9 Tryd.underlying9
    rw [Nat.zero_add, h.cellAt i (by omega)]
    have hi' : i < xs.length := by omega
    simp [List.getD, hi']

theorem val5 (g : Nat → Int) (hg : ∀ k, 0 ≤ g k ∧ g k ≤ 1) (k : Nat) : ∃ x : Nat, val g k 5 = x ∧ x < 32 := by
  have h := val_bd g hg k 5
  exact ⟨(val g k 5).toNat, by omega, by omega⟩

end Go.Proofs.YthidlckipiamkaaDoor.S2
namespace Go.Proofs.YthidlckipiamkaaDoor.S2
set_option maxRecDepth 20000
open Go.RowKit Math

theorem ownsRow_base {w : World} {B B' e size n : Nat} {v : Value} {xs : List Value} (h : w.ownsRow B e size v n xs) (hB : B' ≤ B) : w.ownsRow B' e size v n xs := by
  obtain ⟨h1, h2 | ⟨g, cap, cur, e1, e2, e3⟩⟩ := h
  · exact ⟨h1, .inl h2⟩
  · exact ⟨h1, .inr ⟨g, cap, cur, e1, by omega, e3⟩⟩

/-- The bytes of the text's first k signs, told as numbers. -/
def rowV (vs : Nat → Nat) (k : Nat) : Nat → Value := fun j => .int .u8 (if j < k then (vs j : Int) else 0)

theorem rowV_step (vs : Nat → Nat) (k j : Nat) : (if j = k then Value.int .u8 (vs k) else rowV vs k j) = rowV vs (k + 1) j := by
  unfold rowV
  by_cases e : j = k
  · subst e; rw [if_pos rfl, if_pos (by omega)]
  · rw [if_neg e]
    by_cases h : j < k
    · rw [if_pos h, if_pos (by omega)]
    · rw [if_neg h, if_neg (by omega)]

set_option maxHeartbeats 1000000 in
theorem decode_bad (s : ByteArray) (vs : Nat → Nat) (m : Nat) (w : World) (hT : Tab w) (hn : s.size ≤ 281474976710656) (hm : m < s.size)
    (hvs : ∀ k, (h : k < s.size) → k < m → vs k < 32 ∧ sg (vs k) = (s[k].toNat : Int)) (hno : ∀ k, k < 32 → sg k ≠ (s[m].toNat : Int)) :
    Calls Tryd.prog 32 #[.string s] w fun e w' => e = .returned (.tuple #[.slice none 0 0, .int .i64 10]) ∧ Below w.heap.size w w' := by
  have hmk := run_make_row' (P := Tryd.prog) 38 5 (.int .u8 0) 1 Tryd.underlying38 Tryd.info5 rfl .i64 .i64 s.size (by omega) (by omega)
  have hT0 := hT.pos
  go_enter Tryd.func32, Tryd.ntmps32
  go_wp2
  clear hmk
  go_loopw [16] (fun i wr => ∃ k : Nat, k ≤ m ∧ i = .int .i64 k ∧ Below w.heap.size w wr ∧ wr.rowIs w.heap.size 5 s.size (rowV vs k)) (fun i _ => s.size - (intOf i).toNat)
  case atStart =>
    exact ⟨0, Nat.zero_le _, rfl, (Below.refl _ _).alloc (Nat.le_refl _) _, (World.rowIs_made w _ s.size 5).congr (fun j hj => by simp [rowV])⟩
  case round =>
    obtain ⟨k, hk, rfl, hb, hrow⟩ := hrel
    have hks : k < s.size := by omega
    have hTr := hT.below hb hT0
    obtain ⟨c, hc⟩ : ∃ c : Int, (s[k].toNat : Int) = c := ⟨_, rfl⟩
    by_cases hlt : k < m
    · obtain ⟨h32, hsg⟩ := hvs k hks hlt
      have HV := valueOf_yes (vs k) c wr hTr h32 (hsg.trans hc)
      have hcl := hrow.cell hks
      have hfz := hrow.frozen k
      have HR := hrow.set k (.int .u8 (vs k))
      clear hvs hno hsg hTr
      go_wp2_with fail
      refine HV.mono ?_
      rintro e w1 ⟨rfl, hw1⟩
      subst hw1
      clear HV hc
      go_wp2
      go_roundw
      case rel => exact ⟨k + 1, by omega, by go_num, hb.setCell (Nat.le_refl _) _, HR.congr (fun j _ => rowV_step vs k j)⟩
      case measure => simp [intOf]; omega
    · obtain rfl : k = m := by omega
      have HV := valueOf_no c wr hTr (fun j hj => by rw [← hc]; exact hno j hj)
      clear hvs hno hTr
      go_wp2_with fail
      refine HV.mono ?_
      rintro e w1 ⟨rfl, hw1⟩
      subst hw1
      clear HV hc
      go_wp2
      go_ret2
      exact ⟨rfl, hb⟩

set_option maxHeartbeats 1000000 in
theorem decode_any (s : ByteArray) (vs : Nat → Nat) (w : World) (hT : Tab w) (hn : s.size ≤ 281474976710656)
    (hvs : ∀ k, (h : k < s.size) → sg (vs k) = (s[k].toNat : Int)) (h32 : ∀ k, vs k < 32) :
    Calls Tryd.prog 32 #[.string s] w fun e w' => ∃ q l, 5 * s.size = 8 * q + l ∧ l < 8 ∧ Below w.heap.size w w' ∧
      ((l < 5 ∧ val (bitAt 5 fun i => (vs i : Int)) (8 * q) l = 0 ∧ ∃ v, e = .returned (.tuple #[v, .int .i64 0]) ∧ w'.ownsRow w.heap.size 5 1 v q (row (bitAt 5 fun i => (vs i : Int)) 8 q)) ∨
       (¬ (l < 5 ∧ val (bitAt 5 fun i => (vs i : Int)) (8 * q) l = 0) ∧ e = .returned (.tuple #[.slice none 0 0, .int .i64 10]))) := by
  have hmk := run_make_row' (P := Tryd.prog) 38 5 (.int .u8 0) 1 Tryd.underlying38 Tryd.info5 rfl .i64 .i64 s.size (by omega) (by omega)
  have hT0 := hT.pos
  go_enter Tryd.func32, Tryd.ntmps32
  go_wp2
  clear hmk
  go_loopw [16] (fun i wr => ∃ k : Nat, k ≤ s.size ∧ i = .int .i64 k ∧ Below w.heap.size w wr ∧ wr.rowIs w.heap.size 5 s.size (rowV vs k)) (fun i _ => s.size - (intOf i).toNat)
  case atStart =>
    exact ⟨0, Nat.zero_le _, rfl, (Below.refl _ _).alloc (Nat.le_refl _) _, (World.rowIs_made w _ s.size 5).congr (fun j hj => by simp [rowV])⟩
  case round =>
    obtain ⟨k, hk, rfl, hb, hrow⟩ := hrel
    have hTr := hT.below hb hT0
    by_cases hks : k < s.size
    · obtain ⟨c, hc⟩ : ∃ c : Int, (s[k].toNat : Int) = c := ⟨_, rfl⟩
      have hsg := hvs k hks
      have HV := valueOf_yes (vs k) c wr hTr (h32 k) (hsg.trans hc)
      have hcl := hrow.cell hks
      have hfz := hrow.frozen k
      have HR := hrow.set k (.int .u8 (vs k))
      clear hvs hsg hTr
      go_wp2_with fail
      refine HV.mono ?_
      rintro e w1 ⟨rfl, hw1⟩
      subst hw1
      clear HV hc
      go_wp2
      go_roundw
      case rel => exact ⟨k + 1, by omega, by go_num, hb.setCell (Nat.le_refl _) _, HR.congr (fun j _ => rowV_step vs k j)⟩
      case measure => simp [intOf]; omega
    · obtain rfl : k = s.size := by omega
      have HR := regroup_any (some ⟨w.heap.size, 0, none⟩) w.heap.size 0 s.size s.size 5 8 (fun i => (vs i : Int)) (bitAt 5 fun i => (vs i : Int)) wr (by decide) (by decide) (by decide) (by decide) hn (fun _ => rfl)
        (fun i hi => by rw [Nat.zero_add, hrow.cell hi]; simp [rowV, hi]) (fun i => by have := h32 i; omega) (bitAt_bd 5 _) (fun i j hj => bitAt_in 5 _ i j hj) (fun q hq => by omega)
      clear hvs hTr
      go_wp2_with fail
      refine HR.mono ?_
      rintro e w1 ⟨v, q, l, rfl, hm, hl, hown, hb1⟩
      have hbb : Below w.heap.size w w1 := hb.trans (hb1.mono hb.size)
      have hown1 := ownsRow_base hown hb.size
      clear HR hown hb1 hb hrow h32
      by_cases h5 : l < 5
      · by_cases hr : val (bitAt 5 fun i => (vs i : Int)) (8 * q) l = 0
        · go_wp2
          go_ret2
          exact ⟨q, l, hm, hl, hbb, .inl ⟨h5, hr, v, rfl, hown1⟩⟩
        · have hr' : (val (bitAt 5 fun i => (vs i : Int)) (8 * q) l != 0) = true := by simpa using hr
          go_wp2
          go_ret2
          exact ⟨q, l, hm, hl, hbb, .inr ⟨fun h => hr h.2, rfl⟩⟩
      · have HM : Hid (5 * s.size = 8 * q + l) := hm
        clear hm
        go_wp2
        go_ret2
        have hm := HM.out
        refine ⟨q, l, hm, hl, hbb, .inr ⟨fun h => absurd h h5, rfl⟩⟩
end Go.Proofs.YthidlckipiamkaaDoor.S2
namespace Go.Proofs.YthidlckipiamkaaDoor.S2
set_option maxRecDepth 20000
open Go.RowKit Math

/-- n bytes as cells. -/
def arr (f : Nat → Int) (n : Nat) : Array Value := ((List.range n).map fun i => Value.int .u8 (f i)).toArray

theorem arr_at (f : Nat → Int) (n i : Nat) (h : i < n) : (arr f n)[i]? = some (.int .u8 (f i)) := by simp [arr, h]
theorem arr_size (f : Nat → Int) (n : Nat) : (arr f n).size = n := by simp [arr]
theorem arr_set (f g : Nat → Int) (n j : Nat) (v : Int) (h : ∀ i, i < n → g i = if i = j then v else f i) : (arr f n).setIfInBounds j (.int .u8 v) = arr g n := by
  apply Array.ext_getElem?
  intro i
  rw [Array.getElem?_setIfInBounds]
  by_cases hi : i < n
  · rw [arr_at g n i hi, h i hi]
    by_cases e : j = i
    · subst e; rw [if_pos rfl, if_pos rfl, if_pos (by rw [arr_size]; exact hi)]
    · rw [if_neg e, if_neg (fun e' => e e'.symm), arr_at f n i hi]
  · have h1 : (arr g n)[i]? = none := by simp [arr, Nat.not_lt.1 hi]
    have h2 : (arr f n)[i]? = none := by simp [arr, Nat.not_lt.1 hi]
    rw [h1, h2]
    by_cases e : j = i
    · subst e; rw [if_pos rfl, if_neg (by rw [arr_size]; exact hi)]
    · rw [if_neg e]
theorem arr_congr (f g : Nat → Int) (n : Nat) (h : ∀ i, i < n → f i = g i) : arr f n = arr g n := by
  unfold arr
  congr 1
  apply List.map_congr_left
  intro i hi
  rw [List.mem_range] at hi
  rw [h i hi]

theorem new_at (w : World) (A : Array Value) (t : TypeId) (f : Nat → Int) (n : Nat) (h : A = arr f n) (i : Nat) (hi : i < n) : (w.alloc (.cells A t)).cell? ⟨w.heap.size, 0 + i, none⟩ = some (.int .u8 (f i)) := by
  rw [cell_of_row _ _ _ A t (0, 0) (heap_alloc_new w _), h, Nat.zero_add, arr_at f n i hi]

theorem Tab.alloc {w : World} (h : Tab w) (o : Obj) : Tab (w.alloc o) := h.below ((Below.refl _ _).alloc (Nat.le_refl _) _) h.pos

/-- The first k bytes that are laid over one another, at the place j of twenty. -/
def fold (f : Nat → Int) : Nat → Nat → Int
  | 0, _ => 0
  | k + 1, j => if j = k % 20 then bits .xor .u8 (fold f k j) (f k) else fold f k j
/-- The twenty bytes of a digest's short signs. -/
def short (f : Nat → Int) (j : Nat) : Int := if j < 20 then fold f 32 j else 0

theorem xor_bd (x y : Int) : 0 ≤ bits .xor .u8 x y ∧ bits .xor .u8 x y < 256 := by
  have h1 := bits_lo_u8 .xor x y
  have h2 := bits_hi_u8 .xor x y
  omega
theorem fold_bd (f : Nat → Int) (k j : Nat) : 0 ≤ fold f k j ∧ fold f k j < 256 := by
  induction k with
  | zero => simp [fold]
  | succ k ih =>
    simp only [fold]
    split
    · exact xor_bd _ _
    · exact ih

/-- In the walk of Short: the twenty bytes so far. -/
theorem fold_zero (f : Nat → Int) : arr (fold f 0) 20 = #[.int .u8 0, .int .u8 0, .int .u8 0, .int .u8 0, .int .u8 0, .int .u8 0, .int .u8 0, .int .u8 0, .int .u8 0, .int .u8 0, .int .u8 0, .int .u8 0, .int .u8 0, .int .u8 0, .int .u8 0, .int .u8 0, .int .u8 0, .int .u8 0, .int .u8 0, .int .u8 0] := by
  simp [arr, fold, List.range, List.range.loop]

theorem agg_index (A : Array Value) (f : Nat → Int) (hA : ∀ i, i < 32 → A[i]? = some (.int .u8 (f i))) (k : Nat) (hk : k < 32) (w : World) : (Instr.index 52 (.agg A) (.int .i64 k)).run Tryd.prog w = .ok (.int .u8 (f k)) w := by
  have h := hA k hk
  obtain ⟨i0, hi, _, hz1, _⟩ := info_parts Tryd.info5
  unfold Instr.index
  simp [asIntOf, hk, part, sizeOf, typeInfo, isAgg, hi, hz1, h]

end Go.Proofs.YthidlckipiamkaaDoor.S2
