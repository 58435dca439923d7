/- The words of a header. -/
import Derived.Test.YtlbapnecmhlgmaaCrash
namespace Go.Proofs.Ytlbapnecmhlgmaa
open Go.RowKit

theorem num_congr (f g : Nat → Int) : ∀ n, (∀ j, j < n → f j = g j) → num f n = num g n
  | 0, _ => rfl
  | n + 1, h => by rw [num, num, num_congr f g n (fun j hj => h j (by omega)), h n (by omega)]
theorem num_of (v : Nat) (hv : v < 9223372036854775808) : num (fun j => (v : Int) / 2 ^ (8 * (7 - j)) % 256) 8 = v := by
  simp only [num, show 8 * (7 - 0) = 56 from rfl, show 8 * (7 - 1) = 48 from rfl, show 8 * (7 - 2) = 40 from rfl, show 8 * (7 - 3) = 32 from rfl, show 8 * (7 - 4) = 24 from rfl, show 8 * (7 - 5) = 16 from rfl, show 8 * (7 - 6) = 8 from rfl, show 8 * (7 - 7) = 0 from rfl, show (2 : Int) ^ 56 = 72057594037927936 from rfl, show (2 : Int) ^ 48 = 281474976710656 from rfl, show (2 : Int) ^ 40 = 1099511627776 from rfl, show (2 : Int) ^ 32 = 4294967296 from rfl, show (2 : Int) ^ 24 = 16777216 from rfl, show (2 : Int) ^ 16 = 65536 from rfl, show (2 : Int) ^ 8 = 256 from rfl, show (2 : Int) ^ 0 = 1 from rfl]
  omega
theorem word_same (f : Nat → Int) (i v : Nat) (hv : v < 9223372036854775808) : word (setw f i v) i = v := by
  unfold word
  rw [num_congr _ (fun j => (v : Int) / 2 ^ (8 * (7 - j)) % 256) 8 (fun j hj => by
    unfold setw
    rw [if_pos (by omega), show i * 8 + j - i * 8 = j by omega]), num_of v hv]
theorem word_other (f : Nat → Int) (i i' v : Nat) (h : i' ≠ i) : word (setw f i v) i' = word f i' := by
  unfold word
  exact num_congr _ _ 8 (fun j hj => by
    unfold setw
    rw [if_neg (by omega)])
theorem word_congr (f g : Nat → Int) (i : Nat) (hi : i ≤ 31) (h : ∀ j, j < 256 → f j = g j) : word f i = word g i := num_congr _ _ 8 (fun j hj => h _ (by omega))
theorem hdrN_word1 (K : List Nat) (hl : K.length < 9223372036854775808) : ∀ n, word (hdrN K n) 1 = K.length
  | 0 => word_same _ _ _ hl
  | n + 1 => by rw [hdrN, word_other _ _ _ _ (by omega)]; exact hdrN_word1 K hl n
theorem hdrN_word (K : List Nat) (hk : ∀ i, K.getD i 0 < 9223372036854775808) (i : Nat) : ∀ n, i < n → word (hdrN K n) (2 + i) = (K.getD i 0 : Nat)
  | 0, h => by omega
  | n + 1, h => by
    rw [hdrN]
    by_cases e : i = n
    · subst e
      exact word_same _ _ _ (hk i)
    · rw [word_other _ _ _ _ (by omega)]
      exact hdrN_word K hk i n (by omega)
theorem hdrN_mark (K : List Nat) (j : Nat) (hj : j < 8) : ∀ n, hdrN K n j = markF j
  | 0 => by rw [hdrN]; unfold setw; rw [if_neg (by omega)]
  | n + 1 => by rw [hdrN]; unfold setw; rw [if_neg (by omega)]; exact hdrN_mark K j hj n
theorem hdr_marked (K : List Nat) (f : Nat → Int) (h : ∀ j, j < 256 → f j = hdr K j) : ((s8 f).toList == [115, 116, 105, 108, 108, 119, 97, 108]) = true := by
  have e : s8 f = s8 markF := by
    unfold s8
    congr 1
    apply List.map_congr_left
    intro j hj
    rw [h j (by simp at hj; omega)]
    exact hdrN_mark K j (by simpa using hj) _
  rw [e]
  show _ = true
  kernel_rfl
end Go.Proofs.Ytlbapnecmhlgmaa
