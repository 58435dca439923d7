/- The message of SHA-256 and the digests so far: plain facts. -/
import Derived.Test.YtppgidmeeaodkaaGreatDoorS2Dig
namespace Go.Proofs.YtppgidmeeaodkaaGreatDoor.S2
set_option maxRecDepth 20000
open Go.RowKit Num

/-- The eight numbers at first. -/
def st0 : St := ⟨1779033703, 3144134277, 1013904242, 2773480762, 1359893119, 2600822924, 528734635, 1541459225⟩
/-- The message that is filled up to T bytes. -/
def msg (f : Nat → Int) (len T : Nat) : Nat → Int := fun i =>
  if i < len then f i else if i = len then 128 else if i < T - 8 then 0 else if i < T then (8 * (len : Int)) / 2 ^ (8 * (T - 1 - i)) % 256 else 0
/-- The digest so far behind j chunks. -/
def hs (f : Nat → Int) (len T : Nat) : Nat → St
  | 0 => st0
  | j + 1 => ovr (fun i => msg f len T (64 * j + i)) (hs f len T j)

theorem msg_bd (f : Nat → Int) (len T : Nat) (hf : ∀ i, 0 ≤ f i ∧ f i < 256) (i : Nat) : 0 ≤ msg f len T i ∧ msg f len T i < 256 := by
  unfold msg
  have := hf i
  split
  · omega
  · split
    · omega
    · split
      · omega
      · split
        · omega
        · omega

theorem scl_congr (m m' : Nat → Int) (h : ∀ i, i < 64 → m i = m' i) (n : Nat) : scl m n = scl m' n := by
  induction n with
  | zero => rfl
  | succ n ih =>
    simp only [scl, ih]
    congr 2
    split
    · rename_i hn
      unfold word
      simp only [num]
      rw [h _ (by omega), h _ (by omega), h _ (by omega), h _ (by omega)]
    · rfl
theorem sc_congr (m m' : Nat → Int) (h : ∀ i, i < 64 → m i = m' i) (i : Nat) : sc m i = sc m' i := by unfold sc; rw [scl_congr m m' h]
theorem rnds_congr (m m' : Nat → Int) (h : ∀ i, i < 64 → m i = m' i) (s : St) (k : Nat) : rnds m s k = rnds m' s k := by
  induction k with
  | zero => rfl
  | succ k ih => simp only [rnds]; rw [ih, sc_congr m m' h]
theorem ovr_congr (m m' : Nat → Int) (h : ∀ i, i < 64 → m i = m' i) (s : St) : ovr m s = ovr m' s := by unfold ovr; rw [rnds_congr m m' h]

theorem ovr_bd (m : Nat → Int) (s : St) (i : Nat) : 0 ≤ (ovr m s).at i ∧ (ovr m s).at i < 4294967296 := by
  have h : ∀ g : Nat → Int, (∀ j, 0 ≤ g j ∧ g j < 4294967296) → 0 ≤ (St.of g).at i ∧ (St.of g).at i < 4294967296 := fun g hg => by
    match i with
    | 0 => exact hg 0
    | 1 => exact hg 1
    | 2 => exact hg 2
    | 3 => exact hg 3
    | 4 => exact hg 4
    | 5 => exact hg 5
    | 6 => exact hg 6
    | 7 => exact hg 7
    | n + 8 => exact ⟨Int.le_refl 0, show (0 : Int) < 4294967296 by decide⟩
  exact h _ (fun j => ⟨Int.emod_nonneg _ (by decide), Int.emod_lt_of_pos _ (by decide)⟩)

/-- The bytes of a number of eight bytes. -/
def len8 (len : Nat) : Nat → Int := fun j => (8 * (len : Int)) / 2 ^ (8 * (8 - 1 - j)) % 256
/-- The last chunks, as the program lays them out: what is left over, the byte 128, zeros, the number of bits. -/
def tail1 (f : Nat → Int) (W n : Nat) : Nat → Int := over (fun _ => 0) (fun j => f (W + j)) 0 n
def tail2 (f : Nat → Int) (W n : Nat) : Nat → Int := fun i => if i = n then 128 else tail1 f W n i
def tail3 (f : Nat → Int) (W n E len : Nat) : Nat → Int := over (tail2 f W n) (len8 len) (E - 8) 8

theorem tail_msg (f : Nat → Int) (W n E len : Nat) (hlen : len = W + n) (hE : n + 9 ≤ E) (i : Nat) (hi : i < E) : tail3 f W n E len i = msg f len (W + E) (W + i) := by
  unfold tail3 msg over tail2 tail1 over len8
  by_cases h1 : E - 8 ≤ i
  · rw [if_pos (by omega), if_neg (by omega), if_neg (by omega), if_neg (by omega), if_pos (by omega), show 8 - 1 - (i - (E - 8)) = W + E - 1 - (W + i) by omega]
  · rw [if_neg (by omega)]
    by_cases h2 : i = n
    · rw [if_pos h2, if_neg (by omega), if_pos (by omega)]
    · rw [if_neg h2]
      by_cases h3 : i < n
      · rw [if_pos (by omega), if_pos (by omega)]
        rfl
      · rw [if_neg (by omega), if_neg (by omega), if_neg (by omega), if_pos (by omega)]
end Go.Proofs.YtppgidmeeaodkaaGreatDoor.S2
