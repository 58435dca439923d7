/- Digests: arrays of thirty-two bytes, as values and in memory, and the walks of digest.Text and digest.Short. -/
import Derived.Test.YtppgidmeeaodkaaGreatDoorS2Decode
import Derived.Deep.WholeRow
import Derived.Deep.MidRow
import Derived.Laws.Closers25b
namespace Go.Proofs.YtppgidmeeaodkaaGreatDoor.S2
set_option maxRecDepth 20000
open Go.RowKit Math

/-- n bytes as cells. -/
def arr (f : Nat → Int) (n : Nat) : Array Value := ((List.range n).map fun i => Value.int .u8 (f i)).toArray

theorem arr_at (f : Nat → Int) (n i : Nat) (h : i < n) : (arr f n)[i]? = some (.int .u8 (f i)) := by simp [arr, h]
theorem arr_size (f : Nat → Int) (n : Nat) : (arr f n).size = n := by simp [arr]
theorem arr_set (f g : Nat → Int) (n j : Nat) (v : Int) (h : ∀ i, i < n → g i = if i = j then v else f i) : (arr f n).setIfInBounds j (.int .u8 v) = arr g n := by
  apply Array.ext_getElem?
  intro i
  rw [Array.getElem?_setIfInBounds]
  by_cases hi : i < n
  · rw [arr_at g n i hi, h i hi]
    by_cases e : j = i
    · subst e; rw [if_pos rfl, if_pos rfl, if_pos (by rw [arr_size]; exact hi)]
    · rw [if_neg e, if_neg (fun e' => e e'.symm), arr_at f n i hi]
  · have h1 : (arr g n)[i]? = none := by simp [arr, Nat.not_lt.1 hi]
    have h2 : (arr f n)[i]? = none := by simp [arr, Nat.not_lt.1 hi]
    rw [h1, h2]
    by_cases e : j = i
    · subst e; rw [if_pos rfl, if_neg (by rw [arr_size]; exact hi)]
    · rw [if_neg e]
theorem arr_congr (f g : Nat → Int) (n : Nat) (h : ∀ i, i < n → f i = g i) : arr f n = arr g n := by
  unfold arr
  congr 1
  apply List.map_congr_left
  intro i hi
  rw [List.mem_range] at hi
  rw [h i hi]

theorem new_at (w : World) (A : Array Value) (t : TypeId) (f : Nat → Int) (n : Nat) (h : A = arr f n) (i : Nat) (hi : i < n) : (w.alloc (.cells A t)).cell? ⟨w.heap.size, 0 + i, none⟩ = some (.int .u8 (f i)) := by
  rw [cell_of_row _ _ _ A t (0, 0) (heap_alloc_new w _), h, Nat.zero_add, arr_at f n i hi]

theorem Tab.alloc {w : World} (h : Tab w) (o : Obj) : Tab (w.alloc o) := h.below ((Below.refl _ _).alloc (Nat.le_refl _) _) h.pos

/-- The first k bytes that are laid over one another, at the place j of twenty. -/
def fold (f : Nat → Int) : Nat → Nat → Int
  | 0, _ => 0
  | k + 1, j => if j = k % 20 then bits .xor .u8 (fold f k j) (f k) else fold f k j
/-- The twenty bytes of a digest's short signs. -/
def short (f : Nat → Int) (j : Nat) : Int := if j < 20 then fold f 32 j else 0

theorem xor_bd (x y : Int) : 0 ≤ bits .xor .u8 x y ∧ bits .xor .u8 x y < 256 := by
  have h1 := bits_lo_u8 .xor x y
  have h2 := bits_hi_u8 .xor x y
  omega
theorem fold_bd (f : Nat → Int) (k j : Nat) : 0 ≤ fold f k j ∧ fold f k j < 256 := by
  induction k with
  | zero => simp [fold]
  | succ k ih =>
    simp only [fold]
    split
    · exact xor_bd _ _
    · exact ih

set_option maxHeartbeats 400000 in
theorem text_any (f : Nat → Int) (w : World) (hT : Tab w) (hf : ∀ i, 0 ≤ f i ∧ f i < 256) (hf0 : ∀ i, 32 ≤ i → f i = 0) :
    Calls Tryz.prog 75 #[.agg (arr f 32)] w fun e w' => e = .returned (.string (strOfNums (enc (bitAt 8 f) 52))) ∧ Below w.heap.size w w' := by
  obtain ⟨A, hA⟩ : ∃ A, A = arr f 32 := ⟨_, rfl⟩
  rw [← hA]
  have hb : Below w.heap.size w (w.alloc (.cells A 121)) := (Below.refl _ _).alloc (Nat.le_refl _) _
  have HE := encode_any (some ⟨w.heap.size, 0, none⟩) w.heap.size 0 32 32 f (w.alloc (.cells A 121)) (hT.alloc _) (by decide) (fun _ => rfl) (new_at w A 121 f 32 hA) hf hf0
  clear hA
  go_enter Tryz.func75, Tryz.ntmps75
  go_wp2_with fail
  refine HE.mono ?_
  rintro e w1 ⟨rfl, hb1⟩
  go_wp2
  go_ret
  exact ⟨rfl, hb.trans (hb1.mono hb.size)⟩


/-- In the walk of Short: the twenty bytes so far. -/
theorem fold_zero (f : Nat → Int) : arr (fold f 0) 20 = #[.int .u8 0, .int .u8 0, .int .u8 0, .int .u8 0, .int .u8 0, .int .u8 0, .int .u8 0, .int .u8 0, .int .u8 0, .int .u8 0, .int .u8 0, .int .u8 0, .int .u8 0, .int .u8 0, .int .u8 0, .int .u8 0, .int .u8 0, .int .u8 0, .int .u8 0, .int .u8 0] := by
  simp [arr, fold, List.range, List.range.loop]

theorem agg_index (A : Array Value) (f : Nat → Int) (hA : ∀ i, i < 32 → A[i]? = some (.int .u8 (f i))) (k : Nat) (hk : k < 32) (w : World) : (Instr.index 121 (.agg A) (.int .i64 k)).run Tryz.prog w = .ok (.int .u8 (f k)) w := by
  have h := hA k hk
  obtain ⟨i0, hi, _, hz1, _⟩ := info_parts Tryz.info5
  unfold Instr.index
  simp [asIntOf, hk, part, sizeOf, typeInfo, isAgg, hi, hz1, h]

end Go.Proofs.YtppgidmeeaodkaaGreatDoor.S2
