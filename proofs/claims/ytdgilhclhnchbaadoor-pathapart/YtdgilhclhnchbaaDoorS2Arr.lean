/- Digests: arrays of thirty-two bytes, as values and in memory, and the walks of digest.Text and digest.Short. -/
import Derived.Test.YtdgilhclhnchbaaDoorS2Decode
import Derived.Deep.WholeRow
import Derived.Deep.MidRow
import Derived.Laws.Closers25b
namespace Go.Proofs.YtdgilhclhnchbaaDoor.S2
open Go.RowKit Math

/-- n bytes as cells. -/
def arr (f : Nat → Int) (n : Nat) : Array Value := ((List.range n).map fun i => Value.int .u8 (f i)).toArray

theorem arr_at (f : Nat → Int) (n i : Nat) (h : i < n) : (arr f n)[i]? = some (.int .u8 (f i)) := by simp [arr, h]
theorem arr_size (f : Nat → Int) (n : Nat) : (arr f n).size = n := by simp [arr]
theorem arr_set (f g : Nat → Int) (n j : Nat) (v : Int) (h : ∀ i, i < n → g i = if i = j then v else f i) : (arr f n).setIfInBounds j (.int .u8 v) = arr g n := by
  apply Array.ext_getElem?
  intro i
  rw [Array.getElem?_setIfInBounds]
  by_cases hi : i < n
  · rw [arr_at g n i hi, h i hi]
    by_cases e : j = i
    · subst e; rw [if_pos rfl, if_pos rfl, if_pos (by rw [arr_size]; exact hi)]
    · rw [if_neg e, if_neg (fun e' => e e'.symm), arr_at f n i hi]
  · have h1 : (arr g n)[i]? = none := by simp [arr, Nat.not_lt.1 hi]
    have h2 : (arr f n)[i]? = none := by simp [arr, Nat.not_lt.1 hi]
    rw [h1, h2]
    by_cases e : j = i
    · subst e; rw [if_pos rfl, if_neg (by rw [arr_size]; exact hi)]
    · rw [if_neg e]
theorem arr_congr (f g : Nat → Int) (n : Nat) (h : ∀ i, i < n → f i = g i) : arr f n = arr g n := by
  unfold arr
  congr 1
  apply List.map_congr_left
  intro i hi
  rw [List.mem_range] at hi
  rw [h i hi]

theorem new_at (w : World) (A : Array Value) (t : TypeId) (f : Nat → Int) (n : Nat) (h : A = arr f n) (i : Nat) (hi : i < n) : (w.alloc (.cells A t)).cell? ⟨w.heap.size, 0 + i, none⟩ = some (.int .u8 (f i)) := by
  rw [cell_of_row _ _ _ A t (0, 0) (heap_alloc_new w _), h, Nat.zero_add, arr_at f n i hi]

theorem Tab.alloc {w : World} (h : Tab w) (o : Obj) : Tab (w.alloc o) := h.below ((Below.refl _ _).alloc (Nat.le_refl _) _) h.pos

/-- The first k bytes that are laid over one another, at the place j of twenty. -/
def fold (f : Nat → Int) : Nat → Nat → Int
  | 0, _ => 0
  | k + 1, j => if j = k % 20 then bits .xor .u8 (fold f k j) (f k) else fold f k j
/-- The twenty bytes of a digest's short signs. -/
def short (f : Nat → Int) (j : Nat) : Int := if j < 20 then fold f 32 j else 0

theorem xor_bd (x y : Int) : 0 ≤ bits .xor .u8 x y ∧ bits .xor .u8 x y < 256 := by
  have h1 := bits_lo_u8 .xor x y
  have h2 := bits_hi_u8 .xor x y
  omega
theorem fold_bd (f : Nat → Int) (k j : Nat) : 0 ≤ fold f k j ∧ fold f k j < 256 := by
  induction k with
  | zero => simp [fold]
  | succ k ih =>
    simp only [fold]
    split
    · exact xor_bd _ _
    · exact ih

set_option maxHeartbeats 400000 in
theorem text_any (f : Nat → Int) (w : World) (hT : Tab w) (hf : ∀ i, 0 ≤ f i ∧ f i < 256) (hf0 : ∀ i, 32 ≤ i → f i = 0) :
    Calls Tryd.prog 16 #[.agg (arr f 32)] w fun e w' => e = .returned (.string (strOfNums (enc (bitAt 8 f) 52))) ∧ Below w.heap.size w w' := by
  obtain ⟨A, hA⟩ : ∃ A, A = arr f 32 := ⟨_, rfl⟩
  rw [← hA]
  have hb : Below w.heap.size w (w.alloc (.cells A 39)) := (Below.refl _ _).alloc (Nat.le_refl _) _
  have HE := encode_any (some ⟨w.heap.size, 0, none⟩) w.heap.size 0 32 32 f (w.alloc (.cells A 39)) (hT.alloc _) (by decide) (fun _ => rfl) (new_at w A 39 f 32 hA) hf hf0
  clear hA
  go_enter Tryd.func16, Tryd.ntmps16
  go_wp2_with fail
  refine HE.mono ?_
  rintro e w1 ⟨rfl, hb1⟩
  go_wp2
  go_ret
  exact ⟨rfl, hb.trans (hb1.mono hb.size)⟩


/-- In the walk of Short: the twenty bytes so far. -/
theorem fold_zero (f : Nat → Int) : arr (fold f 0) 20 = #[.int .u8 0, .int .u8 0, .int .u8 0, .int .u8 0, .int .u8 0, .int .u8 0, .int .u8 0, .int .u8 0, .int .u8 0, .int .u8 0, .int .u8 0, .int .u8 0, .int .u8 0, .int .u8 0, .int .u8 0, .int .u8 0, .int .u8 0, .int .u8 0, .int .u8 0, .int .u8 0] := by
  simp [arr, fold, List.range, List.range.loop]

theorem agg_index (A : Array Value) (f : Nat → Int) (hA : ∀ i, i < 32 → A[i]? = some (.int .u8 (f i))) (k : Nat) (hk : k < 32) (w : World) : (Instr.index 39 (.agg A) (.int .i64 k)).run Tryd.prog w = .ok (.int .u8 (f k)) w := by
  have h := hA k hk
  obtain ⟨i0, hi, _, hz1, _⟩ := info_parts Tryd.info5
  unfold Instr.index
  simp [asIntOf, hk, part, sizeOf, typeInfo, isAgg, hi, hz1, h]

set_option maxHeartbeats 400000 in
theorem short_any (f : Nat → Int) (w : World) (hT : Tab w) :
    Calls Tryd.prog 17 #[.agg (arr f 32)] w fun e w' => e = .returned (.string (strOfNums (enc (bitAt 8 (short f)) 32))) ∧ Below w.heap.size w w' := by
  obtain ⟨A, hA⟩ : ∃ A, A = arr f 32 := ⟨_, rfl⟩
  rw [← hA]
  have hAi : Hid (∀ i, i < 32 → A[i]? = some (.int .u8 (f i))) := by rw [hA]; exact fun i hi => arr_at f 32 i hi
  have hi24 : (Tryd.prog.info? 39).map (·.size) = some A.size := by rw [hA, arr_size]; kernel_rfl
  clear hA
  go_enter Tryd.func17, Tryd.ntmps17
  go_wp2_with (refine wpList_load_row rfl 39 _ rfl _ rfl 39 A (0, 0) _ (heap_alloc2_old w _ _) Tryd.underlying39 rfl hi24 ?_)
  rw [← fold_zero f]
  go_loopw [7] (fun i wr => ∃ k : Nat, k ≤ 32 ∧ i = .int .i64 k ∧ wr = (w.alloc (.cells A 39)).alloc (.cells (arr (fold f k) 20) 57)) (fun i _ => 32 - (intOf i).toNat)
  case atStart => exact ⟨0, Nat.zero_le _, rfl, rfl⟩
  case round =>
    obtain ⟨k, hk, rfl, rfl⟩ := hrel
    by_cases hlt : k < 32
    · have hidx := agg_index A f hAi.out k hlt
      obtain ⟨C, hC⟩ : ∃ C, C = arr (fold f k) 20 := ⟨_, rfl⟩
      rw [← hC]
      have hC1 : C[k % 20]? = some (.int .u8 (fold f k (k % 20))) := by rw [hC]; exact arr_at _ _ _ (by omega)
      have HC2 : Hid (C.setIfInBounds (k % 20) (.int .u8 (bits .xor .u8 (fold f k (k % 20)) (f k))) = arr (fold f (k + 1)) 20) := by
        show _ = _
        rw [hC]
        refine arr_set _ _ _ _ _ (fun i hi => ?_)
        simp only [fold]
        by_cases e : i = k % 20
        · rw [if_pos e, if_pos e, e]
        · rw [if_neg e, if_neg e]
      clear hC
      go_wp2
      rw [HC2.out]
      exact ⟨⟨k + 1, by omega, by go_num, rfl⟩, by simp [intOf]; omega⟩
    · obtain rfl : k = 32 := by omega
      have hb : Below w.heap.size w ((w.alloc (.cells A 39)).alloc (.cells (arr (fold f 32) 20) 57)) := ((Below.refl _ _).alloc (Nat.le_refl _) _).alloc (by simp) _
      have HE := encode_any (some ⟨w.heap.size + 1, 0, none⟩) (w.heap.size + 1) 0 20 20 (short f) ((w.alloc (.cells A 39)).alloc (.cells (arr (fold f 32) 20) 57)) ((hT.alloc _).alloc _) (by decide) (fun _ => rfl)
        (fun i hi => by
          have h := new_at (w.alloc (.cells A 39)) (arr (fold f 32) 20) 57 (fold f 32) 20 rfl i hi
          rw [show (w.alloc (.cells A 39)).heap.size = w.heap.size + 1 by simp] at h
          rw [h, short, if_pos hi])
        (fun i => by unfold short; split; exact fold_bd f 32 i; decide) (fun i hi => by unfold short; rw [if_neg (by omega)])
      go_wp2_with fail
      refine HE.mono ?_
      rintro e w1 ⟨rfl, hb1⟩
      go_wp2
      go_ret
      exact ⟨rfl, hb.trans (hb1.mono hb.size)⟩
end Go.Proofs.YtdgilhclhnchbaaDoor.S2
