/- The table of signs and the walks of bits.valueOf and of the document's own sign and bit. -/
import Derived.Test.YtppgidmeeaodkaaGreatDoorS2Regroup
namespace Go.Proofs.YtppgidmeeaodkaaGreatDoor.S2
set_option maxRecDepth 20000
open Go.RowKit Math

/-- The signs' numbers as bytes. -/
def sgs : List Int := [48, 49, 50, 51, 52, 53, 54, 55, 56, 57, 97, 98, 99, 100, 102, 103, 104, 105, 106, 107, 108, 109, 110, 112, 113, 114, 115, 118, 119, 120, 121, 122]
def sg (k : Nat) : Int := sgs.getD k 0
def tabArr : Array Value := #[.int .u8 48, .int .u8 49, .int .u8 50, .int .u8 51, .int .u8 52, .int .u8 53, .int .u8 54, .int .u8 55, .int .u8 56, .int .u8 57, .int .u8 97, .int .u8 98, .int .u8 99, .int .u8 100, .int .u8 102, .int .u8 103, .int .u8 104, .int .u8 105, .int .u8 106, .int .u8 107, .int .u8 108, .int .u8 109, .int .u8 110, .int .u8 112, .int .u8 113, .int .u8 114, .int .u8 115, .int .u8 118, .int .u8 119, .int .u8 120, .int .u8 121, .int .u8 122]
/-- The table lies in block 2. -/
def Tab (w : World) : Prop := ∃ t fr, w.heap[1]? = some (.cells tabArr t fr)

theorem Tab.below {B : Nat} {w w' : World} (h : Tab w) (hb : Below B w w') (hB : 1 < B) : Tab w' := by
  obtain ⟨t, fr, h⟩ := h
  exact ⟨t, fr, (hb.block 1 hB).trans h⟩
theorem Tab.pos {w : World} (h : Tab w) : 1 < w.heap.size := by
  obtain ⟨t, fr, h⟩ := h
  obtain ⟨hlt, _⟩ := Array.getElem?_eq_some_iff.1 h
  exact hlt

theorem sg_lt (k : Nat) : 0 ≤ sg k ∧ sg k < 123 := by
  by_cases h : k < 32
  · revert k; decide
  · unfold sg; rw [List.getD, List.getElem?_eq_none (by simp [sgs]; omega)]; decide
theorem sg_mono : ∀ i : Fin 32, ∀ j : Fin 32, i < j → sg i < sg j := by decide
theorem sg_inj (i j : Nat) (hi : i < 32) (hj : j < 32) (h : sg i = sg j) : i = j := by
  rcases Nat.lt_trichotomy i j with h' | h' | h'
  · have := sg_mono ⟨i, hi⟩ ⟨j, hj⟩ h'; simp at this; omega
  · exact h'
  · have := sg_mono ⟨j, hj⟩ ⟨i, hi⟩ h'; simp at this; omega

theorem tab_index (k : Nat) (hk : k < 32) (w : World) : (Instr.index 76 (.agg tabArr) (.int .i64 k)).run Tryz.prog w = .ok (.int .u8 (sg k)) w := by
  match k, hk with
  | 0, _ => show _ = _; kernel_rfl
  | 1, _ => show _ = _; kernel_rfl
  | 2, _ => show _ = _; kernel_rfl
  | 3, _ => show _ = _; kernel_rfl
  | 4, _ => show _ = _; kernel_rfl
  | 5, _ => show _ = _; kernel_rfl
  | 6, _ => show _ = _; kernel_rfl
  | 7, _ => show _ = _; kernel_rfl
  | 8, _ => show _ = _; kernel_rfl
  | 9, _ => show _ = _; kernel_rfl
  | 10, _ => show _ = _; kernel_rfl
  | 11, _ => show _ = _; kernel_rfl
  | 12, _ => show _ = _; kernel_rfl
  | 13, _ => show _ = _; kernel_rfl
  | 14, _ => show _ = _; kernel_rfl
  | 15, _ => show _ = _; kernel_rfl
  | 16, _ => show _ = _; kernel_rfl
  | 17, _ => show _ = _; kernel_rfl
  | 18, _ => show _ = _; kernel_rfl
  | 19, _ => show _ = _; kernel_rfl
  | 20, _ => show _ = _; kernel_rfl
  | 21, _ => show _ = _; kernel_rfl
  | 22, _ => show _ = _; kernel_rfl
  | 23, _ => show _ = _; kernel_rfl
  | 24, _ => show _ = _; kernel_rfl
  | 25, _ => show _ = _; kernel_rfl
  | 26, _ => show _ = _; kernel_rfl
  | 27, _ => show _ = _; kernel_rfl
  | 28, _ => show _ = _; kernel_rfl
  | 29, _ => show _ = _; kernel_rfl
  | 30, _ => show _ = _; kernel_rfl
  | 31, _ => show _ = _; kernel_rfl
  | n + 32, h => exact absurd h (by omega)
theorem str_index (k : Nat) (hk : k < 32) (w : World) : (Instr.index 9 (.string { data := #[48, 49, 50, 51, 52, 53, 54, 55, 56, 57, 97, 98, 99, 100, 102, 103, 104, 105, 106, 107, 108, 109, 110, 112, 113, 114, 115, 118, 119, 120, 121, 122] }) (.int .i64 k)).run Tryz.prog w = .ok (.int .u8 (sg k)) w := by
  match k, hk with
  | 0, _ => show _ = _; kernel_rfl
  | 1, _ => show _ = _; kernel_rfl
  | 2, _ => show _ = _; kernel_rfl
  | 3, _ => show _ = _; kernel_rfl
  | 4, _ => show _ = _; kernel_rfl
  | 5, _ => show _ = _; kernel_rfl
  | 6, _ => show _ = _; kernel_rfl
  | 7, _ => show _ = _; kernel_rfl
  | 8, _ => show _ = _; kernel_rfl
  | 9, _ => show _ = _; kernel_rfl
  | 10, _ => show _ = _; kernel_rfl
  | 11, _ => show _ = _; kernel_rfl
  | 12, _ => show _ = _; kernel_rfl
  | 13, _ => show _ = _; kernel_rfl
  | 14, _ => show _ = _; kernel_rfl
  | 15, _ => show _ = _; kernel_rfl
  | 16, _ => show _ = _; kernel_rfl
  | 17, _ => show _ = _; kernel_rfl
  | 18, _ => show _ = _; kernel_rfl
  | 19, _ => show _ = _; kernel_rfl
  | 20, _ => show _ = _; kernel_rfl
  | 21, _ => show _ = _; kernel_rfl
  | 22, _ => show _ = _; kernel_rfl
  | 23, _ => show _ = _; kernel_rfl
  | 24, _ => show _ = _; kernel_rfl
  | 25, _ => show _ = _; kernel_rfl
  | 26, _ => show _ = _; kernel_rfl
  | 27, _ => show _ = _; kernel_rfl
  | 28, _ => show _ = _; kernel_rfl
  | 29, _ => show _ = _; kernel_rfl
  | 30, _ => show _ = _; kernel_rfl
  | 31, _ => show _ = _; kernel_rfl
  | n + 32, h => exact absurd h (by omega)
theorem tab_cell (w : World) (h : Tab w) (k : Nat) (hk : k < 32) : w.cell? ⟨1, k, none⟩ = some (.int .u8 (sg k)) := by
  obtain ⟨t, fr, h⟩ := h
  rw [cell_of_row w 1 k tabArr t fr h]
  match k, hk with
  | 0, _ => rfl
  | 1, _ => rfl
  | 2, _ => rfl
  | 3, _ => rfl
  | 4, _ => rfl
  | 5, _ => rfl
  | 6, _ => rfl
  | 7, _ => rfl
  | 8, _ => rfl
  | 9, _ => rfl
  | 10, _ => rfl
  | 11, _ => rfl
  | 12, _ => rfl
  | 13, _ => rfl
  | 14, _ => rfl
  | 15, _ => rfl
  | 16, _ => rfl
  | 17, _ => rfl
  | 18, _ => rfl
  | 19, _ => rfl
  | 20, _ => rfl
  | 21, _ => rfl
  | 22, _ => rfl
  | 23, _ => rfl
  | 24, _ => rfl
  | 25, _ => rfl
  | 26, _ => rfl
  | 27, _ => rfl
  | 28, _ => rfl
  | 29, _ => rfl
  | 30, _ => rfl
  | 31, _ => rfl
  | n + 32, h => exact absurd h (by omega)

set_option maxHeartbeats 400000 in
theorem valueOf_yes (v : Nat) (c : Int) (w : World) (hT : Tab w) (hv : v < 32) (hc : sg v = c) :
    Calls Tryz.prog 264 #[.int .u8 c] w fun e w' => e = .returned (.tuple #[.int .u8 v, .bool true]) ∧ w' = w := by
  obtain ⟨tt, fr, hT⟩ := hT
  have HC : Hid (sg v = c) := hc
  clear hc
  go_enter Tryz.func264, Tryz.ntmps264
  go_wp2_with (refine wpList_load_row rfl 76 _ rfl 1 rfl tt _ fr _ hT Tryz.underlying76 rfl (by kernel_rfl) ?_)
  go_loop [7] (fun i => ∃ k : Nat, k ≤ v ∧ i = .int .i64 k) (fun i => 32 - (intOf i).toNat)
  case atStart => exact ⟨0, Nat.zero_le _, rfl⟩
  case round =>
    obtain ⟨k, hk, rfl⟩ := hrel
    have hidx := tab_index k (by omega)
    by_cases hkv : k = v
    · subst hkv
      have ht : (sg k == c) = true := by rw [HC.out]; simp
      go_wp2
      go_ret2
      exact ⟨rfl, rfl⟩
    · have ht : (sg k == c) = false := by
        rw [← HC.out]; simp; intro h; exact hkv (sg_inj k v (by omega) hv h)
      go_wp2
      go_round
      case rel => exact ⟨k + 1, by omega, by go_num⟩
      case measure => simp [intOf]; omega
set_option maxHeartbeats 400000 in
theorem valueOf_no (c : Int) (w : World) (hT : Tab w) (hc : ∀ k, k < 32 → sg k ≠ c) :
    Calls Tryz.prog 264 #[.int .u8 c] w fun e w' => e = .returned (.tuple #[.int .u8 0, .bool false]) ∧ w' = w := by
  obtain ⟨tt, fr, hT⟩ := hT
  go_enter Tryz.func264, Tryz.ntmps264
  go_wp2_with (refine wpList_load_row rfl 76 _ rfl 1 rfl tt _ fr _ hT Tryz.underlying76 rfl (by kernel_rfl) ?_)
  go_loop [7] (fun i => ∃ k : Nat, k ≤ 32 ∧ i = .int .i64 k) (fun i => 32 - (intOf i).toNat)
  case atStart => exact ⟨0, Nat.zero_le _, rfl⟩
  case round =>
    obtain ⟨k, hk, rfl⟩ := hrel
    by_cases hlt : k < 32
    · have hidx := tab_index k hlt
      have ht : (sg k == c) = false := by simpa using hc k hlt
      go_wp2
      go_round
      case rel => exact ⟨k + 1, by omega, by go_num⟩
      case measure => simp [intOf]; omega
    · go_wp2
      go_ret2
      exact ⟨rfl, rfl⟩
set_option maxHeartbeats 400000 in
theorem refSign_yes (v : Nat) (c : Int) (w : World) (hv : v < 32) (hc : sg v = c) :
    Calls Tryz.prog 204 #[.int .u8 c] w fun e w' => e = .returned (.int .i64 v) ∧ w' = w := by
  have HC : Hid (sg v = c) := hc
  clear hc
  go_enter Tryz.func204, Tryz.ntmps204
  go_wp2
  go_loop [3] (fun i => ∃ k : Nat, k ≤ v ∧ i = .int .i64 k) (fun i => 32 - (intOf i).toNat)
  case atStart => exact ⟨0, Nat.zero_le _, rfl⟩
  case round =>
    obtain ⟨k, hk, rfl⟩ := hrel
    have hidx := str_index k (by omega)
    by_cases hkv : k = v
    · subst hkv
      have ht : (sg k == c) = true := by rw [HC.out]; simp
      go_wp2
      go_ret
      exact ⟨rfl, rfl⟩
    · have ht : (sg k == c) = false := by
        rw [← HC.out]; simp; intro h; exact hkv (sg_inj k v (by omega) hv h)
      go_wp2
      go_round
      case rel => exact ⟨k + 1, by omega, by go_num⟩
      case measure => simp [intOf]; omega
set_option maxHeartbeats 400000 in
theorem refSign_no (c : Int) (w : World) (hc : ∀ k, k < 32 → sg k ≠ c) :
    Calls Tryz.prog 204 #[.int .u8 c] w fun e w' => e = .returned (.int .i64 (-1)) ∧ w' = w := by
  go_enter Tryz.func204, Tryz.ntmps204
  go_wp2
  go_loop [3] (fun i => ∃ k : Nat, k ≤ 32 ∧ i = .int .i64 k) (fun i => 32 - (intOf i).toNat)
  case atStart => exact ⟨0, Nat.zero_le _, rfl⟩
  case round =>
    obtain ⟨k, hk, rfl⟩ := hrel
    by_cases hlt : k < 32
    · have hidx := str_index k hlt
      have ht : (sg k == c) = false := by simpa using hc k hlt
      go_wp2
      go_round
      case rel => exact ⟨k + 1, by omega, by go_num⟩
      case measure => simp [intOf]; omega
    · go_wp2
      go_ret
      exact ⟨rfl, rfl⟩
end Go.Proofs.YtppgidmeeaodkaaGreatDoor.S2
