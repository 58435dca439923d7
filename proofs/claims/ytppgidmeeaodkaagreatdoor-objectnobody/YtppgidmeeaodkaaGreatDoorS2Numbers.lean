/- The walks of bits.Bytes, Number and Rotate, and of the document's own. -/
import Derived.Test.YtppgidmeeaodkaaGreatDoorS2Regroup
import Derived.Test.YtppgidmeeaodkaaGreatDoorS2Num
namespace Go.Proofs.YtppgidmeeaodkaaGreatDoor.S2
set_option maxRecDepth 20000
open Go.RowKit Num
set_option maxHeartbeats 400000 in
theorem bytes_any (v : Int) (n : Nat) (w : World) (h1 : 1 ≤ n) (h8 : n ≤ 8) :
    Calls Tryz.prog 173 #[.int .u64 v, .int .i64 n] w fun e w' => e = .returned (.tuple #[.slice (some ⟨w.heap.size, 0, none⟩) n n, .int .i64 0]) ∧ Below w.heap.size w w' ∧ w'.heap.size = w.heap.size + 1 ∧ w'.rowIs w.heap.size 5 n (fun j => .int .u8 (v / 2 ^ (8 * (n - 1 - j)) % 256)) := by
  have hmk := run_make_row' (P := Tryz.prog) 36 5 (.int .u8 0) 1 Tryz.underlying36 Tryz.info5 rfl .i64 .i64 n (by omega) (by omega)
  go_enter Tryz.func173, Tryz.ntmps173
  go_wp2
  clear hmk
  go_loopw [17] (fun i wr => ∃ k : Nat, k ≤ n ∧ i = .int .i64 k ∧ Below w.heap.size w wr ∧ wr.heap.size = w.heap.size + 1 ∧ wr.rowIs w.heap.size 5 n (fun j => if n ≤ j + k then .int .u8 (v / 2 ^ (8 * (n - 1 - j)) % 256) else .int .u8 0)) (fun i _ => n - (intOf i).toNat)
  case atStart =>
    refine ⟨0, Nat.zero_le _, rfl, (Below.refl _ _).alloc (Nat.le_refl _) _, by simp, (World.rowIs_made w _ n 5).congr (fun j hj => ?_)⟩
    rw [if_neg (by omega)]
  case round =>
    obtain ⟨k, hk, rfl, hb, hsz, hrow⟩ := hrel
    by_cases hlt : k < n
    · have hc := hrow.cell (i := n - 1 - k) (by omega)
      have hf := hrow.frozen (n - 1 - k)
      simp only [show ¬ n ≤ n - 1 - k + k by omega, if_false] at hc
      have HR := hrow.set (n - 1 - k) (.int .u8 (v / 2 ^ (8 * k) % 256))
      go_wp2
      go_roundw
      case rel =>
        refine ⟨k + 1, by omega, by go_num, hb.setCell (Nat.le_refl _) _, by simpa using hsz, HR.congr (fun j hj => ?_)⟩
        by_cases e : j = n - 1 - k
        · rw [if_pos e, if_pos (by omega), e, show n - 1 - (n - 1 - k) = k by omega]
        · rw [if_neg e]
          by_cases h : n ≤ j + k
          · rw [if_pos h, if_pos (by omega)]
          · rw [if_neg h, if_neg (by omega)]
      case measure => simp [intOf]; omega
    · go_wp2
      go_ret2
      exact ⟨rfl, hb, hsz, hrow.congr (fun j hj => by rw [if_pos (by omega)])⟩
set_option maxHeartbeats 400000 in
theorem number_any (b off len cap : Nat) (f : Nat → Int) (w : World) (h1 : 1 ≤ len) (h8 : len ≤ 8) (hcell : ∀ i, i < len → w.cell? ⟨b, off + i, none⟩ = some (.int .u8 (f i))) (hf : ∀ i, 0 ≤ f i ∧ f i < 256) :
    Calls Tryz.prog 208 #[.slice (some ⟨b, off, none⟩) len cap] w fun e w' => e = .returned (.tuple #[.int .u64 (num f len), .int .i64 0]) ∧ w' = w := by
  go_enter Tryz.func208, Tryz.ntmps208
  go_wp2
  go_loop [4, 17] (fun v i => ∃ k : Nat, k ≤ len ∧ i = .int .i64 k ∧ v = .int .u64 (num f k)) (fun _ i => len - (intOf i).toNat)
  case atStart => exact ⟨0, Nat.zero_le _, rfl, rfl⟩
  case round =>
    obtain ⟨k, hk, rfl, rfl⟩ := hrel
    by_cases hlt : k < len
    · have hc := hcell k hlt
      go_wp2
      go_round
      case rel =>
        have hb := num_bd8 f hf k (by omega)
        have hfk := hf k
        refine ⟨k + 1, by omega, by go_num, ?_⟩
        rw [IntKind.wrap_u64, IntKind.wrap_u64, Int.emod_eq_of_lt (by omega) (by omega), Int.emod_eq_of_lt (by omega) (by omega), or_byte _ _ hb.1 hb.2 hfk.1 hfk.2]
        rfl
      case measure => simp [intOf]; omega
    · go_wp2
      go_ret2
      obtain rfl : k = len := by omega
      exact ⟨rfl, rfl⟩
set_option maxHeartbeats 400000 in
theorem rotate_any (x n k : Int) (w : World) (hk : bits .and .i64 n 31 = k) (hk0 : 0 ≤ k) (hk1 : k ≤ 31) :
    Calls Tryz.prog 262 #[.int .u32 x, .int .i64 n] w fun e w' => e = .returned (.int .u32 (rot x k)) ∧ w' = w.drew := by
  unfold rot
  go_enter Tryz.func262, Tryz.ntmps262
  go_wp2
  go_region
  all_goals
    go_wp2
    go_ret
    exact ⟨rfl, rfl⟩
set_option maxHeartbeats 400000 in
theorem refRotate0 (x n t : Int) (w : World) (ht : n.tmod 32 = t) (t0 : -31 ≤ t) (t1 : t ≤ 31) (hK : (t + 32) % 32 = 0) :
    Calls Tryz.prog 199 #[.int .u32 x, .int .i64 n] w fun e w' => e = .returned (.int .u32 x) ∧ w' = w := by
  go_enter Tryz.func199, Tryz.ntmps199
  go_wp2
  all_goals
    go_ret
    exact ⟨rfl, rfl⟩
set_option maxHeartbeats 400000 in
theorem refRotate1 (x n t K : Int) (w : World) (ht : n.tmod 32 = t) (t0 : -31 ≤ t) (t1 : t ≤ 31) (hK : (t + 32) % 32 = K) (k0 : 1 ≤ K) (_k1 : K ≤ 31) :
    Calls Tryz.prog 199 #[.int .u32 x, .int .i64 n] w fun e w' => e = .returned (.int .u32 ((x / 2 ^ K.toNat + x * 2 ^ (32 - K).toNat % 4294967296) % 4294967296)) ∧ w' = w := by
  go_enter Tryz.func199, Tryz.ntmps199
  go_wp2
  go_ret
  exact ⟨rfl, rfl⟩
set_option maxHeartbeats 400000 in
theorem refBytes_any (v : Int) (n : Nat) (w : World) (h1 : 1 ≤ n) (h8 : n ≤ 8) (hv : 0 ≤ v) (hv' : v ≤ 18446744073709551615) :
    Calls Tryz.prog 146 #[.int .u64 v, .int .i64 n] w fun e w' => e = .returned (.tuple #[.slice (some ⟨w.heap.size, 0, none⟩) n n, .int .i64 0]) ∧ Below w.heap.size w w' ∧ w'.heap.size = w.heap.size + 1 ∧ w'.rowIs w.heap.size 5 n (fun j => .int .u8 (v / 2 ^ (8 * (n - 1 - j)) % 256)) := by
  have hmk := run_make_row' (P := Tryz.prog) 36 5 (.int .u8 0) 1 Tryz.underlying36 Tryz.info5 rfl .i64 .i64 n (by omega) (by omega)
  go_enter Tryz.func146, Tryz.ntmps146
  go_wp2
  clear hmk
  go_loopw [0, 7] (fun u i wr => ∃ k : Nat, k ≤ n ∧ i = .int .i64 ((n : Int) - 1 - k) ∧ (∃ z : Int, u = .int .u64 z ∧ 0 ≤ z ∧ z ≤ 18446744073709551615 ∧ Hid (z = v / 2 ^ (8 * k))) ∧ Below w.heap.size w wr ∧ wr.heap.size = w.heap.size + 1 ∧ wr.rowIs w.heap.size 5 n (fun j => if n ≤ j + k then .int .u8 (v / 2 ^ (8 * (n - 1 - j)) % 256) else .int .u8 0)) (fun _ i _ => (intOf i + 1).toNat)
  case atStart =>
    refine ⟨0, Nat.zero_le _, by simp, ⟨v, rfl, hv, hv', by show v = _; simp⟩, (Below.refl _ _).alloc (Nat.le_refl _) _, by simp, (World.rowIs_made w _ n 5).congr (fun j hj => ?_)⟩
    rw [if_neg (by omega)]
  case round =>
    obtain ⟨k, hk, rfl, ⟨z, rfl, hz0, hz1, hz⟩, hb, hsz, hrow⟩ := hrel
    by_cases hlt : k < n
    · have hc := hrow.cell (i := n - 1 - k) (by omega)
      have hf := hrow.frozen (n - 1 - k)
      simp only [show ¬ n ≤ n - 1 - k + k by omega, if_false] at hc
      have HR := hrow.set (n - 1 - k) (.int .u8 (z % 256))
      go_wp2
      go_roundw
      case rel =>
        have hz' := hz.out
        refine ⟨k + 1, by omega, by congr 1; omega, ⟨z / 256, rfl, by omega, by omega, ?_⟩, hb.setCell (Nat.le_refl _) _, by simpa using hsz, HR.congr (fun j hj => ?_)⟩
        · show z / 256 = _
          rw [hz', Int.ediv_ediv_of_nonneg (Int.le_of_lt (two_pow_pos _)), show (256 : Int) = 2 ^ 8 by rfl, ← Int.pow_add]
          rfl
        by_cases e : j = n - 1 - k
        · rw [if_pos e, if_pos (by omega), e, show n - 1 - (n - 1 - k) = k by omega, hz']
        · rw [if_neg e]
          by_cases h : n ≤ j + k
          · rw [if_pos h, if_pos (by omega)]
          · rw [if_neg h, if_neg (by omega)]
      case measure => simp [intOf]; omega
    · go_wp2
      go_ret2
      exact ⟨rfl, hb, hsz, hrow.congr (fun j hj => by rw [if_pos (by omega)])⟩
set_option maxHeartbeats 400000 in
theorem refNumber_any (b off len cap : Nat) (f : Nat → Int) (w : World) (h1 : 1 ≤ len) (h8 : len ≤ 8) (hcell : ∀ i, i < len → w.cell? ⟨b, off + i, none⟩ = some (.int .u8 (f i))) (hf : ∀ i, 0 ≤ f i ∧ f i < 256) :
    Calls Tryz.prog 197 #[.slice (some ⟨b, off, none⟩) len cap] w fun e w' => e = .returned (.tuple #[.int .u64 (num f len), .int .i64 0]) ∧ w' = w := by
  go_enter Tryz.func197, Tryz.ntmps197
  go_wp2
  go_loop [4, 5] (fun v i => ∃ k : Nat, k ≤ len ∧ i = .int .i64 k ∧ v = .int .u64 (num f k)) (fun _ i => len - (intOf i).toNat)
  case atStart => exact ⟨0, Nat.zero_le _, rfl, rfl⟩
  case round =>
    obtain ⟨k, hk, rfl, rfl⟩ := hrel
    by_cases hlt : k < len
    · have hc := hcell k hlt
      go_wp2
      go_round
      case rel =>
        have hb := num_bd8 f hf k (by omega)
        have hfk := hf k
        refine ⟨k + 1, by omega, by go_num, ?_⟩
        simp only [num, IntKind.wrap_u64]
        congr 1
        omega
      case measure => simp [intOf]; omega
    · go_wp2
      go_ret2
      obtain rfl : k = len := by omega
      exact ⟨rfl, rfl⟩
theorem refRotate_any (x n : Int) (w : World) (h0 : 0 ≤ x) (h1 : x < 4294967296) :
    Calls Tryz.prog 199 #[.int .u32 x, .int .i64 n] w fun e w' => e = .returned (.int .u32 (rot x (n % 32))) ∧ w' = w := by
  have t0 : -31 ≤ n.tmod 32 ∧ n.tmod 32 ≤ 31 := by rw [tmod_eq_if]; split <;> omega
  have hK : (n.tmod 32 + 32) % 32 = n % 32 := by rw [tmod_eq_if]; split <;> omega
  by_cases h : n % 32 = 0
  · rw [h, rot_zero x h0 h1]
    exact refRotate0 x n _ w rfl t0.1 t0.2 (by rw [hK, h])
  · have e := refrot x (n % 32).toNat (by omega) h0 h1
    rw [show ((n % 32).toNat : Int) = n % 32 by omega] at e
    rw [← e, show ((n % 32).toNat) = (n % 32).toNat from rfl, show 32 - (n % 32).toNat = (32 - n % 32).toNat by omega]
    exact refRotate1 x n _ (n % 32) w rfl t0.1 t0.2 hK (by omega) (by omega)
end Go.Proofs.YtppgidmeeaodkaaGreatDoor.S2
