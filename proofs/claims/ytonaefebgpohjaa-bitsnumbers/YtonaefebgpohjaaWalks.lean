/- The walks of bits.Bytes, Number and Rotate: what each call answers, in any world. -/
import Derived.Test.YtonaefebgpohjaaRows
import Derived.Test.YtonaefebgpohjaaMath
import Derived.WalkKit
import Derived.WalkSpells
import Derived.WalkLawsBesides
import Derived.Deep.OwnRows
namespace Go.Proofs.Ytonaefebgpohjaa
open Go.RowKit Math
theorem Try.info5 : (Try.prog.info? 5).map (fun i => (i.zero, i.size, i.bytes)) = some (some (.int .u8 0), 1, 1) := by kernel_rfl
set_option maxHeartbeats 400000 in
theorem bytes_any (v : Int) (n : Nat) (w : World) (h1 : 1 ≤ n) (h8 : n ≤ 8) :
    Calls Try.prog 9 #[.int .u64 v, .int .i64 n] w fun e w' => e = .returned (.tuple #[.slice (some ⟨w.heap.size, 0, none⟩) n n, .int .i64 0]) ∧ Below w.heap.size w w' ∧ w'.heap.size = w.heap.size + 1 ∧ w'.rowIs w.heap.size 5 n (fun j => .int .u8 (v / 2 ^ (8 * (n - 1 - j)) % 256)) := by
  have hmk := run_make_row' (P := Try.prog) 23 5 (.int .u8 0) 1 Try.underlying23 Try.info5 rfl .i64 .i64 n (by omega) (by omega)
  go_enter Try.func9, Try.ntmps9
  go_wp2
  clear hmk
  go_loopw [17] (fun i wr => ∃ k : Nat, k ≤ n ∧ i = .int .i64 k ∧ Below w.heap.size w wr ∧ wr.heap.size = w.heap.size + 1 ∧ wr.rowIs w.heap.size 5 n (fun j => if n ≤ j + k then .int .u8 (v / 2 ^ (8 * (n - 1 - j)) % 256) else .int .u8 0)) (fun i _ => n - (intOf i).toNat)
  case atStart =>
    refine ⟨0, Nat.zero_le _, rfl, (Below.refl _ _).alloc (Nat.le_refl _) _, by simp, (World.rowIs_made w _ n 5).congr (fun j hj => ?_)⟩
    rw [if_neg (by omega)]
  case round =>
    obtain ⟨k, hk, rfl, hb, hsz, hrow⟩ := hrel
    by_cases hlt : k < n
    · have hc := hrow.cell (i := n - 1 - k) (by omega)
      have hf := hrow.frozen (n - 1 - k)
      simp only [show ¬ n ≤ n - 1 - k + k by omega, if_false] at hc
      have HR := hrow.set (n - 1 - k) (.int .u8 (v / 2 ^ (8 * k) % 256))
      go_wp2
      go_roundw
      case rel =>
        refine ⟨k + 1, by omega, by go_num, hb.setCell (Nat.le_refl _) _, by simpa using hsz, HR.congr (fun j hj => ?_)⟩
        by_cases e : j = n - 1 - k
        · rw [if_pos e, if_pos (by omega), e, show n - 1 - (n - 1 - k) = k by omega]
        · rw [if_neg e]
          by_cases h : n ≤ j + k
          · rw [if_pos h, if_pos (by omega)]
          · rw [if_neg h, if_neg (by omega)]
      case measure => simp [intOf]; omega
    · go_wp2
      go_ret2
      exact ⟨rfl, hb, hsz, hrow.congr (fun j hj => by rw [if_pos (by omega)])⟩
set_option maxHeartbeats 400000 in
theorem number_any (b off len cap : Nat) (f : Nat → Int) (w : World) (h1 : 1 ≤ len) (h8 : len ≤ 8) (hcell : ∀ i, i < len → w.cell? ⟨b, off + i, none⟩ = some (.int .u8 (f i))) (hf : ∀ i, 0 ≤ f i ∧ f i < 256) :
    Calls Try.prog 13 #[.slice (some ⟨b, off, none⟩) len cap] w fun e w' => e = .returned (.tuple #[.int .u64 (num f len), .int .i64 0]) ∧ w' = w := by
  go_enter Try.func13, Try.ntmps13
  go_wp2
  go_loop [4, 17] (fun v i => ∃ k : Nat, k ≤ len ∧ i = .int .i64 k ∧ v = .int .u64 (num f k)) (fun _ i => len - (intOf i).toNat)
  case atStart => exact ⟨0, Nat.zero_le _, rfl, rfl⟩
  case round =>
    obtain ⟨k, hk, rfl, rfl⟩ := hrel
    by_cases hlt : k < len
    · have hc := hcell k hlt
      go_wp2
      go_round
      case rel =>
        have hb := num_bd8 f hf k (by omega)
        have hfk := hf k
        refine ⟨k + 1, by omega, by go_num, ?_⟩
        rw [IntKind.wrap_u64, IntKind.wrap_u64, Int.emod_eq_of_lt (by omega) (by omega), Int.emod_eq_of_lt (by omega) (by omega), or_byte _ _ hb.1 hb.2 hfk.1 hfk.2]
        rfl
      case measure => simp [intOf]; omega
    · go_wp2
      go_ret2
      obtain rfl : k = len := by omega
      exact ⟨rfl, rfl⟩
set_option maxHeartbeats 400000 in
theorem rotate_any (x n k : Int) (w : World) (hk : bits .and .i64 n 31 = k) (hk0 : 0 ≤ k) (hk1 : k ≤ 31) :
    Calls Try.prog 6 #[.int .u32 x, .int .i64 n] w fun e w' => e = .returned (.int .u32 (rot x k)) ∧ w' = w.drew := by
  unfold rot
  go_enter Try.func6, Try.ntmps6
  go_wp2
  go_region
  all_goals
    go_wp2
    go_ret
    exact ⟨rfl, rfl⟩
end Go.Proofs.Ytonaefebgpohjaa
