/- The walks of the document's own answers (Rotate, Bytes, Narrow, Number), and of all calls that answer ErrArg. -/
import Derived.Test.YtonaefebgpohjaaWalks
import Derived.Test.YtonaefebgpohjaaNarrow
namespace Go.Proofs.Ytonaefebgpohjaa
open Go.RowKit Math
set_option maxHeartbeats 400000 in
theorem refRotate0 (x n t : Int) (w : World) (ht : n.tmod 32 = t) (t0 : -31 ≤ t) (t1 : t ≤ 31) (hK : (t + 32) % 32 = 0) :
    Calls Try.prog 7 #[.int .u32 x, .int .i64 n] w fun e w' => e = .returned (.int .u32 x) ∧ w' = w := by
  go_enter Try.func7, Try.ntmps7
  go_wp2
  all_goals
    go_ret
    exact ⟨rfl, rfl⟩
set_option maxHeartbeats 400000 in
theorem refRotate1 (x n t K : Int) (w : World) (ht : n.tmod 32 = t) (t0 : -31 ≤ t) (t1 : t ≤ 31) (hK : (t + 32) % 32 = K) (k0 : 1 ≤ K) (_k1 : K ≤ 31) :
    Calls Try.prog 7 #[.int .u32 x, .int .i64 n] w fun e w' => e = .returned (.int .u32 ((x / 2 ^ K.toNat + x * 2 ^ (32 - K).toNat % 4294967296) % 4294967296)) ∧ w' = w := by
  go_enter Try.func7, Try.ntmps7
  go_wp2
  go_ret
  exact ⟨rfl, rfl⟩
theorem names_any (w : World) : Calls Try.prog 8 #[] w fun e w' => e = .returned (.bool true) ∧ w' = w := by
  go_enter Try.func8, Try.ntmps8
  go_wp2
  go_ret
  exact ⟨rfl, rfl⟩
set_option maxHeartbeats 400000 in
theorem refBytes_any (v : Int) (n : Nat) (w : World) (h1 : 1 ≤ n) (h8 : n ≤ 8) (hv : 0 ≤ v) (hv' : v ≤ 18446744073709551615) :
    Calls Try.prog 10 #[.int .u64 v, .int .i64 n] w fun e w' => e = .returned (.tuple #[.slice (some ⟨w.heap.size, 0, none⟩) n n, .int .i64 0]) ∧ Below w.heap.size w w' ∧ w'.heap.size = w.heap.size + 1 ∧ w'.rowIs w.heap.size 5 n (fun j => .int .u8 (v / 2 ^ (8 * (n - 1 - j)) % 256)) := by
  have hmk := run_make_row' (P := Try.prog) 23 5 (.int .u8 0) 1 Try.underlying23 Try.info5 rfl .i64 .i64 n (by omega) (by omega)
  go_enter Try.func10, Try.ntmps10
  go_wp2
  clear hmk
  go_loopw [0, 7] (fun u i wr => ∃ k : Nat, k ≤ n ∧ i = .int .i64 ((n : Int) - 1 - k) ∧ (∃ z : Int, u = .int .u64 z ∧ 0 ≤ z ∧ z ≤ 18446744073709551615 ∧ Hid (z = v / 2 ^ (8 * k))) ∧ Below w.heap.size w wr ∧ wr.heap.size = w.heap.size + 1 ∧ wr.rowIs w.heap.size 5 n (fun j => if n ≤ j + k then .int .u8 (v / 2 ^ (8 * (n - 1 - j)) % 256) else .int .u8 0)) (fun _ i _ => (intOf i + 1).toNat)
  case atStart =>
    refine ⟨0, Nat.zero_le _, by simp, ⟨v, rfl, hv, hv', by show v = _; simp⟩, (Below.refl _ _).alloc (Nat.le_refl _) _, by simp, (World.rowIs_made w _ n 5).congr (fun j hj => ?_)⟩
    rw [if_neg (by omega)]
  case round =>
    obtain ⟨k, hk, rfl, ⟨z, rfl, hz0, hz1, hz⟩, hb, hsz, hrow⟩ := hrel
    by_cases hlt : k < n
    · have hc := hrow.cell (i := n - 1 - k) (by omega)
      have hf := hrow.frozen (n - 1 - k)
      simp only [show ¬ n ≤ n - 1 - k + k by omega, if_false] at hc
      have HR := hrow.set (n - 1 - k) (.int .u8 (z % 256))
      go_wp2
      go_roundw
      case rel =>
        have hz' := hz.out
        refine ⟨k + 1, by omega, by congr 1; omega, ⟨z / 256, rfl, by omega, by omega, ?_⟩, hb.setCell (Nat.le_refl _) _, by simpa using hsz, HR.congr (fun j hj => ?_)⟩
        · show z / 256 = _
          rw [hz', Int.ediv_ediv_of_nonneg (Int.le_of_lt (two_pow_pos _)), show (256 : Int) = 2 ^ 8 by rfl, ← Int.pow_add]
          rfl
        by_cases e : j = n - 1 - k
        · rw [if_pos e, if_pos (by omega), e, show n - 1 - (n - 1 - k) = k by omega, hz']
        · rw [if_neg e]
          by_cases h : n ≤ j + k
          · rw [if_pos h, if_pos (by omega)]
          · rw [if_neg h, if_neg (by omega)]
      case measure => simp [intOf]; omega
    · go_wp2
      go_ret2
      exact ⟨rfl, hb, hsz, hrow.congr (fun j hj => by rw [if_pos (by omega)])⟩
set_option maxHeartbeats 400000 in
theorem refNarrow64 (v : Int) (w : World) :
    Calls Try.prog 12 #[.int .u64 v, .int .i64 64] w fun e w' => e = .returned (.tuple #[.int .i64 (wrap64 v), .int .i64 0]) ∧ w' = w := by
  go_enter Try.func12, Try.ntmps12
  go_wp2
  go_ret2
  exact ⟨rfl, rfl⟩
set_option maxHeartbeats 400000 in
theorem refNarrow_hi (v M H u : Int) (n : Nat) (w : World) (h1 : 1 ≤ n) (h2 : n ≤ 63) (hM : IntKind.u64.wrap (2 ^ n) = M) (hH : IntKind.u64.wrap (2 ^ (n - 1)) = H) (hH' : wrap64 (2 ^ (n - 1)) = H)
    (hu : v.tmod M = u) (b1 : 1 ≤ H) (b2 : H ≤ 4611686018427387904) (b3 : 1 ≤ M) (b4 : M ≤ 9223372036854775808) (u1 : H ≤ u) (u2 : u < M) :
    Calls Try.prog 12 #[.int .u64 v, .int .i64 n] w fun e w' => e = .returned (.tuple #[.int .i64 (u - H - H), .int .i64 0]) ∧ w' = w := by
  go_enter Try.func12, Try.ntmps12
  go_wp2
  go_ret2
  exact ⟨rfl, rfl⟩
set_option maxHeartbeats 400000 in
theorem refNarrow_lo (v M H u : Int) (n : Nat) (w : World) (h1 : 1 ≤ n) (h2 : n ≤ 63) (hM : IntKind.u64.wrap (2 ^ n) = M) (hH : IntKind.u64.wrap (2 ^ (n - 1)) = H)
    (hu : v.tmod M = u) (b2 : H ≤ 4611686018427387904) (b3 : 1 ≤ M) (u1 : u < H) (u2 : 0 ≤ u) :
    Calls Try.prog 12 #[.int .u64 v, .int .i64 n] w fun e w' => e = .returned (.tuple #[.int .i64 u, .int .i64 0]) ∧ w' = w := by
  go_enter Try.func12, Try.ntmps12
  go_wp2
  go_ret2
  exact ⟨rfl, rfl⟩
set_option maxHeartbeats 400000 in
theorem refNumber_any (b off len cap : Nat) (f : Nat → Int) (w : World) (h1 : 1 ≤ len) (h8 : len ≤ 8) (hcell : ∀ i, i < len → w.cell? ⟨b, off + i, none⟩ = some (.int .u8 (f i))) (hf : ∀ i, 0 ≤ f i ∧ f i < 256) :
    Calls Try.prog 14 #[.slice (some ⟨b, off, none⟩) len cap] w fun e w' => e = .returned (.tuple #[.int .u64 (num f len), .int .i64 0]) ∧ w' = w := by
  go_enter Try.func14, Try.ntmps14
  go_wp2
  go_loop [4, 5] (fun v i => ∃ k : Nat, k ≤ len ∧ i = .int .i64 k ∧ v = .int .u64 (num f k)) (fun _ i => len - (intOf i).toNat)
  case atStart => exact ⟨0, Nat.zero_le _, rfl, rfl⟩
  case round =>
    obtain ⟨k, hk, rfl, rfl⟩ := hrel
    by_cases hlt : k < len
    · have hc := hcell k hlt
      go_wp2
      go_round
      case rel =>
        have hb := num_bd8 f hf k (by omega)
        have hfk := hf k
        refine ⟨k + 1, by omega, by go_num, ?_⟩
        simp only [num, IntKind.wrap_u64]
        congr 1
        omega
      case measure => simp [intOf]; omega
    · go_wp2
      go_ret2
      obtain rfl : k = len := by omega
      exact ⟨rfl, rfl⟩
/-! The calls whose count or length is out of range: each answers ErrArg. -/
set_option maxHeartbeats 400000 in
theorem bytes_no (v n : Int) (w : World) (h : n < 1 ∨ 8 < n) :
    Calls Try.prog 9 #[.int .u64 v, .int .i64 n] w fun e w' => e = .returned (.tuple #[.slice none 0 0, .int .i64 2]) ∧ w' = w := by
  rcases h with h | h
  · go_enter Try.func9, Try.ntmps9
    go_wp2
    go_ret2
    exact ⟨rfl, rfl⟩
  · have h' : ¬ n < 1 := by omega
    go_enter Try.func9, Try.ntmps9
    go_wp2
    go_ret2
    exact ⟨rfl, rfl⟩
set_option maxHeartbeats 400000 in
theorem refBytes_no (v n : Int) (w : World) (h : n < 1 ∨ 8 < n) :
    Calls Try.prog 10 #[.int .u64 v, .int .i64 n] w fun e w' => e = .returned (.tuple #[.slice none 0 0, .int .i64 2]) ∧ w' = w := by
  rcases h with h | h
  · go_enter Try.func10, Try.ntmps10
    go_wp2
    go_ret2
    exact ⟨rfl, rfl⟩
  · have h' : ¬ n < 1 := by omega
    go_enter Try.func10, Try.ntmps10
    go_wp2
    go_ret2
    exact ⟨rfl, rfl⟩
set_option maxHeartbeats 400000 in
theorem narrow_no (v n : Int) (w : World) (h : n < 1 ∨ 64 < n) :
    Calls Try.prog 11 #[.int .u64 v, .int .i64 n] w fun e w' => e = .returned (.tuple #[.int .i64 0, .int .i64 2]) ∧ w' = w := by
  rcases h with h | h
  · go_enter Try.func11, Try.ntmps11
    go_wp2
    go_ret2
    exact ⟨rfl, rfl⟩
  · have h' : ¬ n < 1 := by omega
    go_enter Try.func11, Try.ntmps11
    go_wp2
    go_ret2
    exact ⟨rfl, rfl⟩
set_option maxHeartbeats 400000 in
theorem refNarrow_no (v n : Int) (w : World) (h : n < 1 ∨ 64 < n) :
    Calls Try.prog 12 #[.int .u64 v, .int .i64 n] w fun e w' => e = .returned (.tuple #[.int .i64 0, .int .i64 2]) ∧ w' = w := by
  rcases h with h | h
  · go_enter Try.func12, Try.ntmps12
    go_wp2
    go_ret2
    exact ⟨rfl, rfl⟩
  · have h' : ¬ n < 1 := by omega
    go_enter Try.func12, Try.ntmps12
    go_wp2
    go_ret2
    exact ⟨rfl, rfl⟩
set_option maxHeartbeats 400000 in
theorem number_no (a : Option Addr) (len cap : Nat) (w : World) (h : len = 0 ∨ 8 < len) :
    Calls Try.prog 13 #[.slice a len cap] w fun e w' => e = .returned (.tuple #[.int .u64 0, .int .i64 2]) ∧ w' = w := by
  rcases h with h | h
  · subst h
    go_enter Try.func13, Try.ntmps13
    go_wp2
    go_ret2
    exact ⟨rfl, rfl⟩
  · go_enter Try.func13, Try.ntmps13
    go_wp2
    go_ret2
    exact ⟨rfl, rfl⟩
set_option maxHeartbeats 400000 in
theorem refNumber_no (a : Option Addr) (len cap : Nat) (w : World) (h : len = 0 ∨ 8 < len) :
    Calls Try.prog 14 #[.slice a len cap] w fun e w' => e = .returned (.tuple #[.int .u64 0, .int .i64 2]) ∧ w' = w := by
  rcases h with h | h
  · subst h
    go_enter Try.func14, Try.ntmps14
    go_wp2
    go_ret2
    exact ⟨rfl, rfl⟩
  · go_enter Try.func14, Try.ntmps14
    go_wp2
    go_ret2
    exact ⟨rfl, rfl⟩
/-! The same two answers, in the program's own words. -/
theorem refRotate_any (x n : Int) (w : World) (h0 : 0 ≤ x) (h1 : x < 4294967296) :
    Calls Try.prog 7 #[.int .u32 x, .int .i64 n] w fun e w' => e = .returned (.int .u32 (rot x (n % 32))) ∧ w' = w := by
  have t0 : -31 ≤ n.tmod 32 ∧ n.tmod 32 ≤ 31 := by rw [tmod_eq_if]; split <;> omega
  have hK : (n.tmod 32 + 32) % 32 = n % 32 := by rw [tmod_eq_if]; split <;> omega
  by_cases h : n % 32 = 0
  · rw [h, rot_zero x h0 h1]
    exact refRotate0 x n _ w rfl t0.1 t0.2 (by rw [hK, h])
  · have e := refrot x (n % 32).toNat (by omega) h0 h1
    rw [show ((n % 32).toNat : Int) = n % 32 by omega] at e
    rw [← e, show ((n % 32).toNat) = (n % 32).toNat from rfl, show 32 - (n % 32).toNat = (32 - n % 32).toNat by omega]
    exact refRotate1 x n _ (n % 32) w rfl t0.1 t0.2 hK (by omega) (by omega)
theorem refNarrow_any (v : Int) (n : Nat) (w : World) (h1 : 1 ≤ n) (h2 : n ≤ 64) (h0 : 0 ≤ v) :
    Calls Try.prog 12 #[.int .u64 v, .int .i64 n] w fun e w' => e = .returned (.tuple #[.int .i64 (nar v n), .int .i64 0]) ∧ w' = w := by
  rw [nar_eq v n h1 h2]
  by_cases h : n = 64
  · subst h
    have e : (v + 2 ^ (64 - 1)) % 2 ^ 64 - 2 ^ (64 - 1) = wrap64 v := by unfold wrap64; rfl
    rw [e]
    exact refNarrow64 v w
  · have hH := two_pow_pos (n - 1)
    have hb : (2 : Int) ^ (n - 1) ≤ 4611686018427387904 := by
      have := Nat.pow_le_pow_right (n := 2) (by decide) (show n - 1 ≤ 62 by omega)
      have e : ((2 ^ (n - 1) : Nat) : Int) = (2 : Int) ^ (n - 1) := by rw [Int.natCast_pow]; rfl
      omega
    have hM := pow_half n h1
    have w1 : IntKind.u64.wrap (2 ^ n) = 2 ^ n := by rw [IntKind.wrap_u64]; omega
    have w2 : IntKind.u64.wrap (2 ^ (n - 1)) = 2 ^ (n - 1) := by rw [IntKind.wrap_u64]; omega
    have w3 : wrap64 (2 ^ (n - 1)) = 2 ^ (n - 1) := by unfold wrap64; omega
    have u0 := Int.emod_nonneg v (b := 2 ^ n) (by omega)
    have u1 := Int.emod_lt_of_pos v (b := 2 ^ n) (by omega)
    have ht : v.tmod (2 ^ n) = v % 2 ^ n := Int.tmod_eq_emod_of_nonneg h0
    have hs : (v + 2 ^ (n - 1)) % 2 ^ n = (v % 2 ^ n + 2 ^ (n - 1)) % 2 ^ n := by rw [Int.emod_add_emod]
    rw [hs]
    by_cases hc : 2 ^ (n - 1) ≤ v % 2 ^ n
    · have e : (v % 2 ^ n + 2 ^ (n - 1)) % 2 ^ n - 2 ^ (n - 1) = v % 2 ^ n - 2 ^ (n - 1) - 2 ^ (n - 1) := by
        generalize v % 2 ^ n = u at *
        rw [hM]
        exact half_up _ _ hc (by omega)
      rw [e]
      exact refNarrow_hi v (2 ^ n) (2 ^ (n - 1)) (v % 2 ^ n) n w h1 (by omega) w1 w2 w3 ht (by omega) hb (by omega) (by omega) hc u1
    · have e : (v % 2 ^ n + 2 ^ (n - 1)) % 2 ^ n - 2 ^ (n - 1) = v % 2 ^ n := by
        rw [Int.emod_eq_of_lt (by omega) (by omega)]; omega
      rw [e]
      exact refNarrow_lo v (2 ^ n) (2 ^ (n - 1)) (v % 2 ^ n) n w h1 (by omega) w1 w2 ht hb (by omega) (by omega) u0
end Go.Proofs.Ytonaefebgpohjaa
