/- The walk of the law BitsTurns over the contracts of Bytes, Number and Rotate. -/
import Derived.Test.YtonaefebgpohjaaWalks
namespace Go.Proofs.Ytonaefebgpohjaa
open Go.RowKit Math
theorem bytes_bd (v : Int) (n i : Nat) : 0 ≤ v / 2 ^ (8 * (n - 1 - i)) % 256 ∧ v / 2 ^ (8 * (n - 1 - i)) % 256 < 256 := by omega
set_option maxHeartbeats 400000 in
theorem law_turns (v a kk k1 k2 x : Int) (w : World) (hx : v % 4294967296 = x) (hkk : bits .and .i64 a 65535 = kk) (hkk0 : 0 ≤ kk) (hkk1 : kk ≤ 65535)
    (hk1 : bits .and .i64 kk 31 = k1) (b1 : 0 ≤ k1) (b1' : k1 ≤ 31) (hk2 : bits .and .i64 (-kk) 31 = k2) (b2 : 0 ≤ k2) (b2' : k2 ≤ 31)
    (h32 : bits .and .i64 32 31 = 0) (e1 : rot (rot x k1) k2 = x) (e2 : rot x 0 = x) :
    Calls Try.prog 4 #[.int .u64 v, .int .i64 a] w fun e w' => e = .returned (.bool true) ∧ Below w.heap.size w w' := by
  go_enter Try.func4, Try.ntmps4
  go_wp2
  go_loopw [6] (fun i wr => ∃ n : Nat, 1 ≤ n ∧ n ≤ 9 ∧ i = .int .i64 n ∧ Below w.heap.size w wr) (fun i _ => 9 - (intOf i).toNat)
  case atStart => exact ⟨1, by omega, by omega, rfl, Below.refl _ _⟩
  case round =>
    obtain ⟨n, hn1, hn9, rfl, hb⟩ := hrel
    by_cases hlt : n ≤ 8
    · clear hx hkk hk1 hk2 h32 e1 e2
      go_wp2_with fail
      refine (bytes_any v n wr hn1 hlt).mono ?_
      rintro e w1 ⟨rfl, hb1, hs1, hr1⟩
      have hnum := num_bytes v n
      have hsh := shift_back v (8 * n) (by omega)
      generalize v % 2 ^ (8 * n) = X at hnum hsh
      have hcell : ∀ i, i < n → w1.cell? ⟨wr.heap.size, 0 + i, none⟩ = some (.int .u8 (v / 2 ^ (8 * (n - 1 - i)) % 256)) := fun i hi => by
        rw [Nat.zero_add]; exact hr1.cell hi
      have HN := number_any wr.heap.size 0 n n (fun j => v / 2 ^ (8 * (n - 1 - j)) % 256) w1 hn1 hlt hcell (bytes_bd v n)
      rw [hnum] at HN
      have hbb : Below w.heap.size w w1 := hb.trans (hb1.mono hb.size)
      clear hnum hcell hr1 hb1 hb
      go_wp2_with fail
      refine HN.mono ?_
      rintro e w2 ⟨rfl, rfl⟩
      clear HN
      go_wp2_with fail
      go_roundw
      case rel => exact ⟨n + 1, by omega, by omega, by go_num, hbb⟩
      case measure => simp [intOf]; omega
    · go_wp2_with fail
      refine (rotate_any x kk k1 wr hk1 b1 b1').mono ?_
      rintro e w1 ⟨rfl, rfl⟩
      go_wp2_with fail
      refine (rotate_any _ _ k2 _ hk2 b2 b2').mono ?_
      rintro e w1 ⟨rfl, rfl⟩
      go_wp2_with fail
      refine (rotate_any _ _ 0 _ h32 (by decide) (by decide)).mono ?_
      rintro e w1 ⟨rfl, rfl⟩
      go_wp2
      go_ret
      exact ⟨rfl, hb.drew.drew.drew⟩
end Go.Proofs.Ytonaefebgpohjaa
