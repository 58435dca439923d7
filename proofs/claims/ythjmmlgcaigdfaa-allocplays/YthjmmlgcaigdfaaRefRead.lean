/- The walk of the document's Read. -/
import Derived.Test.YthjmmlgcaigdfaaRefBytes
namespace Go.Proofs.Ythjmmlgcaigdfaa
open Go.RowKit
variable {w : World} {gr gi n : Nat} {S : Nat → Bool}

theorem rread_bad (n : Int) (a : Option Addr) (len cap : Nat) (w : World) (h : n < 1 ∨ 2048 < n) : Calls Try.prog 23 #[.slice a len cap, .int .i64 n] w fun e w' => e = .returned (.tuple #[.pointer none, .int .i64 2]) ∧ w' = w := by
  have H := rnew_bad n w h
  clear h
  go_enter Try.func23, Try.ntmps23
  go_wp2_with fail
  refine H.mono ?_
  rintro e w' ⟨rfl, rfl⟩
  go_wp2
  go_ret2
  exact ⟨rfl, rfl⟩
theorem rread_len (n : Nat) (a : Option Addr) (len cap : Nat) (w : World) (h0 : 1 ≤ n) (h1 : n ≤ 2048) (hl : len ≠ 256) : Calls Try.prog 23 #[.slice a len cap, .int .i64 n] w fun e w' => e = .returned (.tuple #[.pointer none, .int .i64 2]) ∧ Below w.heap.size w w' := by
  have H := rnew_ok n w h0 h1
  have hl' : ¬ (len : Int) = 256 := by omega
  clear h0 h1
  go_enter Try.func23, Try.ntmps23
  go_wp2_with fail
  refine H.mono ?_
  rintro e w' ⟨gr, gi, rfl, _, hb, _⟩
  go_wp2
  go_ret2
  exact ⟨rfl, hb⟩

set_option maxRecDepth 20000 in
set_option maxHeartbeats 2000000 in
theorem rread_ok (n : Nat) (b off cap : Nat) (f : Nat → Int) (w : World) (h0 : 1 ≤ n) (h1 : n ≤ 2048) (hB : Bs w (some ⟨b, off, none⟩) b off 256 f) :
    Calls Try.prog 23 #[.slice (some ⟨b, off, none⟩) 256 cap, .int .i64 n] w fun e w' => Below w.heap.size w w' ∧
      ((beyond (bitsOf f) n (2048 - n) = true ∧ e = .returned (.tuple #[.pointer none, .int .i64 10])) ∨
       (beyond (bitsOf f) n (2048 - n) = false ∧ ∃ gr gi, e = .returned (.tuple #[.pointer (some ⟨gr, 0, none⟩), .int .i64 0]) ∧ RAt w' gr gi n (bitsOf f))) := by
  have H := rnew_ok n w h0 h1
  have HB : Hid _ := hB
  clear hB
  go_enter Try.func23, Try.ntmps23
  go_wp2_with fail
  refine H.mono ?_
  rintro e w1 ⟨gr, gi, rfl, hR, hb, hgr, hgi⟩
  clear H
  have HR : Hid _ := hR
  clear hR
  go_wp2
  go_loopw [8] (fun i wr => ∃ j : Nat, j ≤ 2048 ∧ i = .int .i64 j ∧ RAt wr gr gi n (cut (bitsOf f) j) ∧ beyond (bitsOf f) n (j - n) = false ∧ Below w.heap.size w wr) (fun i _ => 2048 - (intOf i).toNat)
  case atStart => exact ⟨0, by omega, rfl, by rw [show cut (bitsOf f) 0 = none' from funext fun j => by simp [cut, none']]; exact HR.out, by rw [Nat.zero_sub]; rfl, hb⟩
  case round =>
    obtain ⟨j, hj, rfl, hA, hbn, hbw⟩ := hrel
    clear HR hb
    by_cases hjk : j < 2048
    · have hjn : (j : Int) < 2048 := by omega
      have hv := (HB.out.belowAll hbw).cell (j / 8) (by omega)
      have hfb := HB.out.bd (j / 8)
      have hq : (j : Int).tdiv 8 = ((j / 8 : Nat) : Int) := rfl
      have hbit : bitsOf f j = decide ((f (j / 8)).toNat / 2 ^ (j % 8) % 2 = 1) := by simp [bitsOf, hjk]
      have HBN : Hid _ := hbn
      clear hbn
      have hm : j / 8 < 256 := by omega
      generalize f (j / 8) = v at *
      generalize j / 8 = q at *
      have hwr : IntKind.i64.wrap (q : Int) = q := by rw [IntKind.wrap_i64]; omega
      have hm' : (q : Int) < 256 := by omega
      have hx : (v / 2 ^ (j % 8)).tmod 2 = ((v.toNat / 2 ^ (j % 8) % 2 : Nat) : Int) := by
        have e : v = (v.toNat : Int) := by omega
        rw [Int.tmod_eq_emod_of_nonneg (Int.ediv_nonneg hfb.1 (Int.le_of_lt (two_pow_pos _))), Int.natCast_emod, Int.natCast_ediv, Int.natCast_pow, ← e]
        rfl
      cases hS : bitsOf f j with
      | true =>
        rw [hS] at hbit
        have hbit' : v.toNat / 2 ^ (j % 8) % 2 = 1 := of_decide_eq_true hbit.symm
        rw [hbit'] at hx
        have hx1 : (v / 2 ^ (j % 8)).tmod 2 = 1 := hx
        clear hbit hbit' hx
        by_cases hjn2 : n ≤ j
        · go_wp2
          go_ret2
          exact ⟨hbw, .inl ⟨beyond_yes _ _ _ (j - n) (by omega) (by rw [show n + (j - n) = j by omega]; exact hS), rfl⟩⟩
        · have hc := hA.sl
          have hcb := hA.at j (by omega)
          have hfz := hA.bits.frozen j
          have hjn3 : (j : Int) < n := by omega
          have hA2 := hA.upd j true
          rw [upd_fl _ j true (by simp [cut]), ← cut_in _ j hS] at hA2
          have HA2 : Hid _ := hA2
          have hb2 : Below w.heap.size w (wr.setCell ⟨gi, j, none⟩ (.bool true)) := hbw.setCell (p := ⟨gi, j, none⟩) hgi _
          have HB2 : Hid _ := hb2
          clear hA2 hb2
          go_wp2
          go_roundw
          case rel => exact ⟨j + 1, by omega, by go_num, HA2.out, by rw [show j + 1 - n = 0 by omega]; rfl, HB2.out⟩
          case measure => simp [intOf]; omega
      | false =>
        rw [hS] at hbit
        have hbit' : ¬ v.toNat / 2 ^ (j % 8) % 2 = 1 := of_decide_eq_false hbit.symm
        have hx1 : (v / 2 ^ (j % 8)).tmod 2 = 0 := by rw [hx]; omega
        clear hbit hbit' hx
        go_wp2
        go_roundw
        case rel =>
          refine ⟨j + 1, by omega, by go_num, by rw [cut_out _ j hS]; exact hA, ?_, hbw⟩
          by_cases h : n ≤ j
          · rw [show j + 1 - n = (j - n) + 1 by omega, beyond, HBN.out, show n + (j - n) = j by omega, hS]; rfl
          · rw [show j + 1 - n = 0 by omega]; rfl
        case measure => simp [intOf]; omega
    · have hjn : ¬ (j : Int) < 2048 := by omega
      obtain rfl : j = 2048 := by omega
      have HBN : Hid _ := hbn
      clear hbn
      go_wp2
      go_ret2
      refine ⟨hbw, .inr ⟨HBN.out, gr, rfl, gi, ?_⟩⟩
      rw [cut_all (bitsOf f) 2048 (fun k hk => by unfold bitsOf; rw [decide_eq_false (by omega)]; rfl)] at hA
      exact hA
end Go.Proofs.Ythjmmlgcaigdfaa
