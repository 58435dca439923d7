/- The walk of the law BitsNumbers over the contracts of the program's calls and of the document's answers. -/
import Derived.Test.YtonaefebgpohjaaRefs
import Derived.Laws.BytesArg
namespace Go.Proofs.Ytonaefebgpohjaa
open Go.RowKit Math
theorem row_conv (w : World) (B n : Nat) (f : Nat → Int) (h : w.rowIs B 5 n (fun j => .int .u8 (f j))) :
    (convert 23 9 (.slice (some ⟨B, 0, none⟩) n n)).run Try.prog w = .ok (.string (strOfNums ((List.range n).map f))) w :=
  run_convert_bytes_arg (P := Try.prog) w 23 5 Try.underlying23 Try.underlying5 B 0 n n ((List.range n).map f) (by simp) (fun i hi => by
    rw [Nat.zero_add, h.cell hi]; simp [List.getD, hi]) 9 Try.underlying9
set_option maxHeartbeats 400000 in
theorem law_numbers (v k x y c : Int) (a2 : Option Addr) (len2 cap2 : Nat) (w : World) (hx : v % 4294967296 = x) (hx0 : 0 ≤ x) (hx1 : x < 4294967296) (hv0 : 0 ≤ v) (hv1 : v ≤ 18446744073709551615)
    (hk : bits .and .i64 k 31 = k % 32)
    (HN : ∀ wr, Below w.heap.size w wr → Calls Try.prog 13 #[.slice a2 len2 cap2] wr fun e w' => e = .returned (.tuple #[.int .u64 y, .int .i64 c]) ∧ w' = wr)
    (HR : ∀ wr, Below w.heap.size w wr → Calls Try.prog 14 #[.slice a2 len2 cap2] wr fun e w' => e = .returned (.tuple #[.int .u64 y, .int .i64 c]) ∧ w' = wr) :
    Calls Try.prog 3 #[.int .u64 v, .int .i64 k, .slice a2 len2 cap2] w fun e w' => e = .returned (.bool true) ∧ Below w.heap.size w w' := by
  have HN' : Hid _ := HN
  have HR' : Hid _ := HR
  clear HN HR
  go_enter Try.func3, Try.ntmps3
  go_wp2_with fail
  refine (rotate_any x k (k % 32) w hk (by omega) (by omega)).mono ?_
  rintro e w1 ⟨rfl, rfl⟩
  go_wp2_with fail
  refine (refRotate_any x k _ hx0 hx1).mono ?_
  rintro e w1 ⟨rfl, hw1⟩
  subst hw1
  go_wp2_with fail
  refine (names_any _).mono ?_
  rintro e w1 ⟨rfl, hw1⟩
  subst hw1
  clear hk hx
  go_wp2_with fail
  go_loopw [7] (fun i wr => ∃ n : Int, -1 ≤ n ∧ n ≤ 67 ∧ i = .int .i64 n ∧ Below w.heap.size w wr) (fun i _ => (67 - intOf i).toNat)
  case atStart => exact ⟨-1, by omega, by omega, rfl, (Below.refl _ _).drew⟩
  case round =>
    obtain ⟨n, hn1, hn9, rfl, hb⟩ := hrel
    by_cases hlt : n ≤ 66
    · clear HN' HR'
      have HC := run_convert_bytes_nil (P := Try.prog) wr 23 5 Try.underlying23 Try.underlying5 0 0 9 Try.underlying9
      by_cases h1 : n < 1 ∨ 64 < n
      · go_wp2_with fail
        refine (bytes_no v n wr (by omega)).mono ?_
        rintro e w1 ⟨rfl, hw1⟩
        subst hw1
        go_wp2_with fail
        refine (refBytes_no v n _ (by omega)).mono ?_
        rintro e w1 ⟨rfl, hw1⟩
        subst hw1
        go_wp2_with fail
        refine (narrow_no v n _ h1).mono ?_
        rintro e w1 ⟨rfl, hw1⟩
        subst hw1
        go_wp2_with fail
        refine (refNarrow_no v n _ h1).mono ?_
        rintro e w1 ⟨rfl, hw1⟩
        subst hw1
        go_wp2
        go_roundw
        case rel => exact ⟨n + 1, by omega, by omega, rfl, hb⟩
        case measure => simp [intOf]; omega
      · obtain ⟨m, rfl⟩ : ∃ m : Nat, n = m := ⟨n.toNat, by omega⟩
        have m1 : 1 ≤ m := by omega
        have m64 : m ≤ 64 := by omega
        clear h1
        by_cases h8 : m ≤ 8
        · clear HC
          go_wp2_with fail
          refine (bytes_any v m wr m1 h8).mono ?_
          rintro e w1 ⟨rfl, hb1, hs1, hr1⟩
          go_wp2_with fail
          refine (refBytes_any v m w1 m1 h8 hv0 hv1).mono ?_
          rintro e w2 ⟨rfl, hb2, hs2, hr2⟩
          have hr1' : w2.rowIs wr.heap.size 5 m _ := hr1.of_block (hb2.block _ (by omega))
          have C1 := row_conv w2 wr.heap.size m _ hr1'
          have C2 := row_conv w2 w1.heap.size m _ hr2
          have hbb : Below w.heap.size w w2 := (hb.trans (hb1.mono hb.size)).trans (hb2.mono (by have := hb.size; omega))
          clear hr1 hr2 hr1' hb1 hb2 hs1 hs2 hb
          go_wp2_with fail
          refine (narrow_any v m _ (by omega) (by omega)).mono ?_
          rintro e w3 ⟨rfl, hw1⟩
          subst hw1
          go_wp2_with fail
          refine (refNarrow_any v m _ m1 m64 hv0).mono ?_
          rintro e w3 ⟨rfl, hw1⟩
          subst hw1
          go_wp2
          go_roundw
          case rel => exact ⟨m + 1, by omega, by omega, rfl, hbb⟩
          case measure => simp [intOf]; omega
        · go_wp2_with fail
          refine (bytes_no v m wr (by omega)).mono ?_
          rintro e w1 ⟨rfl, hw1⟩
          subst hw1
          go_wp2_with fail
          refine (refBytes_no v m _ (by omega)).mono ?_
          rintro e w1 ⟨rfl, hw1⟩
          subst hw1
          go_wp2_with fail
          refine (narrow_any v m _ (by omega) (by omega)).mono ?_
          rintro e w3 ⟨rfl, hw1⟩
          subst hw1
          go_wp2_with fail
          refine (refNarrow_any v m _ m1 m64 hv0).mono ?_
          rintro e w3 ⟨rfl, hw1⟩
          subst hw1
          go_wp2
          go_roundw
          case rel => exact ⟨m + 1, by omega, by omega, rfl, hb⟩
          case measure => simp [intOf]; omega
    · go_wp2_with fail
      refine (HN'.out _ hb).mono ?_
      rintro e w1 ⟨rfl, hw1⟩
      subst hw1
      go_wp2_with fail
      refine (HR'.out _ hb).mono ?_
      rintro e w1 ⟨rfl, hw1⟩
      subst hw1
      go_wp2
      go_ret
      exact ⟨rfl, hb⟩
end Go.Proofs.Ytonaefebgpohjaa
