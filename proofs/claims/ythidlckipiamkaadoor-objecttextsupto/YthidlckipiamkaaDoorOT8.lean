/- My own work: what the program's Read calls: TrimSuffix of a line's end, Cut at a blank, the three closures. -/
import Derived.Test.YthidlckipiamkaaDoorOT7
import Derived.Test.YthidlckipiamkaaDoorPLib
import Derived.Lib.IndexLaws
namespace Go.Proofs.YthidlckipiamkaaDoor
open Go.RowKit
open S2 (bl bl_len bl_inj splitB splitV Tab NTab arr)

/-- A line without its end. -/
def trimE (s : ByteArray) : ByteArray := if decide (1 ≤ s.size) && ((s.extract (s.size - 1) s.size).toList == [10]) then s.extract 0 (s.size - 1) else s
/-- Where a byte stands, or nowhere. -/
theorem index_cases (l : List UInt8) (c : UInt8) : Lib.indexByte l c = -1 ∨ ∃ n : Nat, Lib.indexByte l c = (n : Int) ∧ n < l.length := by
  have h := Lib.indexByte_ge l c
  by_cases h0 : Lib.indexByte l c = -1
  · exact .inl h0
  · obtain ⟨n, hn⟩ : ∃ n : Nat, Lib.indexByte l c = (n : Int) := ⟨(Lib.indexByte l c).toNat, by omega⟩
    refine .inr ⟨n, hn, ?_⟩
    have h1 := (Lib.indexByte_some hn).1
    exact (List.getElem?_eq_some_iff.1 h1).1
/-- What Cut at a blank tells. -/
def cutV2 (s : ByteArray) : ByteArray × ByteArray := if Lib.indexByte (bl s) 32 = -1 then (s, ⟨#[]⟩) else (s.extract 0 (Lib.indexByte (bl s) 32).toNat, s.extract ((Lib.indexByte (bl s) 32).toNat + 1) s.size)
set_option maxHeartbeats 2000000 in
theorem hasSuffix_in (s : ByteArray) (w : World) (hs : s.size ≤ 1048576) : Calls Tryd.prog 40 #[.string s, .string ⟨#[10]⟩] w fun e w' => e = .returned (.bool (decide (1 ≤ s.size) && ((s.extract (s.size - 1) s.size).toList == [10]))) ∧ w' = w := by
  by_cases h1 : 1 ≤ s.size
  · obtain ⟨m, hm⟩ : ∃ m, m = s.size - 1 := ⟨_, rfl⟩
    have hm' : (s.size : Int) - 1 = (m : Int) := by omega
    have hwm : IntKind.i64.wrap (m : Int) = m := by rw [IntKind.wrap_i64]; omega
    have hle : (1 : Int) ≤ (s.size : Int) := by omega
    have hmle : m ≤ s.size := by omega
    rw [← hm, decide_eq_true h1]
    obtain ⟨q, hq⟩ : ∃ q, q = s.extract m s.size := ⟨_, rfl⟩
    have hq' := hq.symm
    rw [← hq]
    clear hm hq
    cases he : (q.toList == [10]) with
    | true =>
      go_enter Tryd.func40, Tryd.ntmps40
      go_wp2
      go_ret
      exact ⟨rfl, rfl⟩
    | false =>
      go_enter Tryd.func40, Tryd.ntmps40
      go_wp2
      go_ret
      exact ⟨rfl, rfl⟩
  · have hle : ¬ (1 : Int) ≤ (s.size : Int) := by omega
    rw [decide_eq_false h1]
    go_enter Tryd.func40, Tryd.ntmps40
    go_wp2
    go_ret
    exact ⟨rfl, rfl⟩
set_option maxHeartbeats 2000000 in
theorem trim_in (s : ByteArray) (w : World) (hs : s.size ≤ 1048576) : Calls Tryd.prog 31 #[.string s, .string ⟨#[10]⟩] w fun e w' => e = .returned (.string (trimE s)) ∧ w' = w := by
  have H := hasSuffix_in s w hs
  have HV : Hid (trimE s = if decide (1 ≤ s.size) && ((s.extract (s.size - 1) s.size).toList == [10]) then s.extract 0 (s.size - 1) else s) := rfl
  cases hb : (decide (1 ≤ s.size) && ((s.extract (s.size - 1) s.size).toList == [10])) with
  | true =>
    rw [hb] at H HV
    simp only [if_true] at HV
    have h1 : 1 ≤ s.size := by rw [Bool.and_eq_true] at hb; exact of_decide_eq_true hb.1
    obtain ⟨m, hm⟩ : ∃ m, m = s.size - 1 := ⟨_, rfl⟩
    have hm' : (s.size : Int) - 1 = (m : Int) := by omega
    have hwm : IntKind.i64.wrap (m : Int) = m := by rw [IntKind.wrap_i64]; omega
    have hmle : m ≤ s.size := by omega
    rw [← hm] at HV
    clear hm hb
    go_enter Tryd.func31, Tryd.ntmps31
    go_wp2_with fail
    refine H.mono ?_
    rintro e w1 ⟨rfl, rfl⟩
    clear H
    go_wp2
    go_ret
    exact ⟨by rw [HV.out]; rfl, rfl⟩
  | false =>
    rw [hb] at H HV
    simp only [Bool.false_eq_true, if_false] at HV
    clear hb
    go_enter Tryd.func31, Tryd.ntmps31
    go_wp2_with fail
    refine H.mono ?_
    rintro e w1 ⟨rfl, rfl⟩
    clear H
    go_wp2
    go_ret
    exact ⟨by rw [HV.out]; rfl, rfl⟩
theorem trim_ok (s : ByteArray) (w : World) (hs : s.size ≤ 1048576) : Calls Tryd.prog 19 #[.string s, .string ⟨#[10]⟩] w fun e w' => e = .returned (.string (trimE s)) ∧ w' = w := by
  have H := trim_in s w hs
  go_enter Tryd.func19, Tryd.ntmps19
  go_wp2_with fail
  refine H.mono ?_
  rintro e w1 ⟨rfl, rfl⟩
  clear H
  go_wp2
  go_ret
  exact ⟨rfl, rfl⟩
/-- What Cut tells: two texts, and some flag. -/
def CutPost (s : ByteArray) (w : World) (e : Ending) (w' : World) : Prop := ∃ b : Bool, e = .returned (.tuple #[.string (cutV2 s).1, .string (cutV2 s).2, .bool b]) ∧ Below w.heap.size w w'
set_option maxHeartbeats 2000000 in
theorem cut_in (s : ByteArray) (w : World) (hs : s.size ≤ 1048576) : Calls Tryd.prog 30 #[.string s, .string ⟨#[32]⟩] w (CutPost s w) := by
  have H := S2.index_in s 32 w
  have hbl := bl_len s
  rcases index_cases (bl s) 32 with h0 | ⟨n, hn, hlt⟩
  · have HV : Hid (cutV2 s = (s, ⟨#[]⟩)) := by show _ = _; unfold cutV2; rw [if_pos h0]
    rw [h0] at H
    clear h0
    go_enter Tryd.func30, Tryd.ntmps30
    go_wp2_with fail
    refine H.mono ?_
    rintro e w1 ⟨rfl, rfl⟩
    clear H
    go_wp2
    refine bodyPost_ret (results_tmp3 rfl _ _ _) rfl ?_
    exact ⟨false, by rw [HV.out]; rfl, Below.refl _ _⟩
  · have HV : Hid (cutV2 s = (s.extract 0 n, s.extract (n + 1) s.size)) := by
      show _ = _
      unfold cutV2
      rw [if_neg (by rw [hn]; omega), hn]
      rfl
    rw [hn] at H
    have h1 : n ≤ s.size := by omega
    have h2 : n + 1 ≤ s.size := by omega
    have hw1 : IntKind.i64.wrap ((n : Int) + 1) = ((n + 1 : Nat) : Int) := by rw [IntKind.wrap_i64]; omega
    clear hn hlt hbl
    go_enter Tryd.func30, Tryd.ntmps30
    go_wp2_with fail
    refine H.mono ?_
    rintro e w1 ⟨rfl, rfl⟩
    clear H
    go_wp2
    go_quiet (fail)
    go_wp2
    refine bodyPost_ret (results_tmp3 rfl _ _ _) rfl ?_
    exact ⟨true, by rw [HV.out]; rfl, below_drewN (Below.refl _ _) _⟩
set_option maxHeartbeats 1000000 in
theorem cut_ok (s : ByteArray) (w : World) (hs : s.size ≤ 1048576) : Calls Tryd.prog 18 #[.string s, .string ⟨#[32]⟩] w (CutPost s w) := by
  have H := cut_in s w hs
  obtain ⟨x, hx⟩ : ∃ x, x = cutV2 s := ⟨_, rfl⟩
  have HX : Hid _ := hx
  unfold CutPost at H
  rw [← hx] at H
  clear hx
  go_enter Tryd.func18, Tryd.ntmps18
  go_wp2_with fail
  refine H.mono ?_
  rintro e w1 ⟨b, rfl, hb1⟩
  clear H
  go_wp2
  refine bodyPost_ret (results_tmp3 rfl _ _ _) rfl ?_
  exact ⟨b, by rw [← HX.out]; rfl, hb1⟩
theorem sindexByte_ok (s : ByteArray) (w : World) : Calls Tryd.prog 29 #[.string s, .int .u8 10] w fun e w' => e = .returned (.int .i64 (Lib.indexByte (bl s) 10)) ∧ w' = w := by
  have H := S2.indexByte_in s 10 w
  have e : ((10 : UInt8).toNat : Int) = 10 := rfl
  rw [e] at H
  clear e
  go_enter Tryd.func29, Tryd.ntmps29
  go_wp2_with fail
  refine H.mono ?_
  rintro e w1 ⟨rfl, rfl⟩
  clear H
  go_wp2
  go_ret
  exact ⟨rfl, rfl⟩
end Go.Proofs.YthidlckipiamkaaDoor
