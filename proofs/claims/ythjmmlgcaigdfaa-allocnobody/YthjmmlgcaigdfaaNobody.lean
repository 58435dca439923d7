/- The law AllocNobody. -/
import Derived.Test.YthjmmlgcaigdfaaClone
namespace Go.Proofs.Ythjmmlgcaigdfaa
open Go.RowKit

theorem built_zero : Try.prog.built 53 [] = some (setC 0 none') := by kernel_rfl

set_option maxRecDepth 20000 in
set_option maxHeartbeats 2000000 in
theorem law_nobody (n : Int) (w : World) : Calls Try.prog 5 #[.int .i64 n] w fun e w' => e = .returned (.bool true) ∧ Below w.heap.size w w' := by
  have HN := new_ok 1 w (by decide) (by decide)
  have hbl := built_zero
  have h0 : (setC 0 none')[0]? = some (.int .i64 0) := setC_n 0 none'
  generalize setC 0 none' = Z at *
  have HB : Hid _ := hbl
  clear hbl
  go_enter Try.func5, Try.ntmps5
  go_wp2_with fail
  refine HN.mono ?_
  rintro e w1 ⟨rfl, hS, hb⟩
  have hs := hb.size
  clear HN
  have hlt := hS.row.lt
  have HS : Hid _ := hS
  clear hS
  go_wp2_with (first
    | refine wpList_build rfl 53 _ rfl #[] (by simp only [List.map_toArray, List.map_nil]) Z HB.out ?_)
  obtain ⟨WW, hWW⟩ : ∃ WW, WW = (w1.alloc (.cells Z 53)).alloc (.cells #[.pointer none, .pointer (some ⟨w1.heap.size, 0, none⟩)] 23) := ⟨_, rfl⟩
  have hbW : Below w1.heap.size w1 WW := by rw [hWW]; exact ((Below.refl _ _).alloc (Nat.le_refl _) _).alloc (by simp) _
  have HSW : Hid (SetAt WW w.heap.size 1 none') := HS.out.below hbW
  have hz : Row WW w1.heap.size Z 53 := by rw [hWW]; exact (Row.new w1 Z 53).alloc _
  have hl : Row WW (w1.heap.size + 1) #[.pointer none, .pointer (some ⟨w1.heap.size, 0, none⟩)] 23 := by
    rw [hWW]
    have h := Row.new (w1.alloc (.cells Z 53)) #[.pointer none, .pointer (some ⟨w1.heap.size, 0, none⟩)] 23
    simpa using h
  have HBW : Hid (Below w.heap.size w WW) := hb.trans (hbW.mono hs)
  clear hbW HS
  go_loopw [19] (fun i wr => ∃ k : Nat, k ≤ 2 ∧ i = .int .i64 k ∧ wr = WW) (fun i _ => 2 - (intOf i).toNat)
  case atStart => exact ⟨0, by omega, rfl, hWW.symm⟩
  case round =>
    obtain ⟨k, hk, rfl, rfl⟩ := hrel
    clear hWW
    by_cases hlt2 : k < 2
    · obtain ⟨d, hd, hno⟩ : ∃ d, wr.cell? ⟨w1.heap.size + 1, k, none⟩ = some d ∧ NoSet wr d := by
        match k, hlt2 with
        | 0, _ => exact ⟨_, hl.cell 0, .inl rfl⟩
        | 1, _ => exact ⟨_, hl.cell 1, .inr ⟨_, Z, rfl, hz, h0⟩⟩
      clear hl hz
      have C0 := take_no d wr hno
      have C1 := count_no d wr hno
      have C2 := put_no d (.int .i64 n) wr hno
      have C3 := drop_no d (.int .i64 n) wr hno
      have C4 := has_no d (.int .i64 n) wr hno
      have C5 := bytes_no d wr hno
      have C6 := clone_no d wr hno
      have M := made_no d wr hno
      have M0 := made_no (.pointer none) wr (.inl rfl)
      have M1 := made_yes HSW.out
      have C7 := same_no d (.pointer none) wr false false M M0 rfl
      have C8 := same_no d (.pointer (some ⟨w.heap.size, 0, none⟩)) wr false true M M1 rfl
      have C9 := same_no (.pointer (some ⟨w.heap.size, 0, none⟩)) d wr true false M1 M rfl
      clear M M0 M1 hno
      go_wp2_with fail
      refine C0.mono ?_
      rintro e w' ⟨rfl, hw'⟩
      subst w'
      go_wp2_with fail
      refine C1.mono ?_
      rintro e w' ⟨rfl, hw'⟩
      subst w'
      go_wp2_with fail
      refine C2.mono ?_
      rintro e w' ⟨rfl, hw'⟩
      subst w'
      go_wp2_with fail
      refine C3.mono ?_
      rintro e w' ⟨rfl, hw'⟩
      subst w'
      go_wp2_with fail
      refine C4.mono ?_
      rintro e w' ⟨rfl, hw'⟩
      subst w'
      go_wp2_with fail
      refine C5.mono ?_
      rintro e w' ⟨rfl, hw'⟩
      subst w'
      go_wp2_with fail
      refine C6.mono ?_
      rintro e w' ⟨rfl, hw'⟩
      subst w'
      go_wp2_with fail
      refine C7.mono ?_
      rintro e w' ⟨rfl, hw'⟩
      subst w'
      go_wp2_with fail
      refine C8.mono ?_
      rintro e w' ⟨rfl, hw'⟩
      subst w'
      go_wp2_with fail
      refine C9.mono ?_
      rintro e w' ⟨rfl, hw'⟩
      subst w'
      go_wp2
      go_roundw
      case rel => exact ⟨k + 1, by omega, by go_num, trivial⟩
      case measure => simp [intOf]; omega
    · go_wp2
      go_ret
      exact ⟨rfl, HBW.out⟩
end Go.Proofs.Ythjmmlgcaigdfaa
