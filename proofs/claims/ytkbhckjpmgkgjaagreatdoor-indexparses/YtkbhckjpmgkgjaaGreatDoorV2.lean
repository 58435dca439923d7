/- My own work: the walks of compare, within, compareTags, number and isTag. -/
import Derived.Test.YtkbhckjpmgkgjaaGreatDoorV1
import Derived.Test.YtkbhckjpmgkgjaaGreatDoorBase
import Derived.WalkMore
import Derived.MapKept
import Derived.Laws.Cover1
import Derived.Sort.Walk0
import Derived.BigQuiet
namespace Go.Proofs.YtkbhckjpmgkgjaaGreatDoor
open Go.RowKit

theorem vLess (a b : ByteArray) : Op.bytesLess a.toList b.toList = decide (vb a < vb b) := by rw [ByteArray.toList_eq, ByteArray.toList_eq, Go.Proofs.bytesLess_eq]
theorem cmpB_le (a b : Int) : decide (cmpI a b ≤ 0) = decide (a ≤ b) := by
  unfold cmpI
  by_cases h : a < b
  · rw [if_pos h, decide_eq_true (by decide), decide_eq_true (by omega)]
  · by_cases k : b < a
    · rw [if_neg h, if_pos k, decide_eq_false (by decide), decide_eq_false (by omega)]
    · rw [if_neg h, if_neg k, decide_eq_true (by decide), decide_eq_true (by omega)]
theorem cmpI_lt {a b : Int} (h : a < b) : cmpI a b = -1 := by unfold cmpI; rw [if_pos h]
theorem cmpI_gt {a b : Int} (h : b < a) : cmpI a b = 1 := by unfold cmpI; rw [if_neg (by omega), if_pos h]
theorem cmpI_eq {a b : Int} (h : a = b) : cmpI a b = 0 := (cmpI_zero a b).2 h
set_option maxHeartbeats 400000 in
theorem compareI (a b : Int) (w : World) : Calls Tryz.prog 93 #[.int .i64 a, .int .i64 b] w fun e w' => e = .returned (.int .i64 (cmpI a b)) ∧ w' = w := by
  by_cases h1 : a < b
  · have HE : Hid (cmpI a b = -1) := cmpI_lt h1
    go_enter Tryz.func93, Tryz.ntmps93
    go_wp2
    go_ret
    exact ⟨by rw [HE.out]; rfl, rfl⟩
  · by_cases h2 : b < a
    · have HE : Hid (cmpI a b = 1) := cmpI_gt h2
      go_enter Tryz.func93, Tryz.ntmps93
      go_wp2
      go_ret
      exact ⟨by rw [HE.out]; rfl, rfl⟩
    · have HE : Hid (cmpI a b = 0) := cmpI_eq (by omega)
      go_enter Tryz.func93, Tryz.ntmps93
      go_wp2
      go_ret
      exact ⟨by rw [HE.out]; rfl, rfl⟩
set_option maxHeartbeats 400000 in
theorem compareU (a b : Int) (w : World) : Calls Tryz.prog 140 #[.int .u8 a, .int .u8 b] w fun e w' => e = .returned (.int .i64 (cmpI a b)) ∧ w' = w := by
  by_cases h1 : a < b
  · have HE : Hid (cmpI a b = -1) := cmpI_lt h1
    go_enter Tryz.func140, Tryz.ntmps140
    go_wp2
    go_ret
    exact ⟨by rw [HE.out]; rfl, rfl⟩
  · by_cases h2 : b < a
    · have HE : Hid (cmpI a b = 1) := cmpI_gt h2
      go_enter Tryz.func140, Tryz.ntmps140
      go_wp2
      go_ret
      exact ⟨by rw [HE.out]; rfl, rfl⟩
    · have HE : Hid (cmpI a b = 0) := cmpI_eq (by omega)
      go_enter Tryz.func140, Tryz.ntmps140
      go_wp2
      go_ret
      exact ⟨by rw [HE.out]; rfl, rfl⟩
set_option maxHeartbeats 400000 in
theorem compareS (a b : ByteArray) (w : World) : Calls Tryz.prog 125 #[.string a, .string b] w fun e w' => e = .returned (.int .i64 (cmpB (vb a) (vb b))) ∧ w' = w := by
  have hl := vLess a b
  have hg := vLess b a
  by_cases h1 : vb a < vb b
  · have HE : Hid (cmpB (vb a) (vb b) = -1) := by show _ = _; unfold cmpB; rw [if_pos h1]
    rw [decide_eq_true h1] at hl
    clear hg h1
    go_enter Tryz.func125, Tryz.ntmps125
    go_wp2
    go_ret
    exact ⟨by rw [HE.out]; rfl, rfl⟩
  · rw [decide_eq_false h1] at hl
    by_cases h2 : vb b < vb a
    · have HE : Hid (cmpB (vb a) (vb b) = 1) := by show _ = _; unfold cmpB; rw [if_neg h1, if_pos h2]
      have hq : (a.toList == b.toList) = false := by
        refine beq_false_of_ne (fun e => ?_)
        rw [ByteArray.toList_eq, ByteArray.toList_eq] at e
        rw [show vb a = vb b from e] at h2
        exact List.lt_irrefl _ h2
      have hq' : ¬ a.toList = b.toList := by simpa using hq
      clear h1 h2 hg
      go_enter Tryz.func125, Tryz.ntmps125
      go_wp2
      go_ret
      exact ⟨by rw [HE.out]; rfl, rfl⟩
    · have HE : Hid (cmpB (vb a) (vb b) = 0) := by show _ = _; unfold cmpB; rw [if_neg h1, if_neg h2]
      obtain rfl := vb_inj (lt_or h1 h2)
      clear h1 h2 hg
      go_enter Tryz.func125, Tryz.ntmps125
      go_wp2
      go_ret
      exact ⟨by rw [HE.out]; rfl, rfl⟩
set_option maxHeartbeats 400000 in
theorem withinI (x a b : Int) (w : World) : Calls Tryz.prog 109 #[.int .i64 x, .int .i64 a, .int .i64 b] w fun e w' => e = .returned (.bool (decide (a ≤ x) && decide (x ≤ b))) ∧ w' = w := by
  have h1 := compareI a x w
  have h2 := compareI x b w
  have e1 := cmpB_le a x
  have e2 := cmpB_le x b
  generalize cmpI a x = c1 at h1 e1
  generalize cmpI x b = c2 at h2 e2
  by_cases k1 : a ≤ x
  · rw [decide_eq_true k1] at e1
    have k2 := of_decide_eq_true e1
    have HE : Hid _ := e2
    clear e1 e2
    rw [decide_eq_true k1, Bool.true_and, ← HE.out]
    go_enter Tryz.func109, Tryz.ntmps109
    go_wp2_with (go_at_call 93; first | (refine h1.mono ?_; rintro e w1 ⟨rfl, hw1⟩; rw [hw1]; clear hw1 h1) | (refine h2.mono ?_; rintro e w1 ⟨rfl, hw1⟩; rw [hw1]; clear hw1))
    go_ret
    exact ⟨rfl, rfl⟩
  · rw [decide_eq_false k1] at e1
    have k2 := of_decide_eq_false e1
    clear e1 e2
    rw [decide_eq_false k1, Bool.false_and]
    go_enter Tryz.func109, Tryz.ntmps109
    go_wp2_with (go_at_call 93; refine h1.mono ?_; rintro e w1 ⟨rfl, hw1⟩; rw [hw1]; clear hw1)
    go_ret
    exact ⟨rfl, rfl⟩
set_option maxHeartbeats 400000 in
theorem withinU (x a b : Int) (w : World) : Calls Tryz.prog 110 #[.int .u8 x, .int .u8 a, .int .u8 b] w fun e w' => e = .returned (.bool (decide (a ≤ x) && decide (x ≤ b))) ∧ w' = w := by
  have h1 := compareU a x w
  have h2 := compareU x b w
  have e1 := cmpB_le a x
  have e2 := cmpB_le x b
  generalize cmpI a x = c1 at h1 e1
  generalize cmpI x b = c2 at h2 e2
  by_cases k1 : a ≤ x
  · rw [decide_eq_true k1] at e1
    have k2 := of_decide_eq_true e1
    have HE : Hid _ := e2
    clear e1 e2
    rw [decide_eq_true k1, Bool.true_and, ← HE.out]
    go_enter Tryz.func110, Tryz.ntmps110
    go_wp2_with (go_at_call 140; first | (refine h1.mono ?_; rintro e w1 ⟨rfl, hw1⟩; rw [hw1]; clear hw1 h1) | (refine h2.mono ?_; rintro e w1 ⟨rfl, hw1⟩; rw [hw1]; clear hw1))
    go_ret
    exact ⟨rfl, rfl⟩
  · rw [decide_eq_false k1] at e1
    have k2 := of_decide_eq_false e1
    clear e1 e2
    rw [decide_eq_false k1, Bool.false_and]
    go_enter Tryz.func110, Tryz.ntmps110
    go_wp2_with (go_at_call 140; refine h1.mono ?_; rintro e w1 ⟨rfl, hw1⟩; rw [hw1]; clear hw1)
    go_ret
    exact ⟨rfl, rfl⟩
theorem vb_nil {a : ByteArray} (h : vb a = []) : a = ⟨#[]⟩ := vb_inj h
theorem vEq_nil {a : ByteArray} (h : vb a ≠ []) : a.toList.isEmpty = false := by
  rw [ByteArray.toList_eq, List.isEmpty_eq_false_iff]
  exact h
theorem vEq_nil' {a : ByteArray} (h : vb a ≠ []) : ¬ a.toList = [] := by
  rw [ByteArray.toList_eq]
  exact h
set_option maxHeartbeats 400000 in
theorem compareT (a b : ByteArray) (w : World) : Calls Tryz.prog 94 #[.string a, .string b] w fun e w' => e = .returned (.int .i64 (cmpT (vb a) (vb b))) ∧ w' = w := by
  have h1 := compareS a b w
  have h2 := compareS b a w
  by_cases ha : vb a = []
  · obtain rfl := vb_nil ha
    have HE : Hid (cmpT (vb ⟨#[]⟩) (vb b) = cmpB (vb b) (vb ⟨#[]⟩)) := by show _ = _; unfold cmpT; rw [if_pos (Or.inl rfl)]
    rw [HE.out]
    clear h1 HE
    generalize cmpB (vb b) (vb ⟨#[]⟩) = c at h2 ⊢
    go_enter Tryz.func94, Tryz.ntmps94
    go_wp2_with (go_at_call 125; refine h2.mono ?_; rintro e w1 ⟨rfl, hw1⟩; rw [hw1]; clear hw1)
    go_ret
    exact ⟨rfl, rfl⟩
  · have e1 := vEq_nil ha
    have f1 := vEq_nil' ha
    by_cases hb : vb b = []
    · obtain rfl := vb_nil hb
      have HE : Hid (cmpT (vb a) (vb ⟨#[]⟩) = cmpB (vb ⟨#[]⟩) (vb a)) := by show _ = _; unfold cmpT; rw [if_pos (Or.inr rfl)]
      rw [HE.out]
      clear h1 HE
      generalize cmpB (vb ⟨#[]⟩) (vb a) = c at h2 ⊢
      clear ha hb
      go_enter Tryz.func94, Tryz.ntmps94
      go_wp2_with (go_at_call 125; refine h2.mono ?_; rintro e w1 ⟨rfl, hw1⟩; rw [hw1]; clear hw1)
      go_ret
      exact ⟨rfl, rfl⟩
    · have e2 := vEq_nil hb
      have f2 := vEq_nil' hb
      have HE : Hid (cmpT (vb a) (vb b) = cmpB (vb a) (vb b)) := by show _ = _; unfold cmpT; rw [if_neg (by simp [ha, hb])]
      rw [HE.out]
      clear h2 HE
      generalize cmpB (vb a) (vb b) = c at h1 ⊢
      clear ha hb
      go_enter Tryz.func94, Tryz.ntmps94
      go_wp2_with (go_at_call 125; refine h1.mono ?_; rintro e w1 ⟨rfl, hw1⟩; rw [hw1]; clear hw1)
      go_ret
      exact ⟨rfl, rfl⟩
end Go.Proofs.YtkbhckjpmgkgjaaGreatDoor
