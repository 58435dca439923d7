/- My own work: the walks of number and isTag. -/
import Derived.Test.YtkbhckjpmgkgjaaGreatDoorV2
namespace Go.Proofs.YtkbhckjpmgkgjaaGreatDoor
open Go.RowKit

theorem vb_at (s : ByteArray) (i : Nat) (h : i < s.size) : (vb s)[i]'(by rw [vb_len]; exact h) = s[i] := rfl
theorem vb_head {s : ByteArray} (h : 0 < s.size) : (vb s).headD 0 = s[0] := by
  rw [List.headD_eq_head?_getD, List.head?_eq_getElem?, List.getElem?_eq_getElem (by rw [vb_len]; exact h)]
  rfl
/-- What number tells. -/
def numE (l : By) : Value := .tuple #[.int .i64 (if isNum l then (numOf l : Int) else 0), .bool (isNum l)]
theorem numE_no {l : By} (h : isNum l = false) : numE l = .tuple #[.int .i64 0, .bool false] := by unfold numE; rw [h]; rfl
theorem numE_yes {l : By} (h : isNum l = true) : numE l = .tuple #[.int .i64 (numOf l : Int), .bool true] := by unfold numE; rw [h]; rfl
theorem take_dig {s : ByteArray} {k : Nat} (h : k < s.size) : (vb s).take (k + 1) = (vb s).take k ++ [s[k]] := by
  rw [List.take_add_one, List.getElem?_eq_getElem (by rw [vb_len]; exact h)]
  rfl
theorem num_take {s : ByteArray} {k : Nat} (h : k < s.size) : numOf ((vb s).take (k + 1)) = 10 * numOf ((vb s).take k) + (s[k].toNat - 48) := by
  rw [take_dig h]
  show numG 0 _ = _
  rw [numG_append, numG_one]
theorem num_small {s : ByteArray} {k : Nat} (hk : k ≤ 9) (h : ∀ b ∈ (vb s).take k, digB b = true) : numOf ((vb s).take k) < 1000000000 := by
  have h1 := num_lt _ h
  have h2 : ((vb s).take k).length ≤ 9 := by rw [List.length_take]; omega
  have h3 : 10 ^ ((vb s).take k).length ≤ 10 ^ 9 := Nat.pow_le_pow_right (by decide) h2
  have h7 : (10 : Nat) ^ 9 = 1000000000 := by decide
  omega
set_option maxRecDepth 20000 in
set_option maxHeartbeats 4000000 in
/-- number: a number's text, as a number. -/
theorem number_ok (s : ByteArray) (w : World) : Calls Tryz.prog 85 #[.string s] w fun e w' => e = .returned (numE (vb s)) ∧ w' = w := by
  have hlen := vb_len s
  have hW := withinI (s.size : Int) 1 9 w
  by_cases hsz : 1 ≤ s.size ∧ s.size ≤ 9
  · rw [show (decide ((1 : Int) ≤ (s.size : Int)) && decide ((s.size : Int) ≤ 9)) = true by simp; omega] at hW
    have h0 : 0 < s.size := by omega
    have HU : Hid (∀ c a b : Int, Calls Tryz.prog 110 #[.int .u8 c, .int .u8 a, .int .u8 b] w fun e w' => e = .returned (.bool (decide (a ≤ c) && decide (c ≤ b))) ∧ w' = w) := fun c a b => withinU c a b w
    by_cases hz1 : s[0] = 48
    · have hz' : s[0].toNat = 48 := by rw [hz1]; rfl
      by_cases hz2 : 1 < s.size
      · have HN : Hid (numE (vb s) = .tuple #[.int .i64 0, .bool false]) := numE_no (by
          cases e : isNum (vb s) with
          | false => rfl
          | true =>
            rcases ((isNum_iff _).1 e).2.1 with k | k
            · rw [vb_head h0] at k; exact absurd hz1 k
            · omega)
        go_enter Tryz.func85, Tryz.ntmps85
        go_wp2_with (go_at_call 109; refine hW.mono ?_; rintro e w1 ⟨rfl, hw1⟩; rw [hw1]; clear hw1)
        go_ret2
        exact ⟨by rw [HN.out]; rfl, rfl⟩
      · have HZ : Hid ((vb s).headD 0 ≠ 48 ∨ (vb s).length ≤ 1) := Or.inr (by rw [hlen]; omega)
        have HL : Hid _ := hlen
        clear hlen hz1
        go_enter Tryz.func85, Tryz.ntmps85
        go_wp2_with (go_at_call 109; refine hW.mono ?_; rintro e w1 ⟨rfl, hw1⟩; rw [hw1]; clear hw1)
        go_loopw [4, 22] (fun n i wr => ∃ k m : Nat, k ≤ s.size ∧ i = .int .i64 k ∧ n = .int .i64 m ∧ wr = w ∧ Hid (m = numOf ((vb s).take k)) ∧ Hid (∀ b ∈ (vb s).take k, digB b = true)) (fun _ i _ => s.size - (intOf i).toNat)
        case atStart => exact ⟨0, 0, Nat.zero_le _, rfl, rfl, rfl, rfl, fun b hb => absurd hb (by simp)⟩
        case round =>
          obtain ⟨k, m, hk, rfl, rfl, hwr, HM, HD⟩ := hrel
          subst hwr
          have hm : m < 1000000000 := by rw [HM.out]; exact num_small (by omega) HD.out
          by_cases hlt : k < s.size
          · obtain ⟨c, hc⟩ : ∃ c, c = s[k] := ⟨_, rfl⟩
            have hc' : s[k].toNat = c.toNat := by rw [hc]
            have HC : Hid (s[k] = c) := hc.symm
            clear hc
            have hcl : c.toNat < 256 := UInt8.toNat_lt c
            have HV := HU.out (c.toNat : Int) 48 57
            cases hd : digB c with
            | true =>
              obtain ⟨hd1, hd2⟩ := (digB_iff c).1 hd
              rw [show (decide ((48 : Int) ≤ (c.toNat : Int)) && decide ((c.toNat : Int) ≤ 57)) = true by simp; omega] at HV
              have hw8 : IntKind.u8.wrap ((c.toNat : Int) - 48) = ((c.toNat - 48 : Nat) : Int) := by simp [IntKind.wrap, IntKind.bits, IntKind.signed]; omega
              go_wp2_with (go_at_call 110; refine HV.mono ?_; rintro e w1 ⟨rfl, hw1⟩; rw [hw1]; clear hw1)
              go_roundw
              case rel => exact ⟨k + 1, 10 * m + (c.toNat - 48), by omega, by go_num, by go_num, trivial, by show _ = _; rw [num_take hlt, ← HM.out, HC.out], fun b hb => by
                rw [take_dig hlt, HC.out] at hb
                rcases List.mem_append.1 hb with hb | hb
                · exact HD.out b hb
                · rw [List.mem_singleton.1 hb]; exact hd⟩
              case measure => simp [intOf]; omega
            | false =>
              have hd1 : ¬ (48 ≤ c.toNat ∧ c.toNat ≤ 57) := fun h => by rw [(digB_iff c).2 h] at hd; cases hd
              rw [show (decide ((48 : Int) ≤ (c.toNat : Int)) && decide ((c.toNat : Int) ≤ 57)) = false by simp; omega] at HV
              have HN : Hid (numE (vb s) = .tuple #[.int .i64 0, .bool false]) := numE_no (by
                cases e : isNum (vb s) with
                | false => rfl
                | true =>
                  have := ((isNum_iff _).1 e).2.2 c (by rw [← HC.out, ← vb_at s k hlt]; exact List.getElem_mem _)
                  rw [hd] at this
                  cases this)
              clear hd1
              go_wp2_with (go_at_call 110; refine HV.mono ?_; rintro e w1 ⟨rfl, hw1⟩; rw [hw1]; clear hw1)
              go_ret2
              exact ⟨by rw [HN.out]; rfl, rfl⟩
          · have hks : k = s.size := by omega
            have HT : Hid ((vb s).take k = vb s) := List.take_of_length_le (by rw [HL.out]; omega)
            have HN : Hid (numE (vb s) = .tuple #[.int .i64 m, .bool true]) := by
              show _ = _
              have hd := HD.out
              rw [HT.out] at hd
              rw [numE_yes ((isNum_iff _).2 ⟨by rw [HL.out]; exact hsz, HZ.out, hd⟩), HM.out, HT.out]
            clear hks
            go_wp2
            go_ret2
            exact ⟨by rw [HN.out]; rfl, rfl⟩
    · have HZ : Hid ((vb s).headD 0 ≠ 48 ∨ (vb s).length ≤ 1) := Or.inl (by rw [vb_head h0]; exact hz1)
      have HL : Hid _ := hlen
      have hz' : ((s[0].toNat : Int) == 48) = false := by
        simp only [beq_eq_false_iff_ne]
        exact fun e => hz1 (UInt8.toNat_inj.1 (by simpa using (by omega : s[0].toNat = 48)))
      clear hlen hz1
      go_enter Tryz.func85, Tryz.ntmps85
      go_wp2_with (go_at_call 109; refine hW.mono ?_; rintro e w1 ⟨rfl, hw1⟩; rw [hw1]; clear hw1)
      go_loopw [4, 22] (fun n i wr => ∃ k m : Nat, k ≤ s.size ∧ i = .int .i64 k ∧ n = .int .i64 m ∧ wr = w ∧ Hid (m = numOf ((vb s).take k)) ∧ Hid (∀ b ∈ (vb s).take k, digB b = true)) (fun _ i _ => s.size - (intOf i).toNat)
      case atStart => exact ⟨0, 0, Nat.zero_le _, rfl, rfl, rfl, rfl, fun b hb => absurd hb (by simp)⟩
      case round =>
        obtain ⟨k, m, hk, rfl, rfl, hwr, HM, HD⟩ := hrel
        subst hwr
        have hm : m < 1000000000 := by rw [HM.out]; exact num_small (by omega) HD.out
        by_cases hlt : k < s.size
        · obtain ⟨c, hc⟩ : ∃ c, c = s[k] := ⟨_, rfl⟩
          have hc' : s[k].toNat = c.toNat := by rw [hc]
          have HC : Hid (s[k] = c) := hc.symm
          clear hc
          have hcl : c.toNat < 256 := UInt8.toNat_lt c
          have HV := HU.out (c.toNat : Int) 48 57
          cases hd : digB c with
          | true =>
            obtain ⟨hd1, hd2⟩ := (digB_iff c).1 hd
            rw [show (decide ((48 : Int) ≤ (c.toNat : Int)) && decide ((c.toNat : Int) ≤ 57)) = true by simp; omega] at HV
            have hw8 : IntKind.u8.wrap ((c.toNat : Int) - 48) = ((c.toNat - 48 : Nat) : Int) := by simp [IntKind.wrap, IntKind.bits, IntKind.signed]; omega
            go_wp2_with (go_at_call 110; refine HV.mono ?_; rintro e w1 ⟨rfl, hw1⟩; rw [hw1]; clear hw1)
            go_roundw
            case rel => exact ⟨k + 1, 10 * m + (c.toNat - 48), by omega, by go_num, by go_num, trivial, by show _ = _; rw [num_take hlt, ← HM.out, HC.out], fun b hb => by
              rw [take_dig hlt, HC.out] at hb
              rcases List.mem_append.1 hb with hb | hb
              · exact HD.out b hb
              · rw [List.mem_singleton.1 hb]; exact hd⟩
            case measure => simp [intOf]; omega
          | false =>
            have hd1 : ¬ (48 ≤ c.toNat ∧ c.toNat ≤ 57) := fun h => by rw [(digB_iff c).2 h] at hd; cases hd
            rw [show (decide ((48 : Int) ≤ (c.toNat : Int)) && decide ((c.toNat : Int) ≤ 57)) = false by simp; omega] at HV
            have HN : Hid (numE (vb s) = .tuple #[.int .i64 0, .bool false]) := numE_no (by
              cases e : isNum (vb s) with
              | false => rfl
              | true =>
                have := ((isNum_iff _).1 e).2.2 c (by rw [← HC.out, ← vb_at s k hlt]; exact List.getElem_mem _)
                rw [hd] at this
                cases this)
            clear hd1
            go_wp2_with (go_at_call 110; refine HV.mono ?_; rintro e w1 ⟨rfl, hw1⟩; rw [hw1]; clear hw1)
            go_ret2
            exact ⟨by rw [HN.out]; rfl, rfl⟩
        · have hks : k = s.size := by omega
          have HT : Hid ((vb s).take k = vb s) := List.take_of_length_le (by rw [HL.out]; omega)
          have HN : Hid (numE (vb s) = .tuple #[.int .i64 m, .bool true]) := by
            show _ = _
            have hd := HD.out
            rw [HT.out] at hd
            rw [numE_yes ((isNum_iff _).2 ⟨by rw [HL.out]; exact hsz, HZ.out, hd⟩), HM.out, HT.out]
          clear hks
          go_wp2
          go_ret2
          exact ⟨by rw [HN.out]; rfl, rfl⟩
  · rw [show (decide ((1 : Int) ≤ (s.size : Int)) && decide ((s.size : Int) ≤ 9)) = false by simp; omega] at hW
    have HN : Hid (numE (vb s) = .tuple #[.int .i64 0, .bool false]) := numE_no (by
      cases e : isNum (vb s) with
      | false => rfl
      | true =>
        have := ((isNum_iff _).1 e).1
        omega)
    go_enter Tryz.func85, Tryz.ntmps85
    go_wp2_with (go_at_call 109; refine hW.mono ?_; rintro e w1 ⟨rfl, hw1⟩; rw [hw1]; clear hw1)
    go_ret2
    exact ⟨by rw [HN.out]; rfl, rfl⟩
theorem tagC_iff (b : UInt8) : tagC b = true ↔ (97 ≤ b.toNat ∧ b.toNat ≤ 122) ∨ (48 ≤ b.toNat ∧ b.toNat ≤ 57) := by unfold tagC; rw [Bool.or_eq_true, digB_iff]; simp
theorem tagB_no {l : By} (h : ¬ (1 ≤ l.length ∧ l.length ≤ 12)) : tagB l = false := by unfold tagB; rw [decide_eq_false h, Bool.false_and]
theorem tagB_of {l : By} (h : 1 ≤ l.length ∧ l.length ≤ 12) : tagB l = l.all tagC := by unfold tagB; rw [decide_eq_true h, Bool.true_and]
set_option maxRecDepth 20000 in
set_option maxHeartbeats 4000000 in
/-- isTag: is it a tag? -/
theorem isTag_ok (s : ByteArray) (w : World) : Calls Tryz.prog 83 #[.string s] w fun e w' => e = .returned (.bool (tagB (vb s))) ∧ w' = w := by
  have hlen := vb_len s
  have hW := withinI (s.size : Int) 1 12 w
  by_cases hsz : 1 ≤ s.size ∧ s.size ≤ 12
  · rw [show (decide ((1 : Int) ≤ (s.size : Int)) && decide ((s.size : Int) ≤ 12)) = true by simp; omega] at hW
    have HU : Hid (∀ c a b : Int, Calls Tryz.prog 110 #[.int .u8 c, .int .u8 a, .int .u8 b] w fun e w' => e = .returned (.bool (decide (a ≤ c) && decide (c ≤ b))) ∧ w' = w) := fun c a b => withinU c a b w
    have HT : Hid (tagB (vb s) = (vb s).all tagC) := tagB_of (by rw [hlen]; exact hsz)
    have HL : Hid _ := hlen
    clear hlen
    go_enter Tryz.func83, Tryz.ntmps83
    go_wp2_with (go_at_call 109; refine hW.mono ?_; rintro e w1 ⟨rfl, hw1⟩; rw [hw1]; clear hw1)
    go_loopw [10] (fun i wr => ∃ k : Nat, k ≤ s.size ∧ i = .int .i64 k ∧ wr = w ∧ Hid (∀ b ∈ (vb s).take k, tagC b = true)) (fun i _ => s.size - (intOf i).toNat)
    case atStart => exact ⟨0, Nat.zero_le _, rfl, rfl, fun b hb => absurd hb (by simp)⟩
    case round =>
      obtain ⟨k, hk, rfl, hwr, HD⟩ := hrel
      subst hwr
      by_cases hlt : k < s.size
      · obtain ⟨c, hc⟩ : ∃ c, c = s[k] := ⟨_, rfl⟩
        have hc' : s[k].toNat = c.toNat := by rw [hc]
        have HC : Hid (s[k] = c) := hc.symm
        clear hc
        have HV := HU.out (c.toNat : Int) 97 122
        have HV2 := HU.out (c.toNat : Int) 48 57
        by_cases h1 : 97 ≤ c.toNat ∧ c.toNat ≤ 122
        · rw [show (decide ((97 : Int) ≤ (c.toNat : Int)) && decide ((c.toNat : Int) ≤ 122)) = true by simp; omega] at HV
          have HY : Hid (tagC c = true) := (tagC_iff c).2 (Or.inl h1)
          clear h1 HV2
          go_wp2_with (go_at_call 110; refine HV.mono ?_; rintro e w1 ⟨rfl, hw1⟩; rw [hw1]; clear hw1)
          go_roundw
          case rel => exact ⟨k + 1, by omega, by go_num, trivial, fun b hb => by
            rw [take_dig hlt, HC.out] at hb
            rcases List.mem_append.1 hb with hb | hb
            · exact HD.out b hb
            · rw [List.mem_singleton.1 hb]; exact HY.out⟩
          case measure => simp [intOf]; omega
        · rw [show (decide ((97 : Int) ≤ (c.toNat : Int)) && decide ((c.toNat : Int) ≤ 122)) = false by simp; omega] at HV
          by_cases h2 : 48 ≤ c.toNat ∧ c.toNat ≤ 57
          · rw [show (decide ((48 : Int) ≤ (c.toNat : Int)) && decide ((c.toNat : Int) ≤ 57)) = true by simp; omega] at HV2
            have HY : Hid (tagC c = true) := (tagC_iff c).2 (Or.inr h2)
            clear h1 h2
            go_wp2_with (go_at_call 110; first | (refine HV.mono ?_; rintro e w1 ⟨rfl, hw1⟩; rw [hw1]; clear hw1 HV) | (refine HV2.mono ?_; rintro e w1 ⟨rfl, hw1⟩; rw [hw1]; clear hw1))
            go_roundw
            case rel => exact ⟨k + 1, by omega, by go_num, trivial, fun b hb => by
              rw [take_dig hlt, HC.out] at hb
              rcases List.mem_append.1 hb with hb | hb
              · exact HD.out b hb
              · rw [List.mem_singleton.1 hb]; exact HY.out⟩
            case measure => simp [intOf]; omega
          · rw [show (decide ((48 : Int) ≤ (c.toNat : Int)) && decide ((c.toNat : Int) ≤ 57)) = false by simp; omega] at HV2
            have HN : Hid (tagB (vb s) = false) := by
              show _ = _
              rw [HT.out, List.all_eq_false]
              exact ⟨c, by rw [← HC.out, ← vb_at s k hlt]; exact List.getElem_mem _, by rw [tagC_iff]; omega⟩
            clear h1 h2
            go_wp2_with (go_at_call 110; first | (refine HV.mono ?_; rintro e w1 ⟨rfl, hw1⟩; rw [hw1]; clear hw1 HV) | (refine HV2.mono ?_; rintro e w1 ⟨rfl, hw1⟩; rw [hw1]; clear hw1))
            go_ret
            exact ⟨by rw [HN.out]; rfl, rfl⟩
      · have HN : Hid (tagB (vb s) = true) := by
          show _ = _
          rw [HT.out, List.all_eq_true]
          intro b hb
          exact HD.out b (by rw [List.take_of_length_le (by rw [HL.out]; omega)]; exact hb)
        go_wp2
        go_ret
        exact ⟨by rw [HN.out]; rfl, rfl⟩
  · rw [show (decide ((1 : Int) ≤ (s.size : Int)) && decide ((s.size : Int) ≤ 12)) = false by simp; omega] at hW
    have HN : Hid (tagB (vb s) = false) := tagB_no (by rw [hlen]; exact hsz)
    go_enter Tryz.func83, Tryz.ntmps83
    go_wp2_with (go_at_call 109; refine hW.mono ?_; rintro e w1 ⟨rfl, hw1⟩; rw [hw1]; clear hw1)
    go_ret
    exact ⟨by rw [HN.out]; rfl, rfl⟩
end Go.Proofs.YtkbhckjpmgkgjaaGreatDoor
