/- My own work: the document's own tag, digits, May and Text. -/
import Derived.Test.YtkbhckjpmgkgjaaGreatDoorV11
namespace Go.Proofs.YtkbhckjpmgkgjaaGreatDoor
open Go.RowKit

/-- Bytes of a tag, not too many; none too. -/
def tagRB (l : By) : Bool := l.all tagC && decide (l.length ≤ 12)
theorem tagRB_iff (l : By) : tagRB l = true ↔ l = [] ∨ tagB l = true := by
  unfold tagRB tagB
  cases l with
  | nil => simp
  | cons b r =>
    rw [Bool.and_eq_true, Bool.and_eq_true, decide_eq_true_eq, decide_eq_true_eq]
    constructor
    · rintro ⟨h1, h2⟩
      exact Or.inr ⟨⟨by rw [List.length_cons]; omega, h2⟩, h1⟩
    · rintro (h | ⟨h1, h2⟩)
      · cases h
      · exact ⟨h2, h1.2⟩
set_option maxRecDepth 20000 in
set_option maxHeartbeats 4000000 in
theorem refTag_ok (s : ByteArray) (w : World) (hs : s.size ≤ 140737488355328) : Calls Tryz.prog 138 #[.string s] w fun e w' => e = .returned (.bool (tagRB (vb s))) ∧ w' = w := by
  have HL : Hid _ := vb_len s
  go_enter Tryz.func138, Tryz.ntmps138
  go_wp2
  go_loopw [3] (fun i wr => ∃ k : Nat, k ≤ s.size ∧ i = .int .i64 k ∧ wr = w ∧ Hid (∀ b ∈ (vb s).take k, tagC b = true)) (fun i _ => s.size - (intOf i).toNat)
  case atStart => exact ⟨0, Nat.zero_le _, rfl, rfl, fun b hb => absurd hb (by simp)⟩
  case round =>
    obtain ⟨k, hk, rfl, hwr, HD⟩ := hrel
    subst hwr
    by_cases hlt : k < s.size
    · obtain ⟨c, hc⟩ : ∃ c, c = s[k] := ⟨_, rfl⟩
      have hc' : s[k].toNat = c.toNat := by rw [hc]
      have HC : Hid (s[k] = c) := hc.symm
      have hlt' : (k : Int) < (s.size : Int) := by omega
      clear hc
      by_cases g1 : c.toNat < 48
      · have g1' : (c.toNat : Int) < 48 := by omega
        have g2' : (c.toNat : Int) < 97 := by omega
        have HN : Hid (tagRB (vb s) = false) := by
          show _ = _
          unfold tagRB
          rw [show (vb s).all tagC = false from List.all_eq_false.2 ⟨c, by rw [← HC.out, ← vb_at s k hlt]; exact List.getElem_mem _, by rw [tagC_iff]; omega⟩, Bool.false_and]
        go_wp2
        go_ret
        exact ⟨by rw [HN.out]; rfl, rfl⟩
      · by_cases g2 : c.toNat ≤ 57
        · have g1' : ¬ (c.toNat : Int) < 48 := by omega
          have g2' : (c.toNat : Int) < 97 := by omega
          have g3' : ¬ (57 : Int) < (c.toNat : Int) := by omega
          have HY : Hid (tagC c = true) := (tagC_iff c).2 (by omega)
          go_wp2
          go_roundw
          case rel => exact ⟨k + 1, by omega, by go_num, trivial, fun b hb => by
            rw [take_dig hlt, HC.out] at hb
            rcases List.mem_append.1 hb with hb | hb
            · exact HD.out b hb
            · rw [List.mem_singleton.1 hb]; exact HY.out⟩
          case measure => simp [intOf]; omega
        · by_cases g3 : c.toNat < 97
          · have g1' : ¬ (c.toNat : Int) < 48 := by omega
            have g2' : (c.toNat : Int) < 97 := by omega
            have g3' : (57 : Int) < (c.toNat : Int) := by omega
            have HN : Hid (tagRB (vb s) = false) := by
              show _ = _
              unfold tagRB
              rw [show (vb s).all tagC = false from List.all_eq_false.2 ⟨c, by rw [← HC.out, ← vb_at s k hlt]; exact List.getElem_mem _, by rw [tagC_iff]; omega⟩, Bool.false_and]
            go_wp2
            go_ret
            exact ⟨by rw [HN.out]; rfl, rfl⟩
          · by_cases g4 : c.toNat ≤ 122
            · have g2' : ¬ (c.toNat : Int) < 97 := by omega
              have g4' : ¬ (122 : Int) < (c.toNat : Int) := by omega
              have HY : Hid (tagC c = true) := (tagC_iff c).2 (by omega)
              go_wp2
              go_roundw
              case rel => exact ⟨k + 1, by omega, by go_num, trivial, fun b hb => by
                rw [take_dig hlt, HC.out] at hb
                rcases List.mem_append.1 hb with hb | hb
                · exact HD.out b hb
                · rw [List.mem_singleton.1 hb]; exact HY.out⟩
              case measure => simp [intOf]; omega
            · have g1' : ¬ (c.toNat : Int) < 48 := by omega
              have g2' : ¬ (c.toNat : Int) < 97 := by omega
              have g3' : (57 : Int) < (c.toNat : Int) := by omega
              have g4' : (122 : Int) < (c.toNat : Int) := by omega
              have HN : Hid (tagRB (vb s) = false) := by
                show _ = _
                unfold tagRB
                rw [show (vb s).all tagC = false from List.all_eq_false.2 ⟨c, by rw [← HC.out, ← vb_at s k hlt]; exact List.getElem_mem _, by rw [tagC_iff]; omega⟩, Bool.false_and]
              go_wp2
              go_ret
              exact ⟨by rw [HN.out]; rfl, rfl⟩
    · have hlt' : ¬ (k : Int) < (s.size : Int) := by omega
      have HA : Hid ((vb s).all tagC = true) := List.all_eq_true.2 fun b hb => HD.out b (by rw [List.take_of_length_le (by rw [HL.out]; omega)]; exact hb)
      have HN : Hid (tagRB (vb s) = decide ((s.size : Int) ≤ 12)) := by
        show _ = _
        unfold tagRB
        rw [HA.out, Bool.true_and, HL.out]
        exact decide_eq_decide.2 (by omega)
      go_wp2
      go_ret
      exact ⟨by rw [HN.out]; rfl, rfl⟩
theorem dec_len18 (u : Nat) (h : u ≤ 999999999999999999) : (Lib.decDigits u).length ≤ 18 := dec_len 17 u (by omega)
set_option maxRecDepth 20000 in
theorem digits_0 (w : World) : Calls Tryz.prog 107 #[.int .i64 0] w fun e w' => e = .returned (.string (tx (Lib.decDigits 0))) ∧ w' = w := by
  have HD : Hid (tx (Lib.decDigits 0) = ⟨#[48]⟩) := by show _ = _; rw [dec_small (by omega)]; rfl
  go_enter Tryz.func107, Tryz.ntmps107
  go_wp2
  go_ret
  exact ⟨by rw [HD.out]; rfl, rfl⟩
set_option maxRecDepth 20000 in
theorem digits_1 (w : World) : Calls Tryz.prog 107 #[.int .i64 1] w fun e w' => e = .returned (.string (tx (Lib.decDigits 1))) ∧ w' = w := by
  have HD : Hid (tx (Lib.decDigits 1) = ⟨#[49]⟩) := by show _ = _; rw [dec_small (by omega)]; rfl
  go_enter Tryz.func107, Tryz.ntmps107
  go_wp2
  go_ret
  exact ⟨by rw [HD.out]; rfl, rfl⟩
set_option maxRecDepth 20000 in
theorem digits_2 (w : World) : Calls Tryz.prog 107 #[.int .i64 2] w fun e w' => e = .returned (.string (tx (Lib.decDigits 2))) ∧ w' = w := by
  have HD : Hid (tx (Lib.decDigits 2) = ⟨#[50]⟩) := by show _ = _; rw [dec_small (by omega)]; rfl
  go_enter Tryz.func107, Tryz.ntmps107
  go_wp2
  go_ret
  exact ⟨by rw [HD.out]; rfl, rfl⟩
set_option maxRecDepth 20000 in
theorem digits_3 (w : World) : Calls Tryz.prog 107 #[.int .i64 3] w fun e w' => e = .returned (.string (tx (Lib.decDigits 3))) ∧ w' = w := by
  have HD : Hid (tx (Lib.decDigits 3) = ⟨#[51]⟩) := by show _ = _; rw [dec_small (by omega)]; rfl
  go_enter Tryz.func107, Tryz.ntmps107
  go_wp2
  go_ret
  exact ⟨by rw [HD.out]; rfl, rfl⟩
set_option maxRecDepth 20000 in
theorem digits_4 (w : World) : Calls Tryz.prog 107 #[.int .i64 4] w fun e w' => e = .returned (.string (tx (Lib.decDigits 4))) ∧ w' = w := by
  have HD : Hid (tx (Lib.decDigits 4) = ⟨#[52]⟩) := by show _ = _; rw [dec_small (by omega)]; rfl
  go_enter Tryz.func107, Tryz.ntmps107
  go_wp2
  go_ret
  exact ⟨by rw [HD.out]; rfl, rfl⟩
set_option maxRecDepth 20000 in
theorem digits_5 (w : World) : Calls Tryz.prog 107 #[.int .i64 5] w fun e w' => e = .returned (.string (tx (Lib.decDigits 5))) ∧ w' = w := by
  have HD : Hid (tx (Lib.decDigits 5) = ⟨#[53]⟩) := by show _ = _; rw [dec_small (by omega)]; rfl
  go_enter Tryz.func107, Tryz.ntmps107
  go_wp2
  go_ret
  exact ⟨by rw [HD.out]; rfl, rfl⟩
set_option maxRecDepth 20000 in
theorem digits_6 (w : World) : Calls Tryz.prog 107 #[.int .i64 6] w fun e w' => e = .returned (.string (tx (Lib.decDigits 6))) ∧ w' = w := by
  have HD : Hid (tx (Lib.decDigits 6) = ⟨#[54]⟩) := by show _ = _; rw [dec_small (by omega)]; rfl
  go_enter Tryz.func107, Tryz.ntmps107
  go_wp2
  go_ret
  exact ⟨by rw [HD.out]; rfl, rfl⟩
set_option maxRecDepth 20000 in
theorem digits_7 (w : World) : Calls Tryz.prog 107 #[.int .i64 7] w fun e w' => e = .returned (.string (tx (Lib.decDigits 7))) ∧ w' = w := by
  have HD : Hid (tx (Lib.decDigits 7) = ⟨#[55]⟩) := by show _ = _; rw [dec_small (by omega)]; rfl
  go_enter Tryz.func107, Tryz.ntmps107
  go_wp2
  go_ret
  exact ⟨by rw [HD.out]; rfl, rfl⟩
set_option maxRecDepth 20000 in
theorem digits_8 (w : World) : Calls Tryz.prog 107 #[.int .i64 8] w fun e w' => e = .returned (.string (tx (Lib.decDigits 8))) ∧ w' = w := by
  have HD : Hid (tx (Lib.decDigits 8) = ⟨#[56]⟩) := by show _ = _; rw [dec_small (by omega)]; rfl
  go_enter Tryz.func107, Tryz.ntmps107
  go_wp2
  go_ret
  exact ⟨by rw [HD.out]; rfl, rfl⟩
set_option maxRecDepth 20000 in
theorem digits_9 (w : World) : Calls Tryz.prog 107 #[.int .i64 9] w fun e w' => e = .returned (.string (tx (Lib.decDigits 9))) ∧ w' = w := by
  have HD : Hid (tx (Lib.decDigits 9) = ⟨#[57]⟩) := by show _ = _; rw [dec_small (by omega)]; rfl
  go_enter Tryz.func107, Tryz.ntmps107
  go_wp2
  go_ret
  exact ⟨by rw [HD.out]; rfl, rfl⟩
theorem digits_small (n : Nat) (hn : n < 10) (w : World) : Calls Tryz.prog 107 #[.int .i64 (n : Int)] w fun e w' => e = .returned (.string (tx (Lib.decDigits n))) ∧ w' = w := by
  match n, hn with
  | 0, _ => exact digits_0 w
  | 1, _ => exact digits_1 w
  | 2, _ => exact digits_2 w
  | 3, _ => exact digits_3 w
  | 4, _ => exact digits_4 w
  | 5, _ => exact digits_5 w
  | 6, _ => exact digits_6 w
  | 7, _ => exact digits_7 w
  | 8, _ => exact digits_8 w
  | 9, _ => exact digits_9 w
set_option maxRecDepth 20000 in
set_option maxHeartbeats 4000000 in
theorem digits_ok (n : Nat) : n ≤ 999999999999999999 → ∀ w : World, Calls Tryz.prog 107 #[.int .i64 (n : Int)] w fun e w' => e = .returned (.string (tx (Lib.decDigits n))) ∧ w' = w := by
  induction n using Nat.strongRecOn with
  | _ n ih =>
    intro hmax w
    by_cases hn : n < 10
    · exact digits_small n hn w
    · have i1 := ih (n / 10) (by omega) (by omega) w
      have i2 := digits_small (n % 10) (by omega) w
      have HD : Hid (Lib.decDigits n = Lib.decDigits (n / 10) ++ Lib.decDigits (n % 10)) := by
        show _ = _
        rw [dec_big hn, dec_small (u := n % 10) (by omega)]
      have hl1 := dec_len18 (n / 10) (by omega)
      have hl2 := dec_len18 (n % 10) (by omega)
      obtain ⟨q, hq⟩ : ∃ q, q = n / 10 := ⟨_, rfl⟩
      obtain ⟨r, hr⟩ : ∃ r, r = n % 10 := ⟨_, rfl⟩
      have hq' : (n : Int).tdiv 10 = (q : Int) := by rw [hq, Int.tdiv_eq_ediv_of_nonneg (by omega)]; omega
      have hr' : (n : Int).tmod 10 = (r : Int) := by rw [hr, Int.tmod_eq_emod_of_nonneg (by omega)]; omega
      have hq2 : (n : Int) / 10 = (q : Int) := by omega
      have hr2 : (n : Int) % 10 = (r : Int) := by omega
      rw [← hq] at i1 HD hl1
      rw [← hr] at i2 HD hl2
      generalize Lib.decDigits q = Dq at *
      generalize Lib.decDigits r = Dr at *
      clear hq hr ih
      go_enter Tryz.func107, Tryz.ntmps107
      go_wp2_with fail
      refine i1.mono ?_
      rintro e w1 ⟨rfl, hw1⟩
      rw [hw1]
      clear hw1 i1
      go_wp2_with fail
      refine i2.mono ?_
      rintro e w2 ⟨rfl, hw2⟩
      rw [hw2]
      clear hw2 i2
      go_wp2_with (refine wp_cat rfl _ _ rfl Dq Dr rfl rfl (by omega) ?_)
      go_ret
      exact ⟨by rw [HD.out]; rfl, rfl⟩
end Go.Proofs.YtkbhckjpmgkgjaaGreatDoor
