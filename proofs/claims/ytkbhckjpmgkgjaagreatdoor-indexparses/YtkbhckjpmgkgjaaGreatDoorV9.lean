/- My own work: the walk of mayBe. -/
import Derived.Test.YtkbhckjpmgkgjaaGreatDoorV7
import Derived.Test.YtkbhckjpmgkgjaaGreatDoorVQ
namespace Go.Proofs.YtkbhckjpmgkgjaaGreatDoor
open Go.RowKit

/-- May the k-th number be? -/
def OkN (v : Ver) (k : Nat) : Prop := 0 ≤ nAt v k ∧ nAt v k ≤ 999999999 ∧ (v.cnt ≤ k → nAt v k = 0)
theorem may_all (v : Ver) : May v ↔ (1 ≤ v.cnt ∧ v.cnt ≤ 4) ∧ (vb v.tag = [] ∨ tagB (vb v.tag) = true) ∧ ∀ k, k < 4 → OkN v k := by
  constructor
  · intro h
    refine ⟨h.cnt, h.tag, fun k hk => ?_⟩
    match k, hk with
    | 0, _ => exact h.n0
    | 1, _ => exact h.n1
    | 2, _ => exact h.n2
    | 3, _ => exact h.n3
  · rintro ⟨h1, h2, h3⟩
    exact ⟨h1, h2, h3 0 (by omega), h3 1 (by omega), h3 2 (by omega), h3 3 (by omega)⟩
theorem mayV_no {v : Ver} (h : ¬ May v) : mayV v = false := by
  cases e : mayV v with
  | false => rfl
  | true => exact absurd ((mayV_iff v).1 e) h
theorem may_no {v : Ver} (hM : May v ↔ (1 ≤ v.cnt ∧ v.cnt ≤ 4) ∧ (vb v.tag = [] ∨ tagB (vb v.tag) = true) ∧ ∀ k, k < 4 → OkN v k) {k : Nat} (hk : k < 4) (h : ¬ OkN v k) : mayV v = false := mayV_no fun e => h ((hM.1 e).2.2 k hk)
abbrev boxW (w : World) (v : Ver) : World := w.alloc (.cells (verC v) 112)
set_option maxRecDepth 20000 in
set_option maxHeartbeats 8000000 in
theorem mayBe_ok (v : Ver) (w : World) : Calls Tryz.prog 95 #[verV v] w fun e w' => e = .returned (.bool (mayV v)) ∧ w' = boxW w v := by
  have hA : Row (boxW w v) w.heap.size (verC v) 112 := Row.new w (verC v) 112
  obtain ⟨w1, hw1⟩ : ∃ x, x = boxW w v := ⟨_, rfl⟩
  have hw1' := hw1.symm
  rw [← hw1] at hA ⊢
  clear hw1
  have a0 : w1.cell? ⟨w.heap.size, 0, none⟩ = some (.int .i64 v.n0) := (hA.cell 0).trans rfl
  have a1 : w1.cell? ⟨w.heap.size, 1, none⟩ = some (.int .i64 v.n1) := (hA.cell 1).trans rfl
  have a2 : w1.cell? ⟨w.heap.size, 2, none⟩ = some (.int .i64 v.n2) := (hA.cell 2).trans rfl
  have a3 : w1.cell? ⟨w.heap.size, 3, none⟩ = some (.int .i64 v.n3) := (hA.cell 3).trans rfl
  have a4 : w1.cell? ⟨w.heap.size, 4, none⟩ = some (.int .i64 v.cnt) := (hA.cell 4).trans rfl
  have a5 : w1.cell? ⟨w.heap.size, 5, none⟩ = some (.string v.tag) := (hA.cell 5).trans rfl
  have HM : Hid (May v ↔ (1 ≤ v.cnt ∧ v.cnt ≤ 4) ∧ (vb v.tag = [] ∨ tagB (vb v.tag) = true) ∧ ∀ k, k < 4 → OkN v k) := may_all v
  have HW : Hid (∀ (x a b : Int) wx, Calls Tryz.prog 109 #[.int .i64 x, .int .i64 a, .int .i64 b] wx fun e w' => e = .returned (.bool (decide (a ≤ x) && decide (x ≤ b))) ∧ w' = wx) := fun x a b wx => withinI x a b wx
  have hwc := withinI v.cnt 1 4 w1
  have hI := isTag_ok v.tag w1
  by_cases hc : 1 ≤ v.cnt ∧ v.cnt ≤ 4
  · rw [show (decide ((1 : Int) ≤ v.cnt) && decide (v.cnt ≤ 4)) = true by simp; omega] at hwc
    have HC : Hid (1 ≤ v.cnt ∧ v.cnt ≤ 4) := hc
    by_cases ht : vb v.tag = []
    · have HT : Hid (vb v.tag = [] ∨ tagB (vb v.tag) = true) := Or.inl ht
      have htg : v.tag.toList = [] := by rw [ByteArray.toList_eq]; exact ht
      have htg2 : v.tag.toList.isEmpty = true := by rw [htg]; rfl
      clear ht hI
      go_enter Tryz.func95, Tryz.ntmps95
      go_wp2_with (go_at_call 109; refine hwc.mono ?_; rintro e w9 ⟨rfl, hw9⟩; rw [hw9]; clear hw9)
      go_loopw [22] (fun i wr => ∃ k : Nat, k ≤ 4 ∧ i = .int .i64 k ∧ wr = w1 ∧ ∀ j, j < k → OkN v j) (fun i _ => 4 - (intOf i).toNat)
      case atStart => exact ⟨0, Nat.zero_le _, rfl, rfl, fun j h => absurd h (Nat.not_lt_zero _)⟩
      case round =>
        obtain ⟨k, hk, rfl, hwr, hall⟩ := hrel
        subst hwr
        have HAl : Hid (∀ j, j < k → OkN v j) := hall
        clear hall
        by_cases hlt : k < 4
        · have hlt' : (k : Int) < 4 := by omega
          have HX : Hid (∀ x, x = nAt v k → (OkN v k ↔ 0 ≤ x ∧ x ≤ 999999999 ∧ (v.cnt ≤ k → x = 0))) := fun x hx => by rw [hx]; exact Iff.rfl
          obtain ⟨x, hx⟩ : ∃ x, x = nAt v k := ⟨_, rfl⟩
          have HX2 := HX.out x hx
          have hx' := hx.symm
          have hwi := HW.out x 0 999999999 wr
          by_cases h1 : 0 ≤ x ∧ x ≤ 999999999
          · rw [show (decide ((0 : Int) ≤ x) && decide (x ≤ 999999999)) = true by simp; omega] at hwi
            by_cases h2 : v.cnt ≤ (k : Int)
            · by_cases h3 : x = 0
              · have HO : Hid (OkN v k) := HX2.2 ⟨h1.1, h1.2, fun _ => h3⟩
                subst h3
                clear HX HX2 hx h1
                go_wp2_with (first | (refine wp_idx v k hlt rfl _ _ rfl rfl rfl ?_; rw [hx']) | (go_at_call 109; refine hwi.mono ?_; rintro e w9 ⟨rfl, hw9⟩; rw [hw9]; clear hw9))
                go_roundw
                case rel => exact ⟨k + 1, by omega, by go_num, trivial, fun j hj => by
                  by_cases e : j = k
                  · subst e; exact HO.out
                  · exact HAl.out j (by omega)⟩
                case measure => simp [intOf]; omega
              · have HN : Hid (mayV v = false) := may_no HM.out hlt (fun h => h3 ((HX2.1 h).2.2 h2))
                have h3b : (x == 0) = false := by simpa using h3
                clear HX HX2 hx h1 h3
                go_wp2_with (first | (refine wp_idx v k hlt rfl _ _ rfl rfl rfl ?_; rw [hx']) | (go_at_call 109; refine hwi.mono ?_; rintro e w9 ⟨rfl, hw9⟩; rw [hw9]; clear hw9))
                go_ret
                exact ⟨by rw [HN.out]; rfl, rfl⟩
            · have HO : Hid (OkN v k) := HX2.2 ⟨h1.1, h1.2, fun h => absurd h h2⟩
              clear HX HX2 hx h1
              go_wp2_with (first | (refine wp_idx v k hlt rfl _ _ rfl rfl rfl ?_; rw [hx']) | (go_at_call 109; refine hwi.mono ?_; rintro e w9 ⟨rfl, hw9⟩; rw [hw9]; clear hw9))
              go_roundw
              case rel => exact ⟨k + 1, by omega, by go_num, trivial, fun j hj => by
                by_cases e : j = k
                · subst e; exact HO.out
                · exact HAl.out j (by omega)⟩
              case measure => simp [intOf]; omega
          · rw [show (decide ((0 : Int) ≤ x) && decide (x ≤ 999999999)) = false by simp; omega] at hwi
            have HN : Hid (mayV v = false) := may_no HM.out hlt (fun h => h1 ⟨(HX2.1 h).1, (HX2.1 h).2.1⟩)
            clear HX HX2 hx h1
            go_wp2_with (first | (refine wp_idx v k hlt rfl _ _ rfl rfl rfl ?_; rw [hx']) | (go_at_call 109; refine hwi.mono ?_; rintro e w9 ⟨rfl, hw9⟩; rw [hw9]; clear hw9))
            go_ret
            exact ⟨by rw [HN.out]; rfl, rfl⟩
        · have hlt' : ¬ (k : Int) < 4 := by omega
          have HY : Hid (mayV v = true) := (mayV_iff v).2 (HM.out.2 ⟨HC.out, HT.out, fun j hj => HAl.out j (by omega)⟩)
          go_wp2
          go_ret
          exact ⟨by rw [HY.out]; rfl, rfl⟩
    · have f1 := vEq_nil' ht
      have f2 := vEq_nil ht
      cases htg : tagB (vb v.tag) with
      | true =>
        have HT : Hid (vb v.tag = [] ∨ tagB (vb v.tag) = true) := Or.inr htg
        rw [htg] at hI
        clear ht htg
        go_enter Tryz.func95, Tryz.ntmps95
        go_wp2_with (first | (go_at_call 109; refine hwc.mono ?_; rintro e w9 ⟨rfl, hw9⟩; rw [hw9]; clear hw9) | (go_at_call 83; refine hI.mono ?_; rintro e w9 ⟨rfl, hw9⟩; rw [hw9]; clear hw9))
        go_loopw [22] (fun i wr => ∃ k : Nat, k ≤ 4 ∧ i = .int .i64 k ∧ wr = w1 ∧ ∀ j, j < k → OkN v j) (fun i _ => 4 - (intOf i).toNat)
        case atStart => exact ⟨0, Nat.zero_le _, rfl, rfl, fun j h => absurd h (Nat.not_lt_zero _)⟩
        case round =>
          obtain ⟨k, hk, rfl, hwr, hall⟩ := hrel
          subst hwr
          have HAl : Hid (∀ j, j < k → OkN v j) := hall
          clear hall
          by_cases hlt : k < 4
          · have hlt' : (k : Int) < 4 := by omega
            have HX : Hid (∀ x, x = nAt v k → (OkN v k ↔ 0 ≤ x ∧ x ≤ 999999999 ∧ (v.cnt ≤ k → x = 0))) := fun x hx => by rw [hx]; exact Iff.rfl
            obtain ⟨x, hx⟩ : ∃ x, x = nAt v k := ⟨_, rfl⟩
            have HX2 := HX.out x hx
            have hx' := hx.symm
            have hwi := HW.out x 0 999999999 wr
            by_cases h1 : 0 ≤ x ∧ x ≤ 999999999
            · rw [show (decide ((0 : Int) ≤ x) && decide (x ≤ 999999999)) = true by simp; omega] at hwi
              by_cases h2 : v.cnt ≤ (k : Int)
              · by_cases h3 : x = 0
                · have HO : Hid (OkN v k) := HX2.2 ⟨h1.1, h1.2, fun _ => h3⟩
                  subst h3
                  clear HX HX2 hx h1
                  go_wp2_with (first | (refine wp_idx v k hlt rfl _ _ rfl rfl rfl ?_; rw [hx']) | (go_at_call 109; refine hwi.mono ?_; rintro e w9 ⟨rfl, hw9⟩; rw [hw9]; clear hw9))
                  go_roundw
                  case rel => exact ⟨k + 1, by omega, by go_num, trivial, fun j hj => by
                    by_cases e : j = k
                    · subst e; exact HO.out
                    · exact HAl.out j (by omega)⟩
                  case measure => simp [intOf]; omega
                · have HN : Hid (mayV v = false) := may_no HM.out hlt (fun h => h3 ((HX2.1 h).2.2 h2))
                  have h3b : (x == 0) = false := by simpa using h3
                  clear HX HX2 hx h1 h3
                  go_wp2_with (first | (refine wp_idx v k hlt rfl _ _ rfl rfl rfl ?_; rw [hx']) | (go_at_call 109; refine hwi.mono ?_; rintro e w9 ⟨rfl, hw9⟩; rw [hw9]; clear hw9))
                  go_ret
                  exact ⟨by rw [HN.out]; rfl, rfl⟩
              · have HO : Hid (OkN v k) := HX2.2 ⟨h1.1, h1.2, fun h => absurd h h2⟩
                clear HX HX2 hx h1
                go_wp2_with (first | (refine wp_idx v k hlt rfl _ _ rfl rfl rfl ?_; rw [hx']) | (go_at_call 109; refine hwi.mono ?_; rintro e w9 ⟨rfl, hw9⟩; rw [hw9]; clear hw9))
                go_roundw
                case rel => exact ⟨k + 1, by omega, by go_num, trivial, fun j hj => by
                  by_cases e : j = k
                  · subst e; exact HO.out
                  · exact HAl.out j (by omega)⟩
                case measure => simp [intOf]; omega
            · rw [show (decide ((0 : Int) ≤ x) && decide (x ≤ 999999999)) = false by simp; omega] at hwi
              have HN : Hid (mayV v = false) := may_no HM.out hlt (fun h => h1 ⟨(HX2.1 h).1, (HX2.1 h).2.1⟩)
              clear HX HX2 hx h1
              go_wp2_with (first | (refine wp_idx v k hlt rfl _ _ rfl rfl rfl ?_; rw [hx']) | (go_at_call 109; refine hwi.mono ?_; rintro e w9 ⟨rfl, hw9⟩; rw [hw9]; clear hw9))
              go_ret
              exact ⟨by rw [HN.out]; rfl, rfl⟩
          · have hlt' : ¬ (k : Int) < 4 := by omega
            have HY : Hid (mayV v = true) := (mayV_iff v).2 (HM.out.2 ⟨HC.out, HT.out, fun j hj => HAl.out j (by omega)⟩)
            go_wp2
            go_ret
            exact ⟨by rw [HY.out]; rfl, rfl⟩
      | false =>
        have HN : Hid (mayV v = false) := mayV_no fun e => by
          rcases (HM.out.1 e).2.1 with k | k
          · exact ht k
          · rw [htg] at k; cases k
        rw [htg] at hI
        clear ht htg
        go_enter Tryz.func95, Tryz.ntmps95
        go_wp2_with (first | (go_at_call 109; refine hwc.mono ?_; rintro e w9 ⟨rfl, hw9⟩; rw [hw9]; clear hw9) | (go_at_call 83; refine hI.mono ?_; rintro e w9 ⟨rfl, hw9⟩; rw [hw9]; clear hw9))
        go_ret
        exact ⟨by rw [HN.out]; rfl, rfl⟩
  · rw [show (decide ((1 : Int) ≤ v.cnt) && decide (v.cnt ≤ 4)) = false by simp; omega] at hwc
    have HN : Hid (mayV v = false) := mayV_no fun e => hc (HM.out.1 e).1
    go_enter Tryz.func95, Tryz.ntmps95
    go_wp2_with (go_at_call 109; refine hwc.mono ?_; rintro e w9 ⟨rfl, hw9⟩; rw [hw9]; clear hw9)
    go_ret
    exact ⟨by rw [HN.out]; rfl, rfl⟩
end Go.Proofs.YtkbhckjpmgkgjaaGreatDoor
