/- My own work: the document's own May and Text. -/
import Derived.Test.YtkbhckjpmgkgjaaGreatDoorR1
namespace Go.Proofs.YtkbhckjpmgkgjaaGreatDoor
open Go.RowKit

abbrev boxR (w : World) (v : Ver) : World := w.alloc (.cells (verC v) 104)
theorem infoRs : (Tryz.prog.info? 104).map (·.size) = some 6 := by kernel_rfl
set_option maxRecDepth 20000 in
set_option maxHeartbeats 8000000 in
theorem refMay_ok (v : Ver) (w : World) (hs : v.tag.size ≤ 140737488355328) : Calls Tryz.prog 106 #[verV v] w fun e w' => e = .returned (.bool (mayV v)) ∧ w' = boxR w v := by
  have hA : Row (boxR w v) w.heap.size (verC v) 104 := Row.new w (verC v) 104
  obtain ⟨w1, hw1⟩ : ∃ x, x = boxR w v := ⟨_, rfl⟩
  have hw1' := hw1.symm
  rw [← hw1] at hA ⊢
  clear hw1
  have a4 : w1.cell? ⟨w.heap.size, 4, none⟩ = some (.int .i64 v.cnt) := (hA.cell 4).trans rfl
  have a5 : w1.cell? ⟨w.heap.size, 5, none⟩ = some (.string v.tag) := (hA.cell 5).trans rfl
  have HA : Hid (∀ k, k < 4 → w1.cell? ⟨w.heap.size, k, none⟩ = some (.int .i64 (nAt v k))) := fun k hk => by
    rw [hA.cell k]
    match k, hk with
    | 0, _ => rfl
    | 1, _ => rfl
    | 2, _ => rfl
    | 3, _ => rfl
  have HM : Hid (May v ↔ (1 ≤ v.cnt ∧ v.cnt ≤ 4) ∧ (vb v.tag = [] ∨ tagB (vb v.tag) = true) ∧ ∀ k, k < 4 → OkN v k) := may_all v
  have hT := refTag_ok v.tag w1 hs
  have hTi := tagRB_iff (vb v.tag)
  by_cases hc1 : v.cnt < 1
  · have HN : Hid (mayV v = false) := mayV_no fun e => by have := (HM.out.1 e).1; omega
    clear hTi hA
    go_enter Tryz.func106, Tryz.ntmps106
    go_wp2
    go_ret
    exact ⟨by rw [HN.out]; rfl, rfl⟩
  · by_cases hc2 : 4 < v.cnt
    · have HN : Hid (mayV v = false) := mayV_no fun e => by have := (HM.out.1 e).1; omega
      clear hTi hA
      go_enter Tryz.func106, Tryz.ntmps106
      go_wp2
      go_ret
      exact ⟨by rw [HN.out]; rfl, rfl⟩
    · cases ht : tagRB (vb v.tag) with
      | false =>
        have HN : Hid (mayV v = false) := mayV_no fun e => by
          have := hTi.2 (HM.out.1 e).2.1
          rw [ht] at this
          cases this
        rw [ht] at hT
        clear hTi hA ht
        go_enter Tryz.func106, Tryz.ntmps106
        go_wp2_with (go_at_call 138; refine hT.mono ?_; rintro e w9 ⟨rfl, hw9⟩; rw [hw9]; clear hw9)
        go_ret
        exact ⟨by rw [HN.out]; rfl, rfl⟩
      | true =>
        have HC : Hid (1 ≤ v.cnt ∧ v.cnt ≤ 4) := ⟨by omega, by omega⟩
        have HT : Hid (vb v.tag = [] ∨ tagB (vb v.tag) = true) := hTi.1 ht
        rw [ht] at hT
        clear hTi hA ht
        go_enter Tryz.func106, Tryz.ntmps106
        go_wp2_with (go_at_call 138; refine hT.mono ?_; rintro e w9 ⟨rfl, hw9⟩; rw [hw9]; clear hw9)
        clear hT a5
        go_loopw [3] (fun i wr => ∃ k : Nat, k ≤ 4 ∧ i = .int .i64 k ∧ wr = w1 ∧ ∀ j, j < k → OkN v j) (fun i _ => 4 - (intOf i).toNat)
        case atStart => exact ⟨0, Nat.zero_le _, rfl, rfl, fun j h => absurd h (Nat.not_lt_zero _)⟩
        case round =>
          obtain ⟨k, hk, rfl, hwr, hall⟩ := hrel
          subst hwr
          have HAl : Hid (∀ j, j < k → OkN v j) := hall
          clear hall
          by_cases hlt : k < 4
          · have hlt' : (k : Int) < 4 := by omega
            have HX : Hid (∀ x, x = nAt v k → (OkN v k ↔ 0 ≤ x ∧ x ≤ 999999999 ∧ (v.cnt ≤ k → x = 0))) := fun x hx => by rw [hx]; exact Iff.rfl
            have hcl := HA.out k hlt
            obtain ⟨x, hx⟩ : ∃ x, x = nAt v k := ⟨_, rfl⟩
            have HX2 := HX.out x hx
            rw [← hx] at hcl
            clear hx HX
            by_cases h0 : x < 0
            · have HN : Hid (mayV v = false) := may_no HM.out hlt (fun h => by have := (HX2.1 h).1; omega)
              clear HX2
              go_wp2
              go_ret
              exact ⟨by rw [HN.out]; rfl, rfl⟩
            · by_cases h1 : 999999999 < x
              · have HN : Hid (mayV v = false) := may_no HM.out hlt (fun h => by have := (HX2.1 h).2.1; omega)
                clear HX2
                go_wp2
                go_ret
                exact ⟨by rw [HN.out]; rfl, rfl⟩
              · by_cases h2 : v.cnt ≤ (k : Int)
                · by_cases h3 : x = 0
                  · have HO : Hid (OkN v k) := HX2.2 ⟨by omega, by omega, fun _ => h3⟩
                    subst h3
                    clear HX2
                    go_wp2
                    go_roundw
                    case rel => exact ⟨k + 1, by omega, by go_num, trivial, fun j hj => by
                      by_cases e : j = k
                      · subst e; exact HO.out
                      · exact HAl.out j (by omega)⟩
                    case measure => simp [intOf]; omega
                  · have HN : Hid (mayV v = false) := may_no HM.out hlt (fun h => h3 ((HX2.1 h).2.2 h2))
                    have h3b : (x == 0) = false := by simpa using h3
                    clear HX2 h3
                    go_wp2
                    go_ret
                    exact ⟨by rw [HN.out]; rfl, rfl⟩
                · have HO : Hid (OkN v k) := HX2.2 ⟨by omega, by omega, fun h => absurd h h2⟩
                  clear HX2
                  go_wp2
                  go_roundw
                  case rel => exact ⟨k + 1, by omega, by go_num, trivial, fun j hj => by
                    by_cases e : j = k
                    · subst e; exact HO.out
                    · exact HAl.out j (by omega)⟩
                  case measure => simp [intOf]; omega
          · have hlt' : ¬ (k : Int) < 4 := by omega
            have HY : Hid (mayV v = true) := (mayV_iff v).2 (HM.out.2 ⟨HC.out, HT.out, fun j hj => HAl.out j (by omega)⟩)
            go_wp2
            go_ret
            exact ⟨by rw [HY.out]; rfl, rfl⟩
theorem joinP_snoc (L : List By) (x : By) (h : L ≠ []) : joinP (L ++ [x]) = (joinP L ++ [46]) ++ x := by
  induction L with
  | nil => exact absurd rfl h
  | cons y r ih =>
    cases r with
    | nil => show y ++ 46 :: x = (y ++ [46]) ++ x; simp
    | cons z r =>
      show y ++ 46 :: joinP ((z :: r) ++ [x]) = ((y ++ 46 :: joinP (z :: r)) ++ [46]) ++ x
      rw [ih (by simp)]
      simp
/-- The first k numbers, with points between. -/
def headP (v : Ver) (k : Nat) : By := joinP ((List.range k).map fun j => Lib.itoa (nAt v j))
theorem headP_one (v : Ver) : headP v 1 = Lib.itoa (nAt v 0) := rfl
theorem headP_more (v : Ver) (k : Nat) (hk : 1 ≤ k) : headP v (k + 1) = (headP v k ++ [46]) ++ Lib.itoa (nAt v k) := by
  unfold headP
  rw [List.range_succ, List.map_append]
  exact joinP_snoc _ _ (fun e => by have := congrArg List.length e; simp at this; omega)
theorem headP_len (v : Ver) (k : Nat) (hk : k ≤ 4) (h : May v) : (headP v k).length ≤ 40 := by
  have h1 := join_len ((List.range k).map fun j => Lib.itoa (nAt v j)) (fun x hx => by
    obtain ⟨j, hj, rfl⟩ := List.mem_map.1 hx
    have hj4 : j < 4 := by have := List.mem_range.1 hj; omega
    obtain ⟨h2, h3, _⟩ := ((may_all v).1 h).2.2 j hj4
    obtain ⟨u, hu⟩ := Int.eq_ofNat_of_zero_le h2
    rw [hu, itoa_nat]
    exact dec_len 8 u (by omega))
  rw [List.length_map, List.length_range] at h1
  unfold headP
  omega
theorem refDig_ok (v : Ver) (k : Nat) (hk : k < 4) (h : May v) (w : World) : Calls Tryz.prog 107 #[.int .i64 (nAt v k)] w fun e w' => e = .returned (.string (tx (Lib.itoa (nAt v k)))) ∧ w' = w := by
  obtain ⟨h2, h3, _⟩ := ((may_all v).1 h).2.2 k hk
  obtain ⟨u, hu⟩ := Int.eq_ofNat_of_zero_le h2
  rw [hu, itoa_nat]
  exact digits_ok u (by omega) w
set_option maxRecDepth 20000 in
set_option maxHeartbeats 8000000 in
theorem refText_ok (v : Ver) (w : World) (hs : v.tag.size ≤ 140737488355328) : Calls Tryz.prog 78 #[verV v] w fun e w' => e = .returned (textE v) ∧ Below w.heap.size w w' := by
  have hA : Row (boxR w v) w.heap.size (verC v) 104 := Row.new w (verC v) 104
  have hb1 : Below w.heap.size w (boxR w v) := (Below.refl _ _).alloc (Nat.le_refl _) _
  obtain ⟨w1, hw1⟩ : ∃ x, x = boxR w v := ⟨_, rfl⟩
  have hw1' := hw1.symm
  rw [← hw1] at hA hb1
  have hM := refMay_ok v w1 hs
  have hb2 : Below w1.heap.size w1 (boxR w1 v) := (Below.refl _ _).alloc (Nat.le_refl _) _
  obtain ⟨w2, hw2⟩ : ∃ x, x = boxR w1 v := ⟨_, rfl⟩
  rw [← hw2] at hM hb2
  have hA2 := hA.below hb2 hA.lt
  have HB : Hid (Below w.heap.size w w2) := hb1.trans (hb2.mono hb1.size)
  clear hb1 hb2 hw1 hw2
  cases hm : mayV v with
  | false =>
    have HE : Hid _ := textE_no hm
    rw [hm] at hM
    go_enter Tryz.func78, Tryz.ntmps78
    go_wp2_with (first | (go_at_call 106; refine hM.mono ?_; rintro e w9 ⟨rfl, hw9⟩; rw [hw9]; clear hw9) | refine wpList_load_row rfl 104 _ rfl w.heap.size rfl 104 (verC v) (0, 0) _ hA Tryz.underlying104 rfl infoRs ?_)
    go_ret2
    exact ⟨by rw [HE.out]; rfl, HB.out⟩
  | true =>
    have HE : Hid _ := textE_yes hm
    rw [hm] at hM
    have hmay := (mayV_iff v).1 hm
    have HMay : Hid (May v) := hmay
    obtain ⟨c, hc⟩ : ∃ c : Nat, v.cnt = (c : Int) := ⟨v.cnt.toNat, by have := hmay.cnt; omega⟩
    have hc4 : 1 ≤ c ∧ c ≤ 4 := by have := hmay.cnt; omega
    have a0 : w2.cell? ⟨w.heap.size, 0, none⟩ = some (.int .i64 (nAt v 0)) := (hA2.cell 0).trans rfl
    have a4 : w2.cell? ⟨w.heap.size, 4, none⟩ = some (.int .i64 (c : Int)) := (hA2.cell 4).trans (by show some (Value.int .i64 v.cnt) = _; rw [hc])
    have a5 : w2.cell? ⟨w.heap.size, 5, none⟩ = some (.string v.tag) := (hA2.cell 5).trans rfl
    have HA : Hid (∀ k, k < 4 → w2.cell? ⟨w.heap.size, k, none⟩ = some (.int .i64 (nAt v k))) := fun k hk => by
      rw [hA2.cell k]
      match k, hk with
      | 0, _ => rfl
      | 1, _ => rfl
      | 2, _ => rfl
      | 3, _ => rfl
    have HH : Hid (headP v c = joinP (partsV v)) := by show _ = _; unfold headP; rw [parts_list hc hc4.2]
    have hd0 := refDig_ok v 0 (by omega) hmay w2
    rw [← headP_one] at hd0
    clear hm hmay hc hA2
    go_enter Tryz.func78, Tryz.ntmps78
    go_wp2_with (first | (go_at_call 106; refine hM.mono ?_; rintro e w9 ⟨rfl, hw9⟩; rw [hw9]; clear hw9) | (go_at_call 107; refine hd0.mono ?_; rintro e w9 ⟨rfl, hw9⟩; rw [hw9]; clear hw9) | refine wpList_load_row rfl 104 _ rfl w.heap.size rfl 104 (verC v) (0, 0) _ hA Tryz.underlying104 rfl infoRs ?_)
    clear hM hA hd0 hw1' a0
    go_loopw [4, 5] (fun t i wr => ∃ k : Nat, 1 ≤ k ∧ k ≤ c ∧ i = .int .i64 k ∧ t = .string (tx (headP v k)) ∧ wr = w2) (fun _ i _ => c - (intOf i).toNat)
    case atStart => exact ⟨1, Nat.le_refl _, hc4.1, rfl, rfl, rfl⟩
    case round =>
      obtain ⟨k, hk1, hk2, rfl, rfl, hwr⟩ := hrel
      subst hwr
      by_cases hlt : k < c
      · have hlt' : (k : Int) < (c : Int) := by omega
        have hcl := HA.out k (by omega)
        have hd := refDig_ok v k (by omega) HMay.out wr
        have hl1 := headP_len v k (by omega) HMay.out
        have hl2 := headP_len v (k + 1) (by omega) HMay.out
        have HP : Hid _ := headP_more v k hk1
        rw [HP.out, List.length_append, List.length_append] at hl2
        generalize headP v k = P at *
        generalize Lib.itoa (nAt v k) = D at *
        have hl3 : P.length + 1 ≤ 9223372036854775807 := by omega
        have hl4 : (P ++ [46]).length + D.length ≤ 9223372036854775807 := by rw [List.length_append]; omega
        clear hl1 hl2
        go_wp2_with (first | refine wp_cat rfl _ _ rfl P [46] rfl rfl hl3 ?_ | refine wp_cat rfl _ _ rfl (P ++ [46]) D rfl rfl hl4 ?_ | (go_at_call 107; refine hd.mono ?_; rintro e w9 ⟨rfl, hw9⟩; rw [hw9]; clear hw9))
        go_roundw
        case rel => exact ⟨k + 1, by omega, by omega, by go_num, by rw [HP.out, List.append_assoc]; rfl, trivial⟩
        case measure => simp [intOf]; omega
      · have hlt' : ¬ (k : Int) < (c : Int) := by omega
        obtain rfl : k = c := by omega
        have hJl := headP_len v k (by omega) HMay.out
        have htag := HMay.out.tag
        obtain ⟨J, hJ⟩ : ∃ J, J = headP v k := ⟨_, rfl⟩
        have HJ : Hid (J = joinP (partsV v)) := by show _ = _; rw [hJ, HH.out]
        rw [← hJ] at hJl
        rw [← hJ]
        clear hJ
        by_cases ht : vb v.tag = []
        · have e1 : v.tag.toList = [] := by rw [ByteArray.toList_eq]; exact ht
          have HV : Hid (textV v = J) := by show _ = _; unfold textV tagT; rw [if_pos ht, List.append_nil, HJ.out]
          clear ht htag
          go_wp2
          go_ret2
          exact ⟨by rw [HE.out, HV.out]; rfl, HB.out⟩
        · have f1 := vEq_nil' ht
          have f2 := vEq_nil ht
          have HV : Hid (textV v = J ++ 45 :: vb v.tag) := by show _ = _; unfold textV tagT; rw [if_neg ht, HJ.out]
          have hl : (vb v.tag).length ≤ 12 := by
            rcases htag with h | h
            · exact absurd h ht
            · unfold tagB at h
              rw [Bool.and_eq_true, decide_eq_true_eq] at h
              exact h.1.2
          have hl3 : J.length + 1 ≤ 9223372036854775807 := by omega
          have hl4 : (J ++ [45]).length + (vb v.tag).length ≤ 9223372036854775807 := by rw [List.length_append]; show J.length + 1 + _ ≤ _; omega
          clear ht htag
          go_wp2_with (first | refine wp_cat rfl _ _ rfl J [45] rfl rfl hl3 ?_ | refine wp_cat rfl _ _ rfl (J ++ [45]) (vb v.tag) rfl (by rw [tx_vb]; rfl) hl4 ?_)
          go_ret2
          exact ⟨by rw [HE.out, HV.out]; rfl, HB.out⟩
end Go.Proofs.YtkbhckjpmgkgjaaGreatDoor
