/- My own work: the walks of rises, and of the keys. -/
import Derived.Test.YtmpgfepkdhjibaaDoorDv
import Derived.Test.YtmpgfepkdhjibaaDoorPermA
namespace Go.Proofs.YtmpgfepkdhjibaaDoor
open Go.RowKit

theorem strKey_ok (x : ByteArray) (w : World) : Calls Tryd.prog 44 #[.string x] w fun e w' => e = .returned (.string x) ∧ Below w.heap.size w w' := by
  go_enter Tryd.func44, Tryd.ntmps44
  go_wp2
  go_ret
  exact ⟨rfl, Below.refl _ _⟩
theorem outKey_ok (x : ByteArray) (v1 v2 : Value) (w : World) : Calls Tryd.prog 46 #[.agg #[.string x, v1, v2]] w fun e w' => e = .returned (.string x) ∧ Below w.heap.size w w' := by
  have c0 : (w.alloc (.cells #[.string x, v1, v2] 46)).cell? ⟨w.heap.size, 0, none⟩ = some (.string x) := (Row.new w _ _).cell 0
  go_enter Tryd.func46, Tryd.ntmps46
  go_wp2
  go_ret
  exact ⟨rfl, below_new (Below.refl _ _) _⟩
theorem inKey_ok (x : ByteArray) (v1 : Value) (w : World) : Calls Tryd.prog 48 #[.agg #[.string x, v1]] w fun e w' => e = .returned (.string x) ∧ Below w.heap.size w w' := by
  have c0 : (w.alloc (.cells #[.string x, v1] 52)).cell? ⟨w.heap.size, 0, none⟩ = some (.string x) := (Row.new w _ _).cell 0
  go_enter Tryd.func48, Tryd.ntmps48
  go_wp2
  go_ret
  exact ⟨rfl, below_new (Below.refl _ _) _⟩
theorem pairKey_ok (x : ByteArray) (v1 : Value) (w : World) : Calls Tryd.prog 50 #[.agg #[.string x, v1]] w fun e w' => e = .returned (.string x) ∧ Below w.heap.size w w' := by
  have c0 : (w.alloc (.cells #[.string x, v1] 60)).cell? ⟨w.heap.size, 0, none⟩ = some (.string x) := (Row.new w _ _).cell 0
  go_enter Tryd.func50, Tryd.ntmps50
  go_wp2
  go_ret
  exact ⟨rfl, below_new (Below.refl _ _) _⟩
set_option maxRecDepth 20000 in
set_option maxHeartbeats 2000000 in
theorem strRises_ok (l : List ByteArray) (v : Value) (w : World) (h : SlAt w v l.length (strV l)) : Calls Tryd.prog 43 #[v, .func (.func 44) #[] #[]] w fun e w' => e = .returned (.bool (risesB l)) ∧ Below w.heap.size w w' := by
  obtain ⟨a, c, b, off, rfl, hc1, hc2, hat, hcell⟩ := h.ex
  by_cases hl : l = []
  · subst hl
    have hr : risesB ([] : List ByteArray) = true := rfl
    rw [hr]
    go_enter Tryd.func43, Tryd.ntmps43
    go_wp2
    refine wp_loop_rounds 1 ?_
    rw [rounds_succ]
    go_wp2
    go_ret
    exact ⟨rfl, Below.refl _ _⟩
  have hpos : 0 < l.length := List.length_pos_iff.2 hl
  obtain rfl := hat (by intro e; have := strV_len l; rw [e] at this; simp at this; omega)
  have HCell : Hid (∀ wx, Below w.heap.size w wx → ∀ i (hi : i < l.length), wx.cell? ⟨b, off + i, none⟩ = some (.string l[i])) := fun wx hb i hi => by
    have h3 := strV_at l i hi
    have kk : ∀ j x, (strV l)[j]? = some x → wx.cell? ⟨b, off + j, none⟩ = some x := fun j x hx => by
      have hc := hcell j x hx
      exact (World.cell?_of_block (w := w) (hb.block b (World.block_lt_of_cell? w _ hc))).trans hc
    exact kk _ _ h3
  have HK1 : Hid (∀ wx i (hi : i < l.length), Calls Tryd.prog 44 #[.string l[i]] wx fun e w' => e = .returned (.string (l.getD i ⟨#[]⟩)) ∧ Below wx.heap.size wx w') := fun wx i hi => by
    have e : l.getD i ⟨#[]⟩ = l[i] := by simp [List.getD, hi]
    rw [e]
    exact strKey_ok l[i] wx
  clear hcell h hat
  go_enter Tryd.func43, Tryd.ntmps43
  go_wp2
  go_loopw [5] (fun iv wx => ∃ (i : Nat), iv = .int .i64 i ∧ 0 < i ∧ i ≤ l.length + 1 ∧ Hid (∀ j, 0 < j → j < i → j < l.length → leB (l.getD j ⟨#[]⟩) (l.getD (j - 1) ⟨#[]⟩) = false) ∧ Hid (Below w.heap.size w wx)) (fun iv _ => l.length - (intOf iv).toNat)
  case atStart => exact ⟨1, rfl, by omega, by omega, fun j h1 h2 _ => by omega, Below.refl _ _⟩
  case round =>
    obtain ⟨i, rfl, hi0, hi1, HO, HB⟩ := hrel
    by_cases hlt : i < l.length
    · have hlt' : (i : Int) < (l.length : Int) := by omega
      obtain ⟨m, hm0⟩ : ∃ m, m = i - 1 := ⟨_, rfl⟩
      have hm : (i : Int) - 1 = (m : Int) := by omega
      have hlm : m < l.length := by omega
      have hlm' : (m : Int) < (l.length : Int) := by omega
      have hwm : IntKind.i64.wrap (m : Int) = m := by rw [IntKind.wrap_i64]; omega
      have HM0 : Hid (m = i - 1) := hm0
      clear hm0
      have hBd : Below w.heap.size w wr.drew := HB.out.drew
      go_wp2_with fail
      refine wp_region_permA [(false, 0), (false, 1), (false, 2), (false, 3), (false, 4), (false, 6), (false, 7), (false, 8), (false, 9), (false, 10), (false, 11), (true, 5), (true, 12), (false, 13)] (fun wx => Below w.heap.size w wx) (by kernel_rfl) (by kernel_rfl) hBd ?_
      refine a_move (some 12) _ rfl rfl rfl (by rfl) ?_
      simp only [Act.put, List.setIfInBounds_toArray, List.set_cons_zero, List.set_cons_succ]
      refine a_move (some 13) _ rfl rfl rfl (by rfl) ?_
      simp only [Act.put, List.setIfInBounds_toArray, List.set_cons_zero, List.set_cons_succ]
      refine a_move (some 14) _ rfl rfl rfl (by rfl) ?_
      simp only [Act.put, List.setIfInBounds_toArray, List.set_cons_zero, List.set_cons_succ]
      refine a_value (some 15) ?_ rfl rfl (by rfl) (fun w hw => ?_) ?_
      rotate_left
      · go_simp
        with_reducible rfl
      simp only [Act.put, List.setIfInBounds_toArray, List.set_cons_zero, List.set_cons_succ]
      refine a_value (some 16) ?_ rfl rfl (by rfl) (fun w hw => ?_) ?_
      rotate_left
      · have ck := HCell.out _ hw (i) hlt
        go_simp
        with_reducible rfl
      simp only [Act.put, List.setIfInBounds_toArray, List.set_cons_zero, List.set_cons_succ]
      refine a_move (some 18) _ rfl rfl rfl (by rfl) ?_
      simp only [Act.put, List.setIfInBounds_toArray, List.set_cons_zero, List.set_cons_succ]
      refine a_move (some 19) _ rfl rfl rfl (by rfl) ?_
      simp only [Act.put, List.setIfInBounds_toArray, List.set_cons_zero, List.set_cons_succ]
      refine a_move (some 20) _ rfl rfl rfl (by rfl) ?_
      simp only [Act.put, List.setIfInBounds_toArray, List.set_cons_zero, List.set_cons_succ]
      refine a_value (some 21) ?_ rfl rfl (by rfl) (fun w hw => ?_) ?_
      rotate_left
      · go_simp
        with_reducible rfl
      simp only [Act.put, List.setIfInBounds_toArray, List.set_cons_zero, List.set_cons_succ]
      refine a_value (some 22) ?_ rfl rfl (by rfl) (fun w hw => ?_) ?_
      rotate_left
      · go_simp
        with_reducible rfl
      simp only [Act.put, List.setIfInBounds_toArray, List.set_cons_zero, List.set_cons_succ]
      refine a_value (some 23) ?_ rfl rfl (by rfl) (fun w hw => ?_) ?_
      rotate_left
      · have ck := HCell.out _ hw (m) hlm
        go_simp
        with_reducible rfl
      simp only [Act.put, List.setIfInBounds_toArray, List.set_cons_zero, List.set_cons_succ]
      refine a_call (some 17) rfl rfl (by rfl) 44 #[.string l[i]] (by go_simp) ?_
      refine Calls.mono (HK1.out _ i hlt) ?_
      rintro e w2 ⟨rfl, hb2⟩
      refine ⟨_, rfl, below_next hBd hb2, ?_⟩
      have hBd2 : Below w.heap.size w w2 := below_next hBd hb2
      simp only [Act.put, List.setIfInBounds_toArray, List.set_cons_zero, List.set_cons_succ]
      refine a_call (some 24) rfl rfl (by rfl) 44 #[.string l[m]] (by go_simp) ?_
      refine Calls.mono (HK1.out _ m hlm) ?_
      rintro e w3 ⟨rfl, hb3⟩
      refine ⟨_, rfl, below_next hBd2 hb3, ?_⟩
      have HB3 : Hid (Below w.heap.size w w3) := below_next hBd2 hb3
      simp only [Act.put, List.setIfInBounds_toArray, List.set_cons_zero, List.set_cons_succ]
      refine a_value (some 25) (.bool (leB (l.getD i ⟨#[]⟩) (l.getD m ⟨#[]⟩))) rfl rfl (by rfl) (fun w hw => ?_) ?_
      · go_simp
        rfl
      simp only [Act.put, List.setIfInBounds_toArray, List.set_cons_zero, List.set_cons_succ]
      refine a_done ?_
      try simp only [Exit.then]
      clear hBd2 hb3 hb2 hBd
      obtain ⟨q, hq⟩ : ∃ q, q = leB (l.getD i ⟨#[]⟩) (l.getD m ⟨#[]⟩) := ⟨_, rfl⟩
      rw [← hq]
      rw [HM0.out] at hq
      clear HM0
      cases q with
      | true =>
        have hr : risesB l = false := risesB_no _ i hi0 (by simpa using hlt) hq.symm
        have HR : Hid _ := hr
        clear hr hq
        go_wp2
        go_ret
        exact ⟨by rw [HR.out]; rfl, HB3.out⟩
      | false =>
        have HO2 : Hid (∀ j, 0 < j → j < i + 1 → j < l.length → leB (l.getD j ⟨#[]⟩) (l.getD (j - 1) ⟨#[]⟩) = false) := fun j h1 h2 h3 => by
          by_cases e : j = i
          · subst e; exact hq.symm
          · exact HO.out j h1 (by omega) h3
        clear hq HO
        go_wp2
        go_roundw
        case rel => exact ⟨i + 1, by go_num, by omega, by omega, HO2, HB3⟩
        case measure => simp [intOf]; omega
    · have hlt' : ¬ (i : Int) < (l.length : Int) := by omega
      have hr : risesB l = true := risesB_yes _ (fun j h1 h2 => by
        have h2' : j < l.length := by simpa using h2
        exact HO.out j h1 (by omega) h2')
      have HR : Hid _ := hr
      clear hr
      go_wp2
      go_ret
      exact ⟨by rw [HR.out]; rfl, HB.out⟩
set_option maxRecDepth 20000 in
set_option maxHeartbeats 2000000 in
theorem outRises_ok (l : List (ByteArray × ByteArray × ByteArray)) (v : Value) (w : World) (h : SlAt w v l.length (outV l)) : Calls Tryd.prog 45 #[v, .func (.func 46) #[] #[]] w fun e w' => e = .returned (.bool (risesB (l.map (·.1)))) ∧ Below w.heap.size w w' := by
  obtain ⟨a, c, b, off, rfl, hc1, hc2, hat, hcell⟩ := h.ex
  by_cases hl : l = []
  · subst hl
    have hr : risesB (List.map (fun x : (ByteArray × ByteArray × ByteArray) => x.1) []) = true := rfl
    rw [hr]
    go_enter Tryd.func45, Tryd.ntmps45
    go_wp2
    refine wp_loop_rounds 1 ?_
    rw [rounds_succ]
    go_wp2
    go_ret
    exact ⟨rfl, Below.refl _ _⟩
  have hpos : 0 < l.length := List.length_pos_iff.2 hl
  obtain rfl := hat (by intro e; have := outV_len l; rw [e] at this; simp at this; omega)
  have HCell : Hid (∀ wx, Below w.heap.size w wx → ∀ i (hi : i < l.length), wx.cell? ⟨b, off + i * 3, none⟩ = some (.string l[i].1) ∧ wx.cell? ⟨b, off + i * 3 + 1, none⟩ = some (.string l[i].2.1) ∧ wx.cell? ⟨b, off + i * 3 + 2, none⟩ = some (.string l[i].2.2)) := fun wx hb i hi => by
    have h3 := outV_at l i hi
    have kk : ∀ j x, (outV l)[j]? = some x → wx.cell? ⟨b, off + j, none⟩ = some x := fun j x hx => by
      have hc := hcell j x hx
      exact (World.cell?_of_block (w := w) (hb.block b (World.block_lt_of_cell? w _ hc))).trans hc
    simp only [Nat.mul_comm i 3, Nat.add_assoc]
    exact ⟨kk _ _ h3.1, kk _ _ h3.2.1, kk _ _ h3.2.2⟩
  have HK1 : Hid (∀ wx i (hi : i < l.length), Calls Tryd.prog 46 #[.agg #[.string l[i].1, .string l[i].2.1, .string l[i].2.2]] wx fun e w' => e = .returned (.string ((l.map (·.1)).getD i ⟨#[]⟩)) ∧ Below wx.heap.size wx w') := fun wx i hi => by
    have e : (l.map (·.1)).getD i ⟨#[]⟩ = (l[i].1) := by simp [List.getD, hi]
    rw [e]
    exact outKey_ok (l[i].1) (.string l[i].2.1) (.string l[i].2.2) wx
  clear hcell h hat
  go_enter Tryd.func45, Tryd.ntmps45
  go_wp2
  go_loopw [5] (fun iv wx => ∃ (i : Nat), iv = .int .i64 i ∧ 0 < i ∧ i ≤ l.length + 1 ∧ Hid (∀ j, 0 < j → j < i → j < l.length → leB ((l.map (·.1)).getD j ⟨#[]⟩) ((l.map (·.1)).getD (j - 1) ⟨#[]⟩) = false) ∧ Hid (Below w.heap.size w wx)) (fun iv _ => l.length - (intOf iv).toNat)
  case atStart => exact ⟨1, rfl, by omega, by omega, fun j h1 h2 _ => by omega, Below.refl _ _⟩
  case round =>
    obtain ⟨i, rfl, hi0, hi1, HO, HB⟩ := hrel
    by_cases hlt : i < l.length
    · have hlt' : (i : Int) < (l.length : Int) := by omega
      obtain ⟨m, hm0⟩ : ∃ m, m = i - 1 := ⟨_, rfl⟩
      have hm : (i : Int) - 1 = (m : Int) := by omega
      have hlm : m < l.length := by omega
      have hlm' : (m : Int) < (l.length : Int) := by omega
      have hwm : IntKind.i64.wrap (m : Int) = m := by rw [IntKind.wrap_i64]; omega
      have HM0 : Hid (m = i - 1) := hm0
      clear hm0
      have hBd : Below w.heap.size w wr.drew := HB.out.drew
      go_wp2_with fail
      refine wp_region_permA [(false, 0), (false, 1), (false, 2), (false, 3), (false, 4), (false, 6), (false, 7), (false, 8), (false, 9), (false, 10), (false, 11), (true, 5), (true, 12), (false, 13)] (fun wx => Below w.heap.size w wx) (by kernel_rfl) (by kernel_rfl) hBd ?_
      refine a_move (some 12) _ rfl rfl rfl (by rfl) ?_
      simp only [Act.put, List.setIfInBounds_toArray, List.set_cons_zero, List.set_cons_succ]
      refine a_move (some 13) _ rfl rfl rfl (by rfl) ?_
      simp only [Act.put, List.setIfInBounds_toArray, List.set_cons_zero, List.set_cons_succ]
      refine a_move (some 14) _ rfl rfl rfl (by rfl) ?_
      simp only [Act.put, List.setIfInBounds_toArray, List.set_cons_zero, List.set_cons_succ]
      refine a_value (some 15) ?_ rfl rfl (by rfl) (fun w hw => ?_) ?_
      rotate_left
      · go_simp
        with_reducible rfl
      simp only [Act.put, List.setIfInBounds_toArray, List.set_cons_zero, List.set_cons_succ]
      refine a_value (some 16) ?_ rfl rfl (by rfl) (fun w hw => ?_) ?_
      rotate_left
      · have ck := HCell.out _ hw (i) hlt
        obtain ⟨e0, e1, e2⟩ := ck
        go_simp
        with_reducible rfl
      simp only [Act.put, List.setIfInBounds_toArray, List.set_cons_zero, List.set_cons_succ]
      refine a_move (some 18) _ rfl rfl rfl (by rfl) ?_
      simp only [Act.put, List.setIfInBounds_toArray, List.set_cons_zero, List.set_cons_succ]
      refine a_move (some 19) _ rfl rfl rfl (by rfl) ?_
      simp only [Act.put, List.setIfInBounds_toArray, List.set_cons_zero, List.set_cons_succ]
      refine a_move (some 20) _ rfl rfl rfl (by rfl) ?_
      simp only [Act.put, List.setIfInBounds_toArray, List.set_cons_zero, List.set_cons_succ]
      refine a_value (some 21) ?_ rfl rfl (by rfl) (fun w hw => ?_) ?_
      rotate_left
      · go_simp
        with_reducible rfl
      simp only [Act.put, List.setIfInBounds_toArray, List.set_cons_zero, List.set_cons_succ]
      refine a_value (some 22) ?_ rfl rfl (by rfl) (fun w hw => ?_) ?_
      rotate_left
      · go_simp
        with_reducible rfl
      simp only [Act.put, List.setIfInBounds_toArray, List.set_cons_zero, List.set_cons_succ]
      refine a_value (some 23) ?_ rfl rfl (by rfl) (fun w hw => ?_) ?_
      rotate_left
      · have ck := HCell.out _ hw (m) hlm
        obtain ⟨e0, e1, e2⟩ := ck
        go_simp
        with_reducible rfl
      simp only [Act.put, List.setIfInBounds_toArray, List.set_cons_zero, List.set_cons_succ]
      refine a_call (some 17) rfl rfl (by rfl) 46 #[.agg #[.string l[i].1, .string l[i].2.1, .string l[i].2.2]] (by go_simp) ?_
      refine Calls.mono (HK1.out _ i hlt) ?_
      rintro e w2 ⟨rfl, hb2⟩
      refine ⟨_, rfl, below_next hBd hb2, ?_⟩
      have hBd2 : Below w.heap.size w w2 := below_next hBd hb2
      simp only [Act.put, List.setIfInBounds_toArray, List.set_cons_zero, List.set_cons_succ]
      refine a_call (some 24) rfl rfl (by rfl) 46 #[.agg #[.string l[m].1, .string l[m].2.1, .string l[m].2.2]] (by go_simp) ?_
      refine Calls.mono (HK1.out _ m hlm) ?_
      rintro e w3 ⟨rfl, hb3⟩
      refine ⟨_, rfl, below_next hBd2 hb3, ?_⟩
      have HB3 : Hid (Below w.heap.size w w3) := below_next hBd2 hb3
      simp only [Act.put, List.setIfInBounds_toArray, List.set_cons_zero, List.set_cons_succ]
      refine a_value (some 25) (.bool (leB ((l.map (·.1)).getD i ⟨#[]⟩) ((l.map (·.1)).getD m ⟨#[]⟩))) rfl rfl (by rfl) (fun w hw => ?_) ?_
      · go_simp
        rfl
      simp only [Act.put, List.setIfInBounds_toArray, List.set_cons_zero, List.set_cons_succ]
      refine a_done ?_
      try simp only [Exit.then]
      clear hBd2 hb3 hb2 hBd
      obtain ⟨q, hq⟩ : ∃ q, q = leB ((l.map (·.1)).getD i ⟨#[]⟩) ((l.map (·.1)).getD m ⟨#[]⟩) := ⟨_, rfl⟩
      rw [← hq]
      rw [HM0.out] at hq
      clear HM0
      cases q with
      | true =>
        have hr : risesB (l.map (·.1)) = false := risesB_no _ i hi0 (by simpa using hlt) hq.symm
        have HR : Hid _ := hr
        clear hr hq
        go_wp2
        go_ret
        exact ⟨by rw [HR.out]; rfl, HB3.out⟩
      | false =>
        have HO2 : Hid (∀ j, 0 < j → j < i + 1 → j < l.length → leB ((l.map (·.1)).getD j ⟨#[]⟩) ((l.map (·.1)).getD (j - 1) ⟨#[]⟩) = false) := fun j h1 h2 h3 => by
          by_cases e : j = i
          · subst e; exact hq.symm
          · exact HO.out j h1 (by omega) h3
        clear hq HO
        go_wp2
        go_roundw
        case rel => exact ⟨i + 1, by go_num, by omega, by omega, HO2, HB3⟩
        case measure => simp [intOf]; omega
    · have hlt' : ¬ (i : Int) < (l.length : Int) := by omega
      have hr : risesB (l.map (·.1)) = true := risesB_yes _ (fun j h1 h2 => by
        have h2' : j < l.length := by simpa using h2
        exact HO.out j h1 (by omega) h2')
      have HR : Hid _ := hr
      clear hr
      go_wp2
      go_ret
      exact ⟨by rw [HR.out]; rfl, HB.out⟩
set_option maxRecDepth 20000 in
set_option maxHeartbeats 2000000 in
theorem inRises_ok (l : List (ByteArray × List ByteArray)) (ns : List Value) (hns : ns.length = l.length) (v : Value) (w : World) (h : SlAt w v l.length (inV l ns)) : Calls Tryd.prog 47 #[v, .func (.func 48) #[] #[]] w fun e w' => e = .returned (.bool (risesB (l.map (·.1)))) ∧ Below w.heap.size w w' := by
  obtain ⟨a, c, b, off, rfl, hc1, hc2, hat, hcell⟩ := h.ex
  by_cases hl : l = []
  · subst hl
    have hr : risesB (List.map (fun x : (ByteArray × List ByteArray) => x.1) []) = true := rfl
    rw [hr]
    go_enter Tryd.func47, Tryd.ntmps47
    go_wp2
    refine wp_loop_rounds 1 ?_
    rw [rounds_succ]
    go_wp2
    go_ret
    exact ⟨rfl, Below.refl _ _⟩
  have hpos : 0 < l.length := List.length_pos_iff.2 hl
  obtain rfl := hat (by intro e; have := inV_len l ns hns; rw [e] at this; simp at this; omega)
  have HCell : Hid (∀ wx, Below w.heap.size w wx → ∀ i (hi : i < l.length), wx.cell? ⟨b, off + i * 2, none⟩ = some (.string l[i].1) ∧ wx.cell? ⟨b, off + i * 2 + 1, none⟩ = some ((ns[i]'(by omega)))) := fun wx hb i hi => by
    have h3 := inV_at l ns hns i hi
    have kk : ∀ j x, (inV l ns)[j]? = some x → wx.cell? ⟨b, off + j, none⟩ = some x := fun j x hx => by
      have hc := hcell j x hx
      exact (World.cell?_of_block (w := w) (hb.block b (World.block_lt_of_cell? w _ hc))).trans hc
    simp only [Nat.mul_comm i 2, Nat.add_assoc]
    exact ⟨kk _ _ h3.1, kk _ _ h3.2⟩
  have HK1 : Hid (∀ wx i (hi : i < l.length), Calls Tryd.prog 48 #[.agg #[.string l[i].1, (ns[i]'(by omega))]] wx fun e w' => e = .returned (.string ((l.map (·.1)).getD i ⟨#[]⟩)) ∧ Below wx.heap.size wx w') := fun wx i hi => by
    have e : (l.map (·.1)).getD i ⟨#[]⟩ = (l[i].1) := by simp [List.getD, hi]
    rw [e]
    exact inKey_ok (l[i].1) ((ns[i]'(by omega))) wx
  clear hcell h hat
  go_enter Tryd.func47, Tryd.ntmps47
  go_wp2
  go_loopw [5] (fun iv wx => ∃ (i : Nat), iv = .int .i64 i ∧ 0 < i ∧ i ≤ l.length + 1 ∧ Hid (∀ j, 0 < j → j < i → j < l.length → leB ((l.map (·.1)).getD j ⟨#[]⟩) ((l.map (·.1)).getD (j - 1) ⟨#[]⟩) = false) ∧ Hid (Below w.heap.size w wx)) (fun iv _ => l.length - (intOf iv).toNat)
  case atStart => exact ⟨1, rfl, by omega, by omega, fun j h1 h2 _ => by omega, Below.refl _ _⟩
  case round =>
    obtain ⟨i, rfl, hi0, hi1, HO, HB⟩ := hrel
    by_cases hlt : i < l.length
    · have hlt' : (i : Int) < (l.length : Int) := by omega
      obtain ⟨m, hm0⟩ : ∃ m, m = i - 1 := ⟨_, rfl⟩
      have hm : (i : Int) - 1 = (m : Int) := by omega
      have hlm : m < l.length := by omega
      have hlm' : (m : Int) < (l.length : Int) := by omega
      have hwm : IntKind.i64.wrap (m : Int) = m := by rw [IntKind.wrap_i64]; omega
      have HM0 : Hid (m = i - 1) := hm0
      clear hm0
      have hBd : Below w.heap.size w wr.drew := HB.out.drew
      go_wp2_with fail
      refine wp_region_permA [(false, 0), (false, 1), (false, 2), (false, 3), (false, 4), (false, 6), (false, 7), (false, 8), (false, 9), (false, 10), (false, 11), (true, 5), (true, 12), (false, 13)] (fun wx => Below w.heap.size w wx) (by kernel_rfl) (by kernel_rfl) hBd ?_
      refine a_move (some 12) _ rfl rfl rfl (by rfl) ?_
      simp only [Act.put, List.setIfInBounds_toArray, List.set_cons_zero, List.set_cons_succ]
      refine a_move (some 13) _ rfl rfl rfl (by rfl) ?_
      simp only [Act.put, List.setIfInBounds_toArray, List.set_cons_zero, List.set_cons_succ]
      refine a_move (some 14) _ rfl rfl rfl (by rfl) ?_
      simp only [Act.put, List.setIfInBounds_toArray, List.set_cons_zero, List.set_cons_succ]
      refine a_value (some 15) ?_ rfl rfl (by rfl) (fun w hw => ?_) ?_
      rotate_left
      · go_simp
        with_reducible rfl
      simp only [Act.put, List.setIfInBounds_toArray, List.set_cons_zero, List.set_cons_succ]
      refine a_value (some 16) ?_ rfl rfl (by rfl) (fun w hw => ?_) ?_
      rotate_left
      · have ck := HCell.out _ hw (i) hlt
        obtain ⟨e0, e1⟩ := ck
        go_simp
        with_reducible rfl
      simp only [Act.put, List.setIfInBounds_toArray, List.set_cons_zero, List.set_cons_succ]
      refine a_move (some 18) _ rfl rfl rfl (by rfl) ?_
      simp only [Act.put, List.setIfInBounds_toArray, List.set_cons_zero, List.set_cons_succ]
      refine a_move (some 19) _ rfl rfl rfl (by rfl) ?_
      simp only [Act.put, List.setIfInBounds_toArray, List.set_cons_zero, List.set_cons_succ]
      refine a_move (some 20) _ rfl rfl rfl (by rfl) ?_
      simp only [Act.put, List.setIfInBounds_toArray, List.set_cons_zero, List.set_cons_succ]
      refine a_value (some 21) ?_ rfl rfl (by rfl) (fun w hw => ?_) ?_
      rotate_left
      · go_simp
        with_reducible rfl
      simp only [Act.put, List.setIfInBounds_toArray, List.set_cons_zero, List.set_cons_succ]
      refine a_value (some 22) ?_ rfl rfl (by rfl) (fun w hw => ?_) ?_
      rotate_left
      · go_simp
        with_reducible rfl
      simp only [Act.put, List.setIfInBounds_toArray, List.set_cons_zero, List.set_cons_succ]
      refine a_value (some 23) ?_ rfl rfl (by rfl) (fun w hw => ?_) ?_
      rotate_left
      · have ck := HCell.out _ hw (m) hlm
        obtain ⟨e0, e1⟩ := ck
        go_simp
        with_reducible rfl
      simp only [Act.put, List.setIfInBounds_toArray, List.set_cons_zero, List.set_cons_succ]
      refine a_call (some 17) rfl rfl (by rfl) 48 #[.agg #[.string l[i].1, (ns[i]'(by omega))]] (by go_simp) ?_
      refine Calls.mono (HK1.out _ i hlt) ?_
      rintro e w2 ⟨rfl, hb2⟩
      refine ⟨_, rfl, below_next hBd hb2, ?_⟩
      have hBd2 : Below w.heap.size w w2 := below_next hBd hb2
      simp only [Act.put, List.setIfInBounds_toArray, List.set_cons_zero, List.set_cons_succ]
      refine a_call (some 24) rfl rfl (by rfl) 48 #[.agg #[.string l[m].1, (ns[m]'(by omega))]] (by go_simp) ?_
      refine Calls.mono (HK1.out _ m hlm) ?_
      rintro e w3 ⟨rfl, hb3⟩
      refine ⟨_, rfl, below_next hBd2 hb3, ?_⟩
      have HB3 : Hid (Below w.heap.size w w3) := below_next hBd2 hb3
      simp only [Act.put, List.setIfInBounds_toArray, List.set_cons_zero, List.set_cons_succ]
      refine a_value (some 25) (.bool (leB ((l.map (·.1)).getD i ⟨#[]⟩) ((l.map (·.1)).getD m ⟨#[]⟩))) rfl rfl (by rfl) (fun w hw => ?_) ?_
      · go_simp
        rfl
      simp only [Act.put, List.setIfInBounds_toArray, List.set_cons_zero, List.set_cons_succ]
      refine a_done ?_
      try simp only [Exit.then]
      clear hBd2 hb3 hb2 hBd
      obtain ⟨q, hq⟩ : ∃ q, q = leB ((l.map (·.1)).getD i ⟨#[]⟩) ((l.map (·.1)).getD m ⟨#[]⟩) := ⟨_, rfl⟩
      rw [← hq]
      rw [HM0.out] at hq
      clear HM0
      cases q with
      | true =>
        have hr : risesB (l.map (·.1)) = false := risesB_no _ i hi0 (by simpa using hlt) hq.symm
        have HR : Hid _ := hr
        clear hr hq
        go_wp2
        go_ret
        exact ⟨by rw [HR.out]; rfl, HB3.out⟩
      | false =>
        have HO2 : Hid (∀ j, 0 < j → j < i + 1 → j < l.length → leB ((l.map (·.1)).getD j ⟨#[]⟩) ((l.map (·.1)).getD (j - 1) ⟨#[]⟩) = false) := fun j h1 h2 h3 => by
          by_cases e : j = i
          · subst e; exact hq.symm
          · exact HO.out j h1 (by omega) h3
        clear hq HO
        go_wp2
        go_roundw
        case rel => exact ⟨i + 1, by go_num, by omega, by omega, HO2, HB3⟩
        case measure => simp [intOf]; omega
    · have hlt' : ¬ (i : Int) < (l.length : Int) := by omega
      have hr : risesB (l.map (·.1)) = true := risesB_yes _ (fun j h1 h2 => by
        have h2' : j < l.length := by simpa using h2
        exact HO.out j h1 (by omega) h2')
      have HR : Hid _ := hr
      clear hr
      go_wp2
      go_ret
      exact ⟨by rw [HR.out]; rfl, HB.out⟩
set_option maxRecDepth 20000 in
set_option maxHeartbeats 2000000 in
theorem pairRises_ok (l : List (ByteArray × ByteArray)) (v : Value) (w : World) (h : SlAt w v l.length (pairV l)) : Calls Tryd.prog 49 #[v, .func (.func 50) #[] #[]] w fun e w' => e = .returned (.bool (risesB (l.map (·.1)))) ∧ Below w.heap.size w w' := by
  obtain ⟨a, c, b, off, rfl, hc1, hc2, hat, hcell⟩ := h.ex
  by_cases hl : l = []
  · subst hl
    have hr : risesB (List.map (fun x : (ByteArray × ByteArray) => x.1) []) = true := rfl
    rw [hr]
    go_enter Tryd.func49, Tryd.ntmps49
    go_wp2
    refine wp_loop_rounds 1 ?_
    rw [rounds_succ]
    go_wp2
    go_ret
    exact ⟨rfl, Below.refl _ _⟩
  have hpos : 0 < l.length := List.length_pos_iff.2 hl
  obtain rfl := hat (by intro e; have := pairV_len l; rw [e] at this; simp at this; omega)
  have HCell : Hid (∀ wx, Below w.heap.size w wx → ∀ i (hi : i < l.length), wx.cell? ⟨b, off + i * 2, none⟩ = some (.string l[i].1) ∧ wx.cell? ⟨b, off + i * 2 + 1, none⟩ = some (.string l[i].2)) := fun wx hb i hi => by
    have h3 := pairV_at l i hi
    have kk : ∀ j x, (pairV l)[j]? = some x → wx.cell? ⟨b, off + j, none⟩ = some x := fun j x hx => by
      have hc := hcell j x hx
      exact (World.cell?_of_block (w := w) (hb.block b (World.block_lt_of_cell? w _ hc))).trans hc
    simp only [Nat.mul_comm i 2, Nat.add_assoc]
    exact ⟨kk _ _ h3.1, kk _ _ h3.2⟩
  have HK1 : Hid (∀ wx i (hi : i < l.length), Calls Tryd.prog 50 #[.agg #[.string l[i].1, .string l[i].2]] wx fun e w' => e = .returned (.string ((l.map (·.1)).getD i ⟨#[]⟩)) ∧ Below wx.heap.size wx w') := fun wx i hi => by
    have e : (l.map (·.1)).getD i ⟨#[]⟩ = (l[i].1) := by simp [List.getD, hi]
    rw [e]
    exact pairKey_ok (l[i].1) (.string l[i].2) wx
  clear hcell h hat
  go_enter Tryd.func49, Tryd.ntmps49
  go_wp2
  go_loopw [5] (fun iv wx => ∃ (i : Nat), iv = .int .i64 i ∧ 0 < i ∧ i ≤ l.length + 1 ∧ Hid (∀ j, 0 < j → j < i → j < l.length → leB ((l.map (·.1)).getD j ⟨#[]⟩) ((l.map (·.1)).getD (j - 1) ⟨#[]⟩) = false) ∧ Hid (Below w.heap.size w wx)) (fun iv _ => l.length - (intOf iv).toNat)
  case atStart => exact ⟨1, rfl, by omega, by omega, fun j h1 h2 _ => by omega, Below.refl _ _⟩
  case round =>
    obtain ⟨i, rfl, hi0, hi1, HO, HB⟩ := hrel
    by_cases hlt : i < l.length
    · have hlt' : (i : Int) < (l.length : Int) := by omega
      obtain ⟨m, hm0⟩ : ∃ m, m = i - 1 := ⟨_, rfl⟩
      have hm : (i : Int) - 1 = (m : Int) := by omega
      have hlm : m < l.length := by omega
      have hlm' : (m : Int) < (l.length : Int) := by omega
      have hwm : IntKind.i64.wrap (m : Int) = m := by rw [IntKind.wrap_i64]; omega
      have HM0 : Hid (m = i - 1) := hm0
      clear hm0
      have hBd : Below w.heap.size w wr.drew := HB.out.drew
      go_wp2_with fail
      refine wp_region_permA [(false, 0), (false, 1), (false, 2), (false, 3), (false, 4), (false, 6), (false, 7), (false, 8), (false, 9), (false, 10), (false, 11), (true, 5), (true, 12), (false, 13)] (fun wx => Below w.heap.size w wx) (by kernel_rfl) (by kernel_rfl) hBd ?_
      refine a_move (some 12) _ rfl rfl rfl (by rfl) ?_
      simp only [Act.put, List.setIfInBounds_toArray, List.set_cons_zero, List.set_cons_succ]
      refine a_move (some 13) _ rfl rfl rfl (by rfl) ?_
      simp only [Act.put, List.setIfInBounds_toArray, List.set_cons_zero, List.set_cons_succ]
      refine a_move (some 14) _ rfl rfl rfl (by rfl) ?_
      simp only [Act.put, List.setIfInBounds_toArray, List.set_cons_zero, List.set_cons_succ]
      refine a_value (some 15) ?_ rfl rfl (by rfl) (fun w hw => ?_) ?_
      rotate_left
      · go_simp
        with_reducible rfl
      simp only [Act.put, List.setIfInBounds_toArray, List.set_cons_zero, List.set_cons_succ]
      refine a_value (some 16) ?_ rfl rfl (by rfl) (fun w hw => ?_) ?_
      rotate_left
      · have ck := HCell.out _ hw (i) hlt
        obtain ⟨e0, e1⟩ := ck
        go_simp
        with_reducible rfl
      simp only [Act.put, List.setIfInBounds_toArray, List.set_cons_zero, List.set_cons_succ]
      refine a_move (some 18) _ rfl rfl rfl (by rfl) ?_
      simp only [Act.put, List.setIfInBounds_toArray, List.set_cons_zero, List.set_cons_succ]
      refine a_move (some 19) _ rfl rfl rfl (by rfl) ?_
      simp only [Act.put, List.setIfInBounds_toArray, List.set_cons_zero, List.set_cons_succ]
      refine a_move (some 20) _ rfl rfl rfl (by rfl) ?_
      simp only [Act.put, List.setIfInBounds_toArray, List.set_cons_zero, List.set_cons_succ]
      refine a_value (some 21) ?_ rfl rfl (by rfl) (fun w hw => ?_) ?_
      rotate_left
      · go_simp
        with_reducible rfl
      simp only [Act.put, List.setIfInBounds_toArray, List.set_cons_zero, List.set_cons_succ]
      refine a_value (some 22) ?_ rfl rfl (by rfl) (fun w hw => ?_) ?_
      rotate_left
      · go_simp
        with_reducible rfl
      simp only [Act.put, List.setIfInBounds_toArray, List.set_cons_zero, List.set_cons_succ]
      refine a_value (some 23) ?_ rfl rfl (by rfl) (fun w hw => ?_) ?_
      rotate_left
      · have ck := HCell.out _ hw (m) hlm
        obtain ⟨e0, e1⟩ := ck
        go_simp
        with_reducible rfl
      simp only [Act.put, List.setIfInBounds_toArray, List.set_cons_zero, List.set_cons_succ]
      refine a_call (some 17) rfl rfl (by rfl) 50 #[.agg #[.string l[i].1, .string l[i].2]] (by go_simp) ?_
      refine Calls.mono (HK1.out _ i hlt) ?_
      rintro e w2 ⟨rfl, hb2⟩
      refine ⟨_, rfl, below_next hBd hb2, ?_⟩
      have hBd2 : Below w.heap.size w w2 := below_next hBd hb2
      simp only [Act.put, List.setIfInBounds_toArray, List.set_cons_zero, List.set_cons_succ]
      refine a_call (some 24) rfl rfl (by rfl) 50 #[.agg #[.string l[m].1, .string l[m].2]] (by go_simp) ?_
      refine Calls.mono (HK1.out _ m hlm) ?_
      rintro e w3 ⟨rfl, hb3⟩
      refine ⟨_, rfl, below_next hBd2 hb3, ?_⟩
      have HB3 : Hid (Below w.heap.size w w3) := below_next hBd2 hb3
      simp only [Act.put, List.setIfInBounds_toArray, List.set_cons_zero, List.set_cons_succ]
      refine a_value (some 25) (.bool (leB ((l.map (·.1)).getD i ⟨#[]⟩) ((l.map (·.1)).getD m ⟨#[]⟩))) rfl rfl (by rfl) (fun w hw => ?_) ?_
      · go_simp
        rfl
      simp only [Act.put, List.setIfInBounds_toArray, List.set_cons_zero, List.set_cons_succ]
      refine a_done ?_
      try simp only [Exit.then]
      clear hBd2 hb3 hb2 hBd
      obtain ⟨q, hq⟩ : ∃ q, q = leB ((l.map (·.1)).getD i ⟨#[]⟩) ((l.map (·.1)).getD m ⟨#[]⟩) := ⟨_, rfl⟩
      rw [← hq]
      rw [HM0.out] at hq
      clear HM0
      cases q with
      | true =>
        have hr : risesB (l.map (·.1)) = false := risesB_no _ i hi0 (by simpa using hlt) hq.symm
        have HR : Hid _ := hr
        clear hr hq
        go_wp2
        go_ret
        exact ⟨by rw [HR.out]; rfl, HB3.out⟩
      | false =>
        have HO2 : Hid (∀ j, 0 < j → j < i + 1 → j < l.length → leB ((l.map (·.1)).getD j ⟨#[]⟩) ((l.map (·.1)).getD (j - 1) ⟨#[]⟩) = false) := fun j h1 h2 h3 => by
          by_cases e : j = i
          · subst e; exact hq.symm
          · exact HO.out j h1 (by omega) h3
        clear hq HO
        go_wp2
        go_roundw
        case rel => exact ⟨i + 1, by go_num, by omega, by omega, HO2, HB3⟩
        case measure => simp [intOf]; omega
    · have hlt' : ¬ (i : Int) < (l.length : Int) := by omega
      have hr : risesB (l.map (·.1)) = true := risesB_yes _ (fun j h1 h2 => by
        have h2' : j < l.length := by simpa using h2
        exact HO.out j h1 (by omega) h2')
      have HR : Hid _ := hr
      clear hr
      go_wp2
      go_ret
      exact ⟨by rw [HR.out]; rfl, HB.out⟩
end Go.Proofs.YtmpgfepkdhjibaaDoor
