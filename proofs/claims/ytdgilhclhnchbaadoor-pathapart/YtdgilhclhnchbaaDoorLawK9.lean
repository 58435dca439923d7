/- My own work: the law of Make and Split together by walk. -/
import Derived.Test.YtdgilhclhnchbaaDoorLawB9
import Derived.Test.YtdgilhclhnchbaaDoorBase
namespace Go.Proofs.YtdgilhclhnchbaaDoor.S2
open Go.RowKit Math

theorem makeV_no {kind name : ByteArray} (f : Nat → Int) (h : mayB kind name = false) : makeV kind f name = .tuple #[.string ⟨#[]⟩, .int .i64 17] := by unfold makeV; rw [h]; rfl
theorem makeV_yes {kind name : ByteArray} (f : Nat → Int) (h : mayB kind name = true) : makeV kind f name = .tuple #[.string (pathE kind f name), .int .i64 0] := by unfold makeV; rw [h]; rfl
/-- A name's first byte is a name. -/
theorem may_one {kind name : ByteArray} (h : mayB kind name = true) : mayB kind (name.extract 0 1) = true := by
  have hf := may_facts h
  unfold mayB at h ⊢
  rw [Bool.and_eq_true] at h ⊢
  refine ⟨?_, h.2⟩
  obtain ⟨h1, h2, h3, h4⟩ := nameB_facts h.1
  have e : bl (name.extract 0 1) = (bl name).take 1 := by rw [bl_ex, List.drop_zero]
  rw [e]
  match hb : bl name with
  | [] => rw [hb] at h1; exact absurd h1 (by simp)
  | c :: r =>
    rw [hb] at h3 h4
    show nameB [c] = true
    unfold nameB
    have hc : nameC c = true := by rw [List.all_cons, Bool.and_eq_true] at h4; exact h4.1
    have hne : [c].head? ≠ some 46 := h3
    rw [decide_eq_true ⟨Nat.le_refl _, by simp, hne⟩]
    simp [hc]
/-- A path of a name's first byte is the path just where the name is no longer. -/
theorem one_same {kind name : ByteArray} (f : Nat → Int) (h : mayB kind name = true) : ((pathE kind f (name.extract 0 1)).toList == (pathE kind f name).toList) = ((name.size : Int) == 1) := by
  have hf := may_facts h
  by_cases h1 : name.size = 1
  · have e : name.extract 0 1 = name := bl_inj (by rw [bl_ex, List.drop_zero, List.take_of_length_le (by rw [bl_len]; omega)])
    rw [e, h1]
    simp
  · have hne : ¬ (pathE kind f (name.extract 0 1)).toList = (pathE kind f name).toList := fun e => by
      have := congrArg List.length e
      rw [ByteArray.toList_eq, ByteArray.toList_eq] at this
      have this : (bl (pathE kind f (name.extract 0 1))).length = (bl (pathE kind f name)).length := this
      have e1 := bl_len (pathE kind f (name.extract 0 1))
      have e2 := bl_len (pathE kind f name)
      have e3 := ex_size name 0 1 (by omega)
      rw [path_size] at e1 e2
      omega
    rw [beq_false_of_ne hne, beq_false_of_ne (by omega)]
set_option maxRecDepth 20000 in
set_option maxHeartbeats 4000000 in
theorem law_back (kind : ByteArray) (f : Nat → Int) (name : ByteArray) (w : World) (hT : Tab w) (hF : FTab w) (hK : KTab w) (hN : NTab w) (hf : ∀ i, 0 ≤ f i ∧ f i < 256) (hf0 : ∀ i, 32 ≤ i → f i = 0) :
    Calls Tryd.prog 5 #[.string kind, .agg (arr f 32), .string name] w fun e w' => e = .returned (.bool true) ∧ Below w.heap.size w w' := by
  obtain ⟨A, hA⟩ : ∃ A, A = arr f 32 := ⟨_, rfl⟩
  have hAs : A.size = 32 := by rw [hA, arr_size]
  have hiA : (Tryd.prog.info? 22).map (·.size) = some A.size := by rw [hAs]; kernel_rfl
  have b0 : Below w.heap.size w (w.alloc (.cells A 22)) := (Below.refl _ _).alloc (Nat.le_refl _) _
  have HMK : Hid (∀ nm wx, Below w.heap.size w wx → Calls Tryd.prog 7 #[.string kind, .agg A, .string nm] wx fun e w' => e = .returned (makeV kind f nm) ∧ Below wx.heap.size wx w') := fun nm wx hb => by
    rw [hA]
    exact make_ok kind f nm wx (hT.keep hb) (hF.keep hb) (hK.keep hb) (hN.keep hb) hf hf0
  have HT : Hid (Tab w) := hT
  have HN : Hid (NTab w) := hN
  have hrow : Row (w.alloc (.cells A 22)) w.heap.size A 22 := Row.new w A 22
  rw [← hA]
  clear hA hT hF hK hN
  have hM := HMK.out name _ b0
  cases hmay : mayB kind name with
  | false =>
    rw [makeV_no f hmay] at hM
    clear hmay
    go_enter Tryd.func5, Tryd.ntmps5
    go_wp2_with (first | refine wpList_load_row rfl 22 _ rfl w.heap.size rfl 22 A (0, 0) _ hrow Tryd.underlying22 rfl hiA ?_ | fail)
    refine hM.mono ?_
    rintro e w1 ⟨rfl, hb1⟩
    have hb01 := b0.trans (hb1.mono b0.size)
    clear hM hb1 b0 hrow
    have hBa := base_ok ⟨#[]⟩ w1 (by decide) (Tab.keep HT.out hb01) (NTab.keep HN.out hb01)
    rw [empty_base] at hBa
    go_wp2_with fail
    refine hBa.mono ?_
    rintro e w2 ⟨rfl, hb2⟩
    have hb02 := hb01.trans (hb2.mono hb01.size)
    clear hBa hb2 hb01
    go_wp2
    go_ret
    exact ⟨rfl, hb02⟩
  | true =>
    obtain ⟨hn1, hn2, hk1, hk2⟩ := may_facts hmay
    rw [makeV_yes f hmay] at hM
    obtain ⟨P, hP⟩ : ∃ P, P = pathE kind f name := ⟨_, rfl⟩
    obtain ⟨S, hS⟩ : ∃ S, S = signE' kind f name := ⟨_, rfl⟩
    obtain ⟨O, hO⟩ : ∃ O, O = pathE kind f (name.extract 0 1) := ⟨_, rfl⟩
    have HSV : Hid (splitV P = .tuple #[.string S, .string name, .int .i64 0]) := by show _ = _; rw [hP, splitV_yes (path_split f hmay), path_signs, path_name, hS]
    have HBV : Hid (baseE P = S ++ ⟨#[45]⟩ ++ name) := by show _ = _; rw [hP, hS]; exact path_base kind f name hmay
    have HM1 : Hid (makeV kind f name = .tuple #[.string P, .int .i64 0]) := by show _ = _; rw [hP]; exact makeV_yes f hmay
    have HM2 : Hid (makeV kind f (name.extract 0 1) = .tuple #[.string O, .int .i64 0]) := by show _ = _; rw [hO]; exact makeV_yes f (may_one hmay)
    have hSs : S.size = 32 := by rw [hS, signE_size]
    have HPs : Hid (P.size ≤ 140737488355328) := by show _ ≤ _; rw [hP, path_size]; omega
    have hone : (O.toList == P.toList) = ((name.size : Int) == 1) := by rw [hO, hP]; exact one_same f hmay
    rw [← hP] at hM
    clear hP hS hO hmay
    go_enter Tryd.func5, Tryd.ntmps5
    go_wp2_with (first | refine wpList_load_row rfl 22 _ rfl w.heap.size rfl 22 A (0, 0) _ hrow Tryd.underlying22 rfl hiA ?_ | fail)
    refine hM.mono ?_
    rintro e w1 ⟨rfl, hb1⟩
    have hb01 := b0.trans (hb1.mono b0.size)
    have hrow1 : Row w1 w.heap.size A 22 := hrow.below hb1 (by simp)
    clear hM hb1 b0 hrow
    have hSp := split_ok P w1 HPs.out (Tab.keep HT.out hb01) (NTab.keep HN.out hb01)
    rw [HSV.out] at hSp
    go_wp2_with fail
    refine hSp.mono ?_
    rintro e w2 ⟨rfl, hb2⟩
    have hb02 := hb01.trans (hb2.mono hb01.size)
    have hrow2 : Row w2 w.heap.size A 22 := hrow1.below hb2 hrow1.lt
    clear hSp hb2 hb01 hrow1
    have hM := HMK.out name w2 hb02
    rw [HM1.out] at hM
    go_wp2_with (first | refine wpList_load_row rfl 22 _ rfl w.heap.size rfl 22 A (0, 0) _ hrow2 Tryd.underlying22 rfl hiA ?_ | fail)
    refine hM.mono ?_
    rintro e w3 ⟨rfl, hb3⟩
    have hb03 := hb02.trans (hb3.mono hb02.size)
    have hrow3 : Row w3 w.heap.size A 22 := hrow2.below hb3 hrow2.lt
    clear hM hb3 hb02 hrow2
    have hb03d := hb03.drew
    have hM := HMK.out (name.extract 0 1) w3.drew hb03d
    rw [HM2.out] at hM
    go_wp2_with fail
    refine wp_region_mix [false, false, false, false, true, false, false, false, false, false] (fun wx => Row wx w.heap.size A 22) (by kernel_rfl) (by kernel_rfl) (Row.drew hrow3) ?_
    refine m_move _ rfl (by rfl) ?_
    simp only [Act.put, List.setIfInBounds_toArray, List.set_cons_zero, List.set_cons_succ]
    refine m_load 22 _ rfl (by rfl) w.heap.size A 22 _ (by rfl) (fun w hw => hw) Tryd.underlying22 rfl hiA ?_
    simp only [Act.put, List.setIfInBounds_toArray, List.set_cons_zero, List.set_cons_succ]
    refine m_move _ rfl (by rfl) ?_
    simp only [Act.put, List.setIfInBounds_toArray, List.set_cons_zero, List.set_cons_succ]
    refine m_value (.string (name.extract 0 1)) (by rfl) (fun w hw => by go_simp; intro hh; omega) ?_
    simp only [Act.put, List.setIfInBounds_toArray, List.set_cons_zero, List.set_cons_succ]
    refine m_call (by rfl) 7 #[.string kind, .agg A, .string (name.extract 0 1)] (by go_simp) (hM.mono ?_)
    rintro e w4 ⟨rfl, hb4⟩
    refine ⟨_, rfl, (Row.drew hrow3).below hb4 (Row.drew hrow3).lt, ?_⟩
    simp only [Act.put, List.setIfInBounds_toArray, List.set_cons_zero, List.set_cons_succ]
    refine m_move _ rfl (by rfl) ?_
    simp only [Act.put, List.setIfInBounds_toArray, List.set_cons_zero, List.set_cons_succ]
    refine m_value ?_ (by rfl) (fun w hw => ?_) ?_
    rotate_left
    · go_simp
      with_reducible rfl
    simp only [Act.put, List.setIfInBounds_toArray, List.set_cons_zero, List.set_cons_succ]
    refine m_value ?_ (by rfl) (fun w hw => ?_) ?_
    rotate_left
    · go_simp
      with_reducible rfl
    simp only [Act.put, List.setIfInBounds_toArray, List.set_cons_zero, List.set_cons_succ]
    refine m_assign _ rfl (by rfl) ?_
    simp only [Act.put, List.setIfInBounds_toArray, List.set_cons_zero, List.set_cons_succ]
    refine m_assign _ rfl (by rfl) ?_
    simp only [Act.put, List.setIfInBounds_toArray, List.set_cons_zero, List.set_cons_succ]
    refine m_done ?_
    try simp only [Exit.then]
    have hb04 := hb03d.trans (hb4.mono hb03d.size)
    clear hM hb4 hb03 hb03d hrow3
    have hBa := base_ok P w4 HPs.out (Tab.keep HT.out hb04) (NTab.keep HN.out hb04)
    rw [HBV.out] at hBa
    go_wp2_with fail
    refine hBa.mono ?_
    rintro e w5 ⟨rfl, hb5⟩
    have hb05 := hb04.trans (hb5.mono hb04.size)
    clear hBa hb5 hb04
    go_wp2
    go_ret
    exact ⟨rfl, hb05⟩
end Go.Proofs.YtdgilhclhnchbaaDoor.S2
