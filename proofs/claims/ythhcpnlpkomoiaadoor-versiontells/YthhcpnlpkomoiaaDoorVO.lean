/- My own work: the law VersionOrder. -/
import Derived.Test.YthhcpnlpkomoiaaDoorVQ
namespace Go.Proofs.YthhcpnlpkomoiaaDoor
open Go.RowKit

abbrev oneV : Ver := ⟨1, 0, 0, 0, 1, ⟨#[]⟩⟩
abbrev twoV : Ver := ⟨1, 0, 0, 0, 2, ⟨#[]⟩⟩
theorem parse_1 : parseE ⟨#[49]⟩ = .tuple #[verV oneV, .int .i64 0] := parseE_yes (by rfl)
theorem parse_10 : parseE ⟨#[49, 46, 48]⟩ = .tuple #[verV twoV, .int .i64 0] := parseE_yes (by rfl)
theorem cmp_12 : cmpV oneV twoV = -1 := by decide
theorem leInt {x y z : Int} (hx : x = -1 ∨ x = 0 ∨ x = 1) (h1 : x ≤ 0 → y ≤ 0 → z ≤ 0) (h2 : 0 ≤ x → 0 ≤ y → 0 ≤ z) : (x = -1 ∧ (y ≤ 0 → z ≤ 0)) ∨ (x = 1 ∧ (0 ≤ y → 0 ≤ z)) ∨ (x = 0 ∧ (y ≤ 0 → z ≤ 0) ∧ (0 ≤ y → 0 ≤ z)) := by omega
/-- Five versions lie there. -/
structure Kept5 (W : World) (a b c : Ver) (p q : Nat) (w' : World) : Prop where
  k : Kept3 W a b c w'
  p : Row w' p (verC oneV) 24
  q : Row w' q (verC twoV) 24
theorem Kept5.next {W w1 w2 : World} {a b c : Ver} {p q : Nat} (h : Kept5 W a b c p q w1) (hb : Below w1.heap.size w1 w2) : Kept5 W a b c p q w2 :=
  ⟨h.k.next hb, h.p.below hb h.p.lt, h.q.below hb h.q.lt⟩
section
variable {P : Program} {ops : Array Oper} {Q : Exit → Act → World → Prop} {act : Act} {o : Oper} {rest : List Oper} {w : World}
theorem wp_eqv_wanted (hw : Region.wanted o (yielded ops act.tmps) = true) (t : TypeId) (hg : Tryd.prog.eqGuardType Tryd.prog.depth t = false) (a b : Ver) (he : ∀ w, (Op.equalIn 10000 t (verV a) (verV b)).run Tryd.prog w = .ok (decide (a = b)) w) (x y : Operand) (ho : o.op = .binOp .eql t x y t) (hx : act.eval x = verV a) (hy : act.eval y = verV b)
    (k : wpList Tryd.prog ops Q rest (act.put o.dst (.bool (decide (a = b)))) w) : wpList Tryd.prog ops Q (o :: rest) act w := by
  unfold wpList
  rw [if_pos hw]
  refine .inl ?_
  unfold Oper.wp
  rw [exec_eqv t hg a b (he w) x y ho hx hy]
  exact k
end
set_option maxRecDepth 20000 in
set_option maxHeartbeats 8000000 in
theorem law_order (a b c : Ver) (w : World) : Calls Tryd.prog 5 #[verV a, verV b, verV c] w fun e w' => e = .returned (.bool true) ∧ Below w.heap.size w w' := by
  have hW : Kept3 w a b c (((w.alloc (.cells (verC a) 24)).alloc (.cells (verC b) 24)).alloc (.cells (verC c) 24)) := by
    refine ⟨((Row.new w _ _).alloc _).alloc _, ?_, ?_, (((Below.refl _ _).alloc (Nat.le_refl _) _).alloc (by simp) _).alloc (by simp; omega) _⟩
    · have h := (Row.new (w.alloc (.cells (verC a) 24)) (verC b) 24).alloc (.cells (verC c) 24)
      rw [World.size_alloc] at h
      exact h
    · have h := Row.new ((w.alloc (.cells (verC a) 24)).alloc (.cells (verC b) 24)) (verC c) 24
      rw [World.size_alloc, World.size_alloc] at h
      exact h
  obtain ⟨W, hWe⟩ : ∃ x, x = ((w.alloc (.cells (verC a) 24)).alloc (.cells (verC b) 24)).alloc (.cells (verC c) 24) := ⟨_, rfl⟩
  rw [← hWe] at hW
  have hWe' := hWe.symm
  clear hWe
  have HW : Hid (Kept3 w a b c W) := hW
  clear hW
  have HAB : Hid (∀ wx, Calls Tryd.prog 17 #[verV a, verV b] wx fun e w' => e = .returned (.int .i64 (cmpV a b)) ∧ Below wx.heap.size wx w') := compare_any a b
  have Hbc : Hid (∀ wx, Calls Tryd.prog 17 #[verV b, verV c] wx fun e w' => e = .returned (.int .i64 (cmpV b c)) ∧ Below wx.heap.size wx w') := compare_any b c
  have Hac : Hid (∀ wx, Calls Tryd.prog 17 #[verV a, verV c] wx fun e w' => e = .returned (.int .i64 (cmpV a c)) ∧ Below wx.heap.size wx w') := compare_any a c
  have Hba : Hid (∀ wx, Calls Tryd.prog 17 #[verV b, verV a] wx fun e w' => e = .returned (.int .i64 (-cmpV a b)) ∧ Below wx.heap.size wx w') := fun wx => by
    have h := compare_any b a wx
    rw [preV.anti a b] at h
    exact h
  have Haa : Hid (∀ wx, Calls Tryd.prog 17 #[verV a, verV a] wx fun e w' => e = .returned (.int .i64 0) ∧ Below wx.heap.size wx w') := fun wx => by
    have h := compare_any a a wx
    rw [(cmpV_zero a a).2 rfl] at h
    exact h
  have H12 : Hid (∀ wx, Calls Tryd.prog 17 #[verV oneV, verV twoV] wx fun e w' => e = .returned (.int .i64 (-1)) ∧ Below wx.heap.size wx w') := fun wx => by
    have h := compare_any oneV twoV wx
    rw [cmp_12] at h
    exact h
  have HP1 : Hid (∀ wx, Calls Tryd.prog 8 #[.string ⟨#[49]⟩] wx fun e w' => e = .returned (.tuple #[verV oneV, .int .i64 0]) ∧ Below wx.heap.size wx w') := fun wx => by
    have h := parse_ok ⟨#[49]⟩ wx (by decide)
    rw [parse_1] at h
    exact h
  have HP2 : Hid (∀ wx, Calls Tryd.prog 8 #[.string ⟨#[49, 46, 48]⟩] wx fun e w' => e = .returned (.tuple #[verV twoV, .int .i64 0]) ∧ Below wx.heap.size wx w') := fun wx => by
    have h := parse_ok ⟨#[49, 46, 48]⟩ wx (by decide)
    rw [parse_10] at h
    exact h
  have HEQ : Hid (decide (a = b) = decide (cmpV a b = 0)) := by
    show _ = _
    by_cases e : a = b
    · rw [decide_eq_true e, decide_eq_true ((cmpV_zero a b).2 e)]
    · rw [decide_eq_false e, decide_eq_false (fun h => e ((cmpV_zero a b).1 h))]
  have HS : Hid _ := leInt (preV.sgn a b) (preV.tr a b c) (fun h1 h2 => by
    have e1 := preV.anti a b
    have e2 := preV.anti b c
    have e3 := preV.anti a c
    have := preV.tr c b a (by omega) (by omega)
    omega)
  generalize cmpV a b = x at *
  generalize cmpV b c = y at *
  generalize cmpV a c = z at *
  have Hab := HAB
  clear HAB
  go_enter Tryd.func5, Tryd.ntmps5
  go_wp2
  refine wp_region_quiet (C := Kept3 w a b c) (by kernel_rfl) (by kernel_rfl) (HW.out.next (Below.refl _ _).drew) ?_
  simp only []
  refine q_load 24 _ rfl (by rfl) w.heap.size (verC a) 24 _ rfl (fun w h => h.a) Tryd.underlying24 rfl infoVs ?_
  simp only [Act.put, List.setIfInBounds_toArray, List.set_cons_zero, List.set_cons_succ]
  refine q_load 24 _ rfl (by rfl) (w.heap.size + 1) (verC b) 24 _ rfl (fun w h => h.b) Tryd.underlying24 rfl infoVs ?_
  simp only [Act.put, List.setIfInBounds_toArray, List.set_cons_zero, List.set_cons_succ]
  refine q_call (.int .i64 x) (by rfl) 17 #[verV a, verV b] (fun w h => by go_simp) (fun w h => (Hab.out w).mono fun e w' ⟨he, hb⟩ => ⟨he, h.next hb⟩) ?_
  simp only [Act.put, List.setIfInBounds_toArray, List.set_cons_zero, List.set_cons_succ]
  refine q_load 24 _ rfl (by rfl) (w.heap.size + 1) (verC b) 24 _ rfl (fun w h => h.b) Tryd.underlying24 rfl infoVs ?_
  simp only [Act.put, List.setIfInBounds_toArray, List.set_cons_zero, List.set_cons_succ]
  refine q_load 24 _ rfl (by rfl) (w.heap.size + 2) (verC c) 24 _ rfl (fun w h => h.c) Tryd.underlying24 rfl infoVs ?_
  simp only [Act.put, List.setIfInBounds_toArray, List.set_cons_zero, List.set_cons_succ]
  refine q_call (.int .i64 y) (by rfl) 17 #[verV b, verV c] (fun w h => by go_simp) (fun w h => (Hbc.out w).mono fun e w' ⟨he, hb⟩ => ⟨he, h.next hb⟩) ?_
  simp only [Act.put, List.setIfInBounds_toArray, List.set_cons_zero, List.set_cons_succ]
  refine q_load 24 _ rfl (by rfl) w.heap.size (verC a) 24 _ rfl (fun w h => h.a) Tryd.underlying24 rfl infoVs ?_
  simp only [Act.put, List.setIfInBounds_toArray, List.set_cons_zero, List.set_cons_succ]
  refine q_load 24 _ rfl (by rfl) (w.heap.size + 2) (verC c) 24 _ rfl (fun w h => h.c) Tryd.underlying24 rfl infoVs ?_
  simp only [Act.put, List.setIfInBounds_toArray, List.set_cons_zero, List.set_cons_succ]
  refine q_call (.int .i64 z) (by rfl) 17 #[verV a, verV c] (fun w h => by go_simp) (fun w h => (Hac.out w).mono fun e w' ⟨he, hb⟩ => ⟨he, h.next hb⟩) ?_
  simp only [Act.put, List.setIfInBounds_toArray, List.set_cons_zero, List.set_cons_succ]
  refine q_assign _ rfl (by rfl) ?_
  simp only [Act.put, List.setIfInBounds_toArray, List.set_cons_zero, List.set_cons_succ]
  refine q_assign _ rfl (by rfl) ?_
  simp only [Act.put, List.setIfInBounds_toArray, List.set_cons_zero, List.set_cons_succ]
  refine q_assign _ rfl (by rfl) ?_
  simp only [Act.put, List.setIfInBounds_toArray, List.set_cons_zero, List.set_cons_succ]
  refine wpQuiet_nil ?_
  intro w1 hw1
  simp only [Exit.then]
  have HK1 : Hid (Kept3 w a b c w1) := hw1
  clear hw1 Hbc Hac Hab HW hWe'
  have hp1 := HP1.out w1
  go_wp2_with fail
  refine hp1.mono ?_
  rintro e w2 ⟨rfl, hb2⟩
  have hk3 : Kept3 w a b c (w2.alloc (.cells (verC oneV) 24)) := (HK1.out.next hb2).next ((Below.refl _ _).alloc (Nat.le_refl _) _)
  have hr3 : Row (w2.alloc (.cells (verC oneV) 24)) w2.heap.size (verC oneV) 24 := Row.new _ _ _
  clear hp1 hb2
  go_wp2_with (refine wpList_store_new rfl 24 _ _ rfl w2 zeroC (verC oneV) 24 rfl w2.heap.size rfl rfl rfl infoVs rfl (verC_one _) ?_)
  obtain ⟨w3, hw3⟩ : ∃ x, x = w2.alloc (.cells (verC oneV) 24) := ⟨_, rfl⟩
  rw [← hw3] at hk3 hr3
  rw [← hw3]
  have HK3 : Hid _ := hk3
  have HR3 : Hid (Row w3 w2.heap.size (verC oneV) 24) := hr3
  clear hk3 hr3 hw3
  refine (HP2.out w3).mono ?_
  rintro e w4 ⟨rfl, hb4⟩
  have hk5 : Kept5 w a b c w2.heap.size w4.heap.size (w4.alloc (.cells (verC twoV) 24)) := ⟨(Kept3.next HK3.out hb4).next ((Below.refl _ _).alloc (Nat.le_refl _) _), (Row.below HR3.out hb4 (Row.lt HR3.out)).alloc _, Row.new _ _ _⟩
  have HK5 : Hid _ := hk5
  clear hb4 hk5
  go_wp2_with (first | refine wpList_store_new rfl 24 _ _ rfl w4 zeroC (verC twoV) 24 rfl w4.heap.size rfl rfl rfl infoVs rfl (verC_one _) ?_ | refine wpList_load_wanted (by rfl) 24 _ rfl w2.heap.size rfl 24 (verC oneV) _ HK5.out.p Tryd.underlying24 rfl infoVs ?_ | refine wpList_load_wanted (by rfl) 24 _ rfl w4.heap.size rfl 24 (verC twoV) _ HK5.out.q Tryd.underlying24 rfl infoVs ?_ | refine wpList_load_wanted (by rfl) 24 _ rfl w.heap.size rfl 24 (verC a) _ HK5.out.k.a Tryd.underlying24 rfl infoVs ?_ | refine wpList_load_wanted (by rfl) 24 _ rfl (w.heap.size + 1) rfl 24 (verC b) _ HK5.out.k.b Tryd.underlying24 rfl infoVs ?_ | (refine wp_eqv_wanted (by rfl) 24 guardP a b (fun w => eq_ver a b w) _ _ rfl rfl rfl ?_; rw [HEQ.out]))
  obtain ⟨w5, hw5⟩ : ∃ x, x = w4.alloc (.cells (verC twoV) 24) := ⟨_, rfl⟩
  rw [← hw5] at HK5
  rw [← hw5]
  clear hw5
  have hwn : IntKind.i64.wrap (-x) = -x := by rw [IntKind.wrap_i64]; have := HS.out; omega
  refine (H12.out w5).mono ?_
  rintro e w6 ⟨rfl, hb6⟩
  have hk6 := Kept5.next HK5.out hb6
  have HK6 : Hid (Kept5 w a b c w2.heap.size w4.heap.size w6) := hk6
  clear hb6 hk6
  go_wp2_with (first | refine wpList_load_wanted (by rfl) 24 _ rfl w2.heap.size rfl 24 (verC oneV) _ HK6.out.p Tryd.underlying24 rfl infoVs ?_ | refine wpList_load_wanted (by rfl) 24 _ rfl w4.heap.size rfl 24 (verC twoV) _ HK6.out.q Tryd.underlying24 rfl infoVs ?_ | refine wpList_load_wanted (by rfl) 24 _ rfl w.heap.size rfl 24 (verC a) _ HK6.out.k.a Tryd.underlying24 rfl infoVs ?_ | refine wpList_load_wanted (by rfl) 24 _ rfl (w.heap.size + 1) rfl 24 (verC b) _ HK6.out.k.b Tryd.underlying24 rfl infoVs ?_ | (refine wp_eqv_wanted (by rfl) 24 guardP a b (fun w => eq_ver a b w) _ _ rfl rfl rfl ?_; rw [HEQ.out]))
  refine (Hba.out w6).mono ?_
  rintro e w7 ⟨rfl, hb7⟩
  have hk7 := Kept5.next HK6.out hb7
  have HK7 : Hid (Kept5 w a b c w2.heap.size w4.heap.size w7) := hk7
  clear hb7 hk7
  by_cases hx0 : x = 0
  · have HS0 : Hid ((y ≤ 0 → z ≤ 0) ∧ (0 ≤ y → 0 ≤ z)) := by
      rcases HS.out with ⟨h, _⟩ | ⟨h, _⟩ | ⟨_, h1, h2⟩
      · omega
      · omega
      · exact ⟨h1, h2⟩
    subst hx0
    have HEQ2 : Hid (decide (a = b) = true) := by show _ = _; rw [HEQ.out]; rfl
    clear HS HEQ
    go_wp2_with (first | refine wpList_load_wanted (by rfl) 24 _ rfl w2.heap.size rfl 24 (verC oneV) _ HK7.out.p Tryd.underlying24 rfl infoVs ?_ | refine wpList_load_wanted (by rfl) 24 _ rfl w4.heap.size rfl 24 (verC twoV) _ HK7.out.q Tryd.underlying24 rfl infoVs ?_ | refine wpList_load_wanted (by rfl) 24 _ rfl w.heap.size rfl 24 (verC a) _ HK7.out.k.a Tryd.underlying24 rfl infoVs ?_ | refine wpList_load_wanted (by rfl) 24 _ rfl (w.heap.size + 1) rfl 24 (verC b) _ HK7.out.k.b Tryd.underlying24 rfl infoVs ?_ | (refine wp_eqv_wanted (by rfl) 24 guardP a b (fun w => eq_ver a b w) _ _ rfl rfl rfl ?_; rw [HEQ2.out]))
    refine (Haa.out w7).mono ?_
    rintro e w8 ⟨rfl, hb8⟩
    have hk8 := Kept5.next HK7.out hb8
    have HB8 : Hid (Below w.heap.size w w8) := hk8.k.old
    clear hb8 hk8
    obtain ⟨h1, h2⟩ := HS0.out
    by_cases hy : y ≤ 0
    · have hz := h1 hy
      clear h1
      by_cases hy2 : 0 ≤ y
      · have hz2 := h2 hy2
        clear h2
        go_wp2
        go_ret
        exact ⟨rfl, HB8.out⟩
      · clear h2
        go_wp2
        go_ret
        exact ⟨rfl, HB8.out⟩
    · have hz2 := h2 (by omega)
      have hy2 : 0 ≤ y := by omega
      clear h1 h2
      go_wp2
      go_ret
      exact ⟨rfl, HB8.out⟩
  · have HS0 : Hid ((x = -1 ∧ (y ≤ 0 → z ≤ 0)) ∨ (x = 1 ∧ (0 ≤ y → 0 ≤ z))) := by
      rcases HS.out with h | h | ⟨h, _⟩
      · exact Or.inl h
      · exact Or.inr h
      · exact absurd h hx0
    have HEQ2 : Hid (decide (a = b) = false) := by show _ = _; rw [HEQ.out, decide_eq_false hx0]
    have hxb : (x == 0) = false := by simpa using hx0
    have hxd : decide (x = 0) = false := by simpa using hx0
    clear HS HEQ hx0
    go_wp2_with (first | refine wpList_load_wanted (by rfl) 24 _ rfl w2.heap.size rfl 24 (verC oneV) _ HK7.out.p Tryd.underlying24 rfl infoVs ?_ | refine wpList_load_wanted (by rfl) 24 _ rfl w4.heap.size rfl 24 (verC twoV) _ HK7.out.q Tryd.underlying24 rfl infoVs ?_ | refine wpList_load_wanted (by rfl) 24 _ rfl w.heap.size rfl 24 (verC a) _ HK7.out.k.a Tryd.underlying24 rfl infoVs ?_ | refine wpList_load_wanted (by rfl) 24 _ rfl (w.heap.size + 1) rfl 24 (verC b) _ HK7.out.k.b Tryd.underlying24 rfl infoVs ?_ | (refine wp_eqv_wanted (by rfl) 24 guardP a b (fun w => eq_ver a b w) _ _ rfl rfl rfl ?_; rw [HEQ2.out]))
    refine (Haa.out w7).mono ?_
    rintro e w8 ⟨rfl, hb8⟩
    have hk8 := Kept5.next HK7.out hb8
    have HB8 : Hid (Below w.heap.size w w8) := hk8.k.old
    clear hb8 hk8 hxb hxd
    rcases HS0.out with ⟨rfl, h1⟩ | ⟨rfl, h1⟩
    · by_cases hy : y ≤ 0
      · have hz := h1 hy
        clear h1
        go_wp2
        go_ret
        exact ⟨rfl, HB8.out⟩
      · clear h1
        go_wp2
        go_ret
        exact ⟨rfl, HB8.out⟩
    · by_cases hy : 0 ≤ y
      · have hz := h1 hy
        clear h1
        go_wp2
        go_ret
        exact ⟨rfl, HB8.out⟩
      · clear h1
        go_wp2
        go_ret
        exact ⟨rfl, HB8.out⟩
end Go.Proofs.YthhcpnlpkomoiaaDoor
