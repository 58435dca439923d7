/- My own work: the walk of the law of Put. -/
import Derived.Test.YtmpgfepkdhjibaaDoorRefP
namespace Go.Proofs.YtmpgfepkdhjibaaDoor
open Go.RowKit

set_option maxRecDepth 20000 in
set_option maxHeartbeats 8000000 in
theorem law_puts (d : Dv) (cs : Array Value) (w : World) (h : DrvAt w d cs) (hf : Few d) (hS : Sm d) (hT : ETab w) : Calls Tryd.prog 3 #[.agg cs] w fun e w' => e = .returned (.bool true) ∧ Below w.heap.size w w' := by
  have hb0 : Below w.heap.size w (w.alloc (.cells cs 27)) := below_new (Below.refl _ _) _
  have HO : Hid (Calls Tryd.prog 8 #[.agg cs] (w.alloc (.cells cs 27)) fun e w' => ∃ cs', e = .returned (.agg cs') ∧ DrvAt w' d cs' ∧ Below (w.alloc (.cells cs 27)).heap.size (w.alloc (.cells cs 27)) w') := own_ok d cs _ (h.keep hb0) hf
  have HR0 : Hid (Row (w.alloc (.cells cs 27)) w.heap.size cs 27) := Row.new w _ _
  have HB0 : Hid _ := hb0
  have HD : Hid (DrvAt w d cs) := h
  have SM : Hid (Sm d) := hS
  have HT : Hid (ETab w) := hT
  obtain ⟨vo, vi, vs, va, ve, rfl, _⟩ := h.ex
  clear h hf hb0 hS hT
  go_enter Tryd.func3, Tryd.ntmps3
  go_wp2_with fail
  refine Calls.mono HO.out ?_
  rintro e w1 ⟨cs', rfl, hd1, hb1⟩
  have HB1 : Hid (Below w.heap.size w w1) := below_next HB0.out hb1
  have HR1 : Hid (Row w1 w.heap.size #[vo, vi, vs, .string d.sys, .string d.bld, va, ve] 27) := Row.below HR0.out hb1 (Row.lt HR0.out)
  obtain ⟨xo, xi, xs, xa, xe, rfl, so, si, ss, sa, se⟩ := hd1.ex
  have hb2 : Below w1.heap.size w1 (w1.alloc (.cells #[xo, xi, xs, .string d.sys, .string d.bld, xa, xe] 27)) := below_new (Below.refl _ _) _
  have HR2 : Hid (Row (w1.alloc (.cells #[xo, xi, xs, .string d.sys, .string d.bld, xa, xe] 27)) w1.heap.size #[xo, xi, xs, .string d.sys, .string d.bld, xa, xe] 27) := Row.new w1 _ _
  have HD1 : Hid (DrvAt w1 d #[xo, xi, xs, .string d.sys, .string d.bld, xa, xe]) := hd1
  have HB2 : Hid _ := hb2
  have HP := putD_ok d #[xo, xi, xs, .string d.sys, .string d.bld, xa, xe] _ (hd1.keep hb2) (HT.out.keep (below_next HB1.out hb2))
  obtain ⟨oa, oc, rfl, _⟩ := so.shape
  obtain ⟨ia, ic, rfl, _⟩ : ∃ a c, xi = .slice a d.ins.length c ∧ True := by
    obtain ⟨ns, hns, hsl, _⟩ := si
    obtain ⟨a, c, e, _⟩ := hsl.shape
    exact ⟨a, c, e, trivial⟩
  obtain ⟨ga, gc, rfl, _⟩ := ss.shape
  obtain ⟨aa, ac, rfl, _⟩ := sa.shape
  obtain ⟨ea, ec, rfl, _⟩ := se.shape
  clear hb1 hd1 HO HR0 HB0 so si ss sa se hb2
  go_wp2_with fail
  refine Calls.mono HP ?_
  rintro e w3 ⟨rfl, hb3⟩
  have HB3 : Hid (Below w1.heap.size w1 w3) := below_next HB2.out hb3
  have HR3 : Hid (Row w3 w1.heap.size #[.slice oa d.outs.length oc, .slice ia d.ins.length ic, .slice ga d.srcs.length gc, .string d.sys, .string d.bld, .slice aa d.args.length ac, .slice ea d.env.length ec] 27) := Row.below HR2.out hb3 (Row.lt HR2.out)
  have HA3 : Hid (Row w3 w.heap.size #[vo, vi, vs, .string d.sys, .string d.bld, va, ve] 27) := Row.below HR1.out HB3.out (Row.lt HR1.out)
  have HQ := rput_ok d #[vo, vi, vs, .string d.sys, .string d.bld, va, ve] w3 (HD.out.keep (below_next HB1.out HB3.out)) SM.out
  have m0 := HA3.out.cell 0
  have m1 := HA3.out.cell 1
  have m2 := HA3.out.cell 2
  have m3 := HA3.out.cell 3
  have m4 := HA3.out.cell 4
  have m5 := HA3.out.cell 5
  have m6 := HA3.out.cell 6
  clear hb3 HP HR2 HB2 HR1
  go_wp2_with fail
  refine Calls.mono HQ ?_
  rintro e w4 ⟨rfl, hb4⟩
  have HB4 : Hid (Below w1.heap.size w1 w4.drew) := (below_next HB3.out hb4).drew
  have hbd : Below w3.heap.size w3 w4.drew := hb4.drew
  have hRB : Row w4.drew w1.heap.size #[.slice oa d.outs.length oc, .slice ia d.ins.length ic, .slice ga d.srcs.length gc, .string d.sys, .string d.bld, .slice aa d.args.length ac, .slice ea d.env.length ec] 27 := Row.below HR3.out hbd (Row.lt HR3.out)
  have hRA : Row w4.drew w.heap.size #[vo, vi, vs, .string d.sys, .string d.bld, va, ve] 27 := Row.below HA3.out hbd (Row.lt HA3.out)
  have HRB : Hid (∀ wx, Below w4.drew.heap.size w4.drew wx → Row wx w1.heap.size #[.slice oa d.outs.length oc, .slice ia d.ins.length ic, .slice ga d.srcs.length gc, .string d.sys, .string d.bld, .slice aa d.args.length ac, .slice ea d.env.length ec] 27) := fun wx hb => hRB.below hb hRB.lt
  have HRA : Hid (∀ wx, Below w4.drew.heap.size w4.drew wx → Row wx w.heap.size #[vo, vi, vs, .string d.sys, .string d.bld, va, ve] 27) := fun wx hb => hRA.below hb hRA.lt
  have HW4 : Hid (Below w.heap.size w w4.drew) := below_next HB1.out HB4.out
  have HC1 : Hid (∀ wx, Below w4.drew.heap.size w4.drew wx → Calls Tryd.prog 11 #[.agg #[.slice oa d.outs.length oc, .slice ia d.ins.length ic, .slice ga d.srcs.length gc, .string d.sys, .string d.bld, .slice aa d.args.length ac, .slice ea d.env.length ec]] wx fun e w' => e = .returned (.int .i64 (rightE d)) ∧ Below wx.heap.size wx w') := fun wx hb => right_ok d _ wx (HD1.out.keep (below_next HB4.out hb))
  have HC2 : Hid (∀ wx, Below w4.drew.heap.size w4.drew wx → Calls Tryd.prog 12 #[.agg #[vo, vi, vs, .string d.sys, .string d.bld, va, ve]] wx fun e w' => e = .returned (.int .i64 (rightE d)) ∧ Below wx.heap.size wx w') := fun wx hb => rright_ok d _ wx (HD.out.keep (below_next HW4.out hb))
  have HC3 : Hid (∀ wx, Below w4.drew.heap.size w4.drew wx → Calls Tryd.prog 13 #[.agg #[.slice oa d.outs.length oc, .slice ia d.ins.length ic, .slice ga d.srcs.length gc, .string d.sys, .string d.bld, .slice aa d.args.length ac, .slice ea d.env.length ec], .agg #[vo, vi, vs, .string d.sys, .string d.bld, va, ve]] wx fun e w' => e = .returned (.bool true) ∧ Below wx.heap.size wx w') := fun wx hb => same_ok d _ _ wx (HD1.out.keep (below_next HB4.out hb)) (HD.out.keep (below_next HW4.out hb))
  clear hb4 hbd hRB hRA HQ HB3 HR3 HA3 m0 m1 m2 m3 m4 m5 m6
  generalize putS d = ps at *
  generalize putE d = pe at *
  generalize rightE d = re at *
  have e1 : (ps.toList == ps.toList) = true := by simp
  have e2 : (pe == pe) = true := by simp
  have e3 : (re == re) = true := by simp
  go_wp2_with fail
  refine wp_region_permA [(false, 0), (false, 1), (false, 2), (false, 3), (false, 4), (false, 5), (false, 6), (false, 7), (false, 8), (false, 9), (false, 11), (true, 10), (true, 12), (false, 13), (false, 14), (false, 15), (false, 16), (false, 17), (true, 18), (false, 19), (false, 20), (true, 21), (false, 22), (false, 23)] (fun wx => Below w4.drew.heap.size w4.drew wx) (by kernel_rfl) (by kernel_rfl) (Below.refl _ _) ?_
  generalize w4.drew = wD at *
  refine a_move (some 20) _ rfl rfl rfl (by rfl) ?_
  simp only [Act.put, List.setIfInBounds_toArray, List.set_cons_zero, List.set_cons_succ]
  refine a_move (some 21) _ rfl rfl rfl (by rfl) ?_
  simp only [Act.put, List.setIfInBounds_toArray, List.set_cons_zero, List.set_cons_succ]
  refine a_value (some 22) ?_ rfl rfl (by rfl) (fun w hw => ?_) ?_
  rotate_left
  · go_simp
    with_reducible rfl
  simp only [Act.put, List.setIfInBounds_toArray, List.set_cons_zero, List.set_cons_succ]
  refine a_move (some 23) _ rfl rfl rfl (by rfl) ?_
  simp only [Act.put, List.setIfInBounds_toArray, List.set_cons_zero, List.set_cons_succ]
  refine a_move (some 24) _ rfl rfl rfl (by rfl) ?_
  simp only [Act.put, List.setIfInBounds_toArray, List.set_cons_zero, List.set_cons_succ]
  refine a_move (some 25) _ rfl rfl rfl (by rfl) ?_
  simp only [Act.put, List.setIfInBounds_toArray, List.set_cons_zero, List.set_cons_succ]
  refine a_value (some 26) ?_ rfl rfl (by rfl) (fun w hw => ?_) ?_
  rotate_left
  · go_simp
    with_reducible rfl
  simp only [Act.put, List.setIfInBounds_toArray, List.set_cons_zero, List.set_cons_succ]
  refine a_value (some 27) ?_ rfl rfl (by rfl) (fun w hw => ?_) ?_
  rotate_left
  · go_simp
    with_reducible rfl
  simp only [Act.put, List.setIfInBounds_toArray, List.set_cons_zero, List.set_cons_succ]
  refine a_move (some 28) _ rfl rfl rfl (by rfl) ?_
  simp only [Act.put, List.setIfInBounds_toArray, List.set_cons_zero, List.set_cons_succ]
  refine a_value (some 29) ?_ rfl rfl (by rfl) (fun w hw => ?_) ?_
  rotate_left
  · have c0 := (HRB.out _ hw).cell 0
    have c1 := (HRB.out _ hw).cell 1
    have c2 := (HRB.out _ hw).cell 2
    have c3 := (HRB.out _ hw).cell 3
    have c4 := (HRB.out _ hw).cell 4
    have c5 := (HRB.out _ hw).cell 5
    have c6 := (HRB.out _ hw).cell 6
    go_simp
    with_reducible rfl
  simp only [Act.put, List.setIfInBounds_toArray, List.set_cons_zero, List.set_cons_succ]
  refine a_value (some 31) ?_ rfl rfl (by rfl) (fun w hw => ?_) ?_
  rotate_left
  · have c0 := (HRA.out _ hw).cell 0
    have c1 := (HRA.out _ hw).cell 1
    have c2 := (HRA.out _ hw).cell 2
    have c3 := (HRA.out _ hw).cell 3
    have c4 := (HRA.out _ hw).cell 4
    have c5 := (HRA.out _ hw).cell 5
    have c6 := (HRA.out _ hw).cell 6
    go_simp
    with_reducible rfl
  simp only [Act.put, List.setIfInBounds_toArray, List.set_cons_zero, List.set_cons_succ]
  refine a_call (some 30) rfl rfl (by rfl) 11 #[.agg #[.slice oa d.outs.length oc, .slice ia d.ins.length ic, .slice ga d.srcs.length gc, .string d.sys, .string d.bld, .slice aa d.args.length ac, .slice ea d.env.length ec]] (by go_simp) (Calls.mono (HC1.out _ (Below.refl _ _)) ?_)
  rintro e z1 ⟨rfl, hk1⟩
  have hq1 : Below wD.heap.size wD z1 := hk1
  refine ⟨_, rfl, hq1, ?_⟩
  simp only [Act.put, List.setIfInBounds_toArray, List.set_cons_zero, List.set_cons_succ]
  refine a_call (some 32) rfl rfl (by rfl) 12 #[.agg #[vo, vi, vs, .string d.sys, .string d.bld, va, ve]] (by go_simp) (Calls.mono (HC2.out _ hq1) ?_)
  rintro e z2 ⟨rfl, hk2⟩
  have hq2 : Below wD.heap.size wD z2 := below_next hq1 hk2
  refine ⟨_, rfl, hq2, ?_⟩
  simp only [Act.put, List.setIfInBounds_toArray, List.set_cons_zero, List.set_cons_succ]
  refine a_value (some 33) ?_ rfl rfl (by rfl) (fun w hw => ?_) ?_
  rotate_left
  · go_simp
    with_reducible rfl
  simp only [Act.put, List.setIfInBounds_toArray, List.set_cons_zero, List.set_cons_succ]
  refine a_value (some 34) ?_ rfl rfl (by rfl) (fun w hw => ?_) ?_
  rotate_left
  · go_simp
    with_reducible rfl
  simp only [Act.put, List.setIfInBounds_toArray, List.set_cons_zero, List.set_cons_succ]
  refine a_move (some 35) _ rfl rfl rfl (by rfl) ?_
  simp only [Act.put, List.setIfInBounds_toArray, List.set_cons_zero, List.set_cons_succ]
  refine a_value (some 36) ?_ rfl rfl (by rfl) (fun w hw => ?_) ?_
  rotate_left
  · have c0 := (HRB.out _ hw).cell 0
    have c1 := (HRB.out _ hw).cell 1
    have c2 := (HRB.out _ hw).cell 2
    have c3 := (HRB.out _ hw).cell 3
    have c4 := (HRB.out _ hw).cell 4
    have c5 := (HRB.out _ hw).cell 5
    have c6 := (HRB.out _ hw).cell 6
    go_simp
    with_reducible rfl
  simp only [Act.put, List.setIfInBounds_toArray, List.set_cons_zero, List.set_cons_succ]
  refine a_value (some 37) ?_ rfl rfl (by rfl) (fun w hw => ?_) ?_
  rotate_left
  · have c0 := (HRA.out _ hw).cell 0
    have c1 := (HRA.out _ hw).cell 1
    have c2 := (HRA.out _ hw).cell 2
    have c3 := (HRA.out _ hw).cell 3
    have c4 := (HRA.out _ hw).cell 4
    have c5 := (HRA.out _ hw).cell 5
    have c6 := (HRA.out _ hw).cell 6
    go_simp
    with_reducible rfl
  simp only [Act.put, List.setIfInBounds_toArray, List.set_cons_zero, List.set_cons_succ]
  refine a_call (some 38) rfl rfl (by rfl) 13 #[.agg #[.slice oa d.outs.length oc, .slice ia d.ins.length ic, .slice ga d.srcs.length gc, .string d.sys, .string d.bld, .slice aa d.args.length ac, .slice ea d.env.length ec], .agg #[vo, vi, vs, .string d.sys, .string d.bld, va, ve]] (by go_simp) (Calls.mono (HC3.out _ hq2) ?_)
  rintro e z3 ⟨rfl, hk3⟩
  have hq3 : Below wD.heap.size wD z3 := below_next hq2 hk3
  refine ⟨_, rfl, hq3, ?_⟩
  simp only [Act.put, List.setIfInBounds_toArray, List.set_cons_zero, List.set_cons_succ]
  refine a_value (some 39) ?_ rfl rfl (by rfl) (fun w hw => ?_) ?_
  rotate_left
  · go_simp
    with_reducible rfl
  simp only [Act.put, List.setIfInBounds_toArray, List.set_cons_zero, List.set_cons_succ]
  refine a_move (some 40) _ rfl rfl rfl (by rfl) ?_
  simp only [Act.put, List.setIfInBounds_toArray, List.set_cons_zero, List.set_cons_succ]
  refine a_call (some 41) rfl rfl (by rfl) 14 #[] (by go_simp) (Calls.mono (names_ok _) ?_)
  rintro e z4 ⟨rfl, rfl⟩
  refine ⟨_, rfl, hq3, ?_⟩
  simp only [Act.put, List.setIfInBounds_toArray, List.set_cons_zero, List.set_cons_succ]
  refine a_value (some 42) ?_ rfl rfl (by rfl) (fun w hw => ?_) ?_
  rotate_left
  · go_simp
    with_reducible rfl
  simp only [Act.put, List.setIfInBounds_toArray, List.set_cons_zero, List.set_cons_succ]
  refine a_value (some 2) (.bool true) rfl rfl (by rfl) (fun w hw => by unfold execOp; rfl) ?_
  simp only [Act.put, List.setIfInBounds_toArray, List.set_cons_zero, List.set_cons_succ]
  refine a_done ?_
  try simp only [Exit.then]
  have HZ : Hid (Below w.heap.size w z4) := below_next HW4.out hq3
  clear hq1 hq2 hq3 hk1 hk2 hk3
  go_wp2
  go_ret
  exact ⟨rfl, HZ.out⟩
end Go.Proofs.YtmpgfepkdhjibaaDoor
