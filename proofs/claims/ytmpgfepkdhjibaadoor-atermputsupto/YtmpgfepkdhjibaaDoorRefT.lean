/- My own work: the walk of the document's text. -/
import Derived.Test.YtmpgfepkdhjibaaDoorRefL
import Derived.Test.YtmpgfepkdhjibaaDoorWr7
import Derived.Test.YtmpgfepkdhjibaaDoorPermA
namespace Go.Proofs.YtmpgfepkdhjibaaDoor
open Go.RowKit

/-- A derivation of few and short texts. -/
structure Sm (d : Dv) : Prop where
  outs : d.outs.length ≤ 1048576
  ins : d.ins.length ≤ 1048576
  srcs : d.srcs.length ≤ 1048576
  args : d.args.length ≤ 1048576
  env : d.env.length ≤ 1048576
  names : ∀ x ∈ d.ins, x.2.length ≤ 1048576
  so : ∀ o ∈ d.outs, o.1.size ≤ 1048576 ∧ o.2.1.size ≤ 1048576 ∧ o.2.2.size ≤ 1048576
  si : ∀ o ∈ d.ins, o.1.size ≤ 1048576 ∧ ∀ s ∈ o.2, s.size ≤ 1048576
  ss : ∀ s ∈ d.srcs, s.size ≤ 1048576
  sy : d.sys.size ≤ 1048576
  sb : d.bld.size ≤ 1048576
  sa : ∀ s ∈ d.args, s.size ≤ 1048576
  se : ∀ o ∈ d.env, o.1.size ≤ 1048576 ∧ o.2.size ≤ 1048576
theorem listE_len (l : List ByteArray) (h1 : l.length ≤ 1048576) (h2 : ∀ s ∈ l, s.size ≤ 1048576) : (listU (l.map strE)).length ≤ 2199026401282 := by
  have h := sepU_len (l.map strE) 2097154 (fun x hx => by obtain ⟨s, h3, rfl⟩ := List.mem_map.1 hx; exact strE_len s (h2 s h3))
  rw [List.length_map] at h
  have h4 : l.length * (2097154 + 1) ≤ 1048576 * (2097154 + 1) := Nat.mul_le_mul_right _ h1
  unfold listU
  simp only [List.length_append, List.length_cons, List.length_nil]
  omega
theorem outE_len (o : ByteArray × ByteArray × ByteArray) (h : o.1.size ≤ 1048576 ∧ o.2.1.size ≤ 1048576 ∧ o.2.2.size ≤ 1048576) : (outE o).length ≤ 6291466 := by
  have h1 := strE_len _ h.1
  have h2 := strE_len _ h.2.1
  have h3 := strE_len _ h.2.2
  unfold outE sepU
  simp only [List.flatMap_cons, List.flatMap_nil, List.length_append, List.length_cons, List.length_nil]
  omega
theorem pairE_len (o : ByteArray × ByteArray) (h : o.1.size ≤ 1048576 ∧ o.2.size ≤ 1048576) : (pairE o).length ≤ 4194311 := by
  have h1 := strE_len _ h.1
  have h2 := strE_len _ h.2
  unfold pairE sepU
  simp only [List.flatMap_cons, List.flatMap_nil, List.length_append, List.length_cons, List.length_nil]
  omega
theorem inE_len (o : ByteArray × List ByteArray) (h : o.1.size ≤ 1048576 ∧ ∀ s ∈ o.2, s.size ≤ 1048576) (hn : o.2.length ≤ 1048576) : (inE o).length ≤ 2199028498439 := by
  have h1 := strE_len _ h.1
  have h2 := listE_len o.2 hn h.2
  unfold inE
  simp only [List.length_append, List.length_cons, List.length_nil]
  omega
theorem take_len {α : Type} (E : α → List UInt8) (K : Nat) (l : List α) (h1 : l.length ≤ 1048576) (h2 : ∀ x ∈ l, (E x).length ≤ K) (i : Nat) : (sepU ((l.map E).take i)).length ≤ 1048576 * (K + 1) := by
  have h := sepU_len ((l.map E).take i) K (fun x hx => by
    obtain ⟨s, h3, rfl⟩ := List.mem_map.1 (List.mem_of_mem_take hx)
    exact h2 s h3)
  have h4 : ((l.map E).take i).length ≤ 1048576 := by rw [List.length_take, List.length_map]; omega
  exact Nat.le_trans h (Nat.mul_le_mul_right _ h4)
set_option maxRecDepth 20000 in
set_option maxHeartbeats 16000000 in
theorem text_ok (d : Dv) (cs : Array Value) (w : World) (h : DrvAt w d cs) (hS : Sm d) : Calls Tryd.prog 20 #[.agg cs] w fun e w' => e = .returned (.string (tx (drvE d))) ∧ Below w.heap.size w w' := by
  obtain ⟨vo, vi, vs, va, ve, rfl, ho, hi, hs, ha, he⟩ := h.ex
  obtain ⟨oa, oc, bo, fo, rfl, o1, o2, o3, o4⟩ := ho.cells3
  obtain ⟨sa, sc, rfl, s1, s2⟩ := hs.shape
  obtain ⟨aa, ac, rfl, a1, a2⟩ := ha.shape
  obtain ⟨ea, ec, be, fe, rfl, e1, e2, e3, e4⟩ := he.cells2
  obtain ⟨ns, ia, ic, bi, fi, hns, hsl, rfl, i1, i2, i3, hin⟩ := hi.cells
  have HO : Hid _ := o4
  have HSr : Hid (SlAt w (.slice sa d.srcs.length sc) d.srcs.length (strV d.srcs)) := hs
  have HAr : Hid (SlAt w (.slice aa d.args.length ac) d.args.length (strV d.args)) := ha
  have HE : Hid _ := e4
  have HI : Hid _ := hin
  have SM : Hid (Sm d) := hS
  clear ho hi hs ha he o4 e4 hin hsl h hS
  have hb0 : Below w.heap.size w (w.alloc (.cells #[.slice oa d.outs.length oc, .slice ia d.ins.length ic, .slice sa d.srcs.length sc, .string d.sys, .string d.bld, .slice aa d.args.length ac, .slice ea d.env.length ec] 27)) := below_new (Below.refl _ _) _
  have hr0 : Row (w.alloc (.cells #[.slice oa d.outs.length oc, .slice ia d.ins.length ic, .slice sa d.srcs.length sc, .string d.sys, .string d.bld, .slice aa d.args.length ac, .slice ea d.env.length ec] 27)) w.heap.size #[.slice oa d.outs.length oc, .slice ia d.ins.length ic, .slice sa d.srcs.length sc, .string d.sys, .string d.bld, .slice aa d.args.length ac, .slice ea d.env.length ec] 27 := Row.new w _ _
  have oo : d.outs.length = 0 ∨ oa = some ⟨bo, fo, none⟩ := by
    by_cases hl : d.outs.length = 0
    · exact .inl hl
    · exact .inr (o3 (by omega))
  have ii : d.ins.length = 0 ∨ ia = some ⟨bi, fi, none⟩ := by
    by_cases hl : d.ins.length = 0
    · exact .inl hl
    · exact .inr (i3 (by omega))
  have ee : d.env.length = 0 ∨ ea = some ⟨be, fe, none⟩ := by
    by_cases hl : d.env.length = 0
    · exact .inl hl
    · exact .inr (e3 (by omega))
  have HB0 : Hid _ := hb0
  have HR0 : Hid _ := hr0
  clear o3 i3 e3 hb0 hr0
  have HTO : Hid (∀ i, (sepU ((d.outs.map outE).take i)).length ≤ 6597081300992) := fun i => take_len outE 6291466 d.outs SM.out.outs (fun o ho => outE_len o (SM.out.so o ho)) i
  have HTI : Hid (∀ i, (sepU ((d.ins.map inE).take i)).length ≤ 2305848506780221440) := fun i => take_len inE 2199028498439 d.ins SM.out.ins (fun o ho => inE_len o (SM.out.si o ho) (SM.out.names o ho)) i
  have HTE : Hid (∀ i, (sepU ((d.env.map pairE).take i)).length ≤ 4398054899712) := fun i => take_len pairE 4194311 d.env SM.out.env (fun o ho => pairE_len o (SM.out.se o ho)) i
  have HLS := listE_len d.srcs SM.out.srcs SM.out.ss
  have HLA := listE_len d.args SM.out.args SM.out.sa
  have HLY := strE_len d.sys SM.out.sy
  have HLB := strE_len d.bld SM.out.sb
  obtain ⟨pre1, hp1⟩ : ∃ p : List UInt8, p = [68, 101, 114, 105, 118, 101, 40, 91] := ⟨_, rfl⟩
  have hpre : (⟨#[68, 101, 114, 105, 118, 101, 40, 91]⟩ : ByteArray) = tx pre1 := by rw [hp1]; rfl
  have hpl : pre1.length = 8 := by rw [hp1]; rfl
  have HP1 : Hid (pre1 = [68, 101, 114, 105, 118, 101, 40, 91]) := hp1
  clear hp1
  go_enter Tryd.func20, Tryd.ntmps20
  go_wp2
  go_loopw [3, 4] (fun sv iv wx => ∃ (i : Nat) (M : List UInt8), iv = .int .i64 i ∧ i ≤ d.outs.length ∧ sv = .string (tx M) ∧ Hid (M = pre1 ++ sepU ((d.outs.map outE).take i)) ∧ Hid (Below w.heap.size w wx) ∧ Hid (Row wx w.heap.size #[.slice oa d.outs.length oc, .slice ia d.ins.length ic, .slice sa d.srcs.length sc, .string d.sys, .string d.bld, .slice aa d.args.length ac, .slice ea d.env.length ec] 27)) (fun _ iv _ => d.outs.length - (intOf iv).toNat)
  case atStart => exact ⟨0, pre1, rfl, by omega, by rw [hpre], by show _ = _; simp [sepU], HB0, HR0⟩
  case round =>
    clear HB0 HR0
    obtain ⟨i, M, rfl, hi1, rfl, HM, HB, HR⟩ := hrel
    have r0 := (HR.out.cell 0).trans (rfl : _ = some (Value.slice oa d.outs.length oc))
    have hln : M.length ≤ 6597081301000 := by
      have := HTO.out i
      rw [HM.out, List.length_append]
      omega
    by_cases hlt : i < d.outs.length
    · have hlt' : (i : Int) < (d.outs.length : Int) := by omega
      obtain rfl := oo.resolve_left (by omega)
      obtain ⟨k0, k1, k2⟩ := HO.out _ HB.out i hlt
      obtain ⟨x, hx⟩ : ∃ x, x = d.outs[i] := ⟨_, rfl⟩
      rw [← hx] at k0 k1 k2
      have hxs : x.1.size ≤ 1048576 ∧ x.2.1.size ≤ 1048576 ∧ x.2.2.size ≤ 1048576 := by rw [hx]; exact SM.out.so _ (List.getElem_mem hlt)
      obtain ⟨y0, y1, y2⟩ := hxs
      have q0 := strE_len _ y0
      have q1 := strE_len _ y1
      have q2 := strE_len _ y2
      have HT : Hid (pre1 ++ sepU ((d.outs.map outE).take (i + 1)) = M ++ comU i ++ [40] ++ strE x.1 ++ [44] ++ strE x.2.1 ++ [44] ++ strE x.2.2 ++ [41]) := by
        show _ = _
        rw [sepU_take _ i (by simpa using hlt), List.getElem_map, ← hx, HM.out]
        simp only [comU, outE, sepU, List.flatMap_cons, List.flatMap_nil, List.append_assoc, List.cons_append, List.nil_append, List.append_nil]
      clear hx HM
      obtain ⟨x0, x1, x2⟩ := x
      simp only at k0 k1 k2 y0 y1 y2 q0 q1 q2 HT
      have hcl : (comU i).length ≤ 1 := by unfold comU; split <;> simp
      have HbA : Hid (Below wr.heap.size wr (wr.alloc (.cells #[.string x0, .string x1, .string x2] 46)).drew) := (below_new (Below.refl _ _) _).drew
      have HRA : Hid (Row (wr.alloc (.cells #[.string x0, .string x1, .string x2] 46)).drew wr.heap.size #[.string x0, .string x1, .string x2] 46) := Row.drew (Row.new wr _ _)
      have HC0 : Hid (∀ wx, Calls Tryd.prog 41 #[.int .i64 i] wx fun e w' => e = .returned (.string (tx (comU i))) ∧ w' = wx) := fun wx => comma_ok i wx
      have HQ0 : Hid (∀ wx, Calls Tryd.prog 18 #[.string x0] wx fun e w' => e = .returned (.string (tx (strE x0))) ∧ Below wx.heap.size wx w') := fun wx => rquote_ok x0 wx (by omega)
      have HQ1 : Hid (∀ wx, Calls Tryd.prog 18 #[.string x1] wx fun e w' => e = .returned (.string (tx (strE x1))) ∧ Below wx.heap.size wx w') := fun wx => rquote_ok x1 wx (by omega)
      have HQ2 : Hid (∀ wx, Calls Tryd.prog 18 #[.string x2] wx fun e w' => e = .returned (.string (tx (strE x2))) ∧ Below wx.heap.size wx w') := fun wx => rquote_ok x2 wx (by omega)
      generalize comU i = cm at *
      generalize strE x0 = e0 at *
      generalize strE x1 = e1' at *
      generalize strE x2 = e2' at *
      go_wp2_with fail
      refine wp_region_permA [(false, 0), (false, 1), (false, 5), (false, 6), (false, 10), (false, 11), (false, 15), (false, 16), (true, 2), (false, 3), (false, 4), (true, 7), (false, 8), (false, 9), (true, 12), (false, 13), (false, 14), (true, 17), (false, 18), (false, 19), (false, 20)] (fun wx => Below (wr.alloc (.cells #[.string x0, .string x1, .string x2] 46)).drew.heap.size (wr.alloc (.cells #[.string x0, .string x1, .string x2] 46)).drew wx) (by kernel_rfl) (by kernel_rfl) (Below.refl _ _) ?_
      refine a_value (some 20) (.string (tx M)) rfl rfl (by rfl) (fun w hw => by unfold execOp; rfl) ?_
      simp only [Act.put, List.setIfInBounds_toArray, List.set_cons_zero, List.set_cons_succ]
      refine a_value (some 21) (.int .i64 i) rfl rfl (by rfl) (fun w hw => by unfold execOp; rfl) ?_
      simp only [Act.put, List.setIfInBounds_toArray, List.set_cons_zero, List.set_cons_succ]
      refine a_value (some 25) ?_ rfl rfl (by rfl) (fun w hw => ?_) ?_
      rotate_left
      · go_simp
        with_reducible rfl
      simp only [Act.put, List.setIfInBounds_toArray, List.set_cons_zero, List.set_cons_succ]
      refine a_value (some 26) ?_ rfl rfl (by rfl) (fun w hw => ?_) ?_
      rotate_left
      · have c0 := (Row.below HRA.out hw (Row.lt HRA.out)).cell 0
        go_simp
        with_reducible rfl
      simp only [Act.put, List.setIfInBounds_toArray, List.set_cons_zero, List.set_cons_succ]
      refine a_value (some 30) ?_ rfl rfl (by rfl) (fun w hw => ?_) ?_
      rotate_left
      · go_simp
        with_reducible rfl
      simp only [Act.put, List.setIfInBounds_toArray, List.set_cons_zero, List.set_cons_succ]
      refine a_value (some 31) ?_ rfl rfl (by rfl) (fun w hw => ?_) ?_
      rotate_left
      · have c0 := (Row.below HRA.out hw (Row.lt HRA.out)).cell 1
        go_simp
        with_reducible rfl
      simp only [Act.put, List.setIfInBounds_toArray, List.set_cons_zero, List.set_cons_succ]
      refine a_value (some 35) ?_ rfl rfl (by rfl) (fun w hw => ?_) ?_
      rotate_left
      · go_simp
        with_reducible rfl
      simp only [Act.put, List.setIfInBounds_toArray, List.set_cons_zero, List.set_cons_succ]
      refine a_value (some 36) ?_ rfl rfl (by rfl) (fun w hw => ?_) ?_
      rotate_left
      · have c0 := (Row.below HRA.out hw (Row.lt HRA.out)).cell 2
        go_simp
        with_reducible rfl
      simp only [Act.put, List.setIfInBounds_toArray, List.set_cons_zero, List.set_cons_succ]
      refine a_call (some 22) rfl rfl (by rfl) 41 #[.int .i64 i] (by go_simp) (Calls.mono (HC0.out _) ?_)
      rintro e wc ⟨rfl, rfl⟩
      refine ⟨_, rfl, Below.refl _ _, ?_⟩
      simp only [Act.put, List.setIfInBounds_toArray, List.set_cons_zero, List.set_cons_succ]
      refine a_value (some 23) (.string (tx (M ++ cm))) rfl rfl (by rfl) (fun w hw => exec_cat _ _ _ _ rfl (M) (cm) rfl rfl (by omega) w) ?_
      simp only [Act.put, List.setIfInBounds_toArray, List.set_cons_zero, List.set_cons_succ]
      refine a_value (some 24) (.string (tx (M ++ cm ++ [40]))) rfl rfl (by rfl) (fun w hw => exec_cat _ _ _ _ rfl (M ++ cm) ([40]) rfl rfl (by simp only [List.length_append, List.length_cons, List.length_nil]; omega) w) ?_
      simp only [Act.put, List.setIfInBounds_toArray, List.set_cons_zero, List.set_cons_succ]
      refine a_call (some 27) rfl rfl (by rfl) 18 #[.string x0] (by go_simp) (Calls.mono (HQ0.out _) ?_)
      rintro e w3 ⟨rfl, hb3⟩
      refine ⟨_, rfl, hb3, ?_⟩
      simp only [Act.put, List.setIfInBounds_toArray, List.set_cons_zero, List.set_cons_succ]
      refine a_value (some 28) (.string (tx (M ++ cm ++ [40] ++ e0))) rfl rfl (by rfl) (fun w hw => exec_cat _ _ _ _ rfl (M ++ cm ++ [40]) (e0) rfl rfl (by simp only [List.length_append, List.length_cons, List.length_nil]; omega) w) ?_
      simp only [Act.put, List.setIfInBounds_toArray, List.set_cons_zero, List.set_cons_succ]
      refine a_value (some 29) (.string (tx (M ++ cm ++ [40] ++ e0 ++ [44]))) rfl rfl (by rfl) (fun w hw => exec_cat _ _ _ _ rfl (M ++ cm ++ [40] ++ e0) ([44]) rfl rfl (by simp only [List.length_append, List.length_cons, List.length_nil]; omega) w) ?_
      simp only [Act.put, List.setIfInBounds_toArray, List.set_cons_zero, List.set_cons_succ]
      refine a_call (some 32) rfl rfl (by rfl) 18 #[.string x1] (by go_simp) (Calls.mono (HQ1.out _) ?_)
      rintro e w4 ⟨rfl, hc4⟩
      have hb4 := below_next hb3 hc4
      refine ⟨_, rfl, hb4, ?_⟩
      simp only [Act.put, List.setIfInBounds_toArray, List.set_cons_zero, List.set_cons_succ]
      refine a_value (some 33) (.string (tx (M ++ cm ++ [40] ++ e0 ++ [44] ++ e1'))) rfl rfl (by rfl) (fun w hw => exec_cat _ _ _ _ rfl (M ++ cm ++ [40] ++ e0 ++ [44]) (e1') rfl rfl (by simp only [List.length_append, List.length_cons, List.length_nil]; omega) w) ?_
      simp only [Act.put, List.setIfInBounds_toArray, List.set_cons_zero, List.set_cons_succ]
      refine a_value (some 34) (.string (tx (M ++ cm ++ [40] ++ e0 ++ [44] ++ e1' ++ [44]))) rfl rfl (by rfl) (fun w hw => exec_cat _ _ _ _ rfl (M ++ cm ++ [40] ++ e0 ++ [44] ++ e1') ([44]) rfl rfl (by simp only [List.length_append, List.length_cons, List.length_nil]; omega) w) ?_
      simp only [Act.put, List.setIfInBounds_toArray, List.set_cons_zero, List.set_cons_succ]
      refine a_call (some 37) rfl rfl (by rfl) 18 #[.string x2] (by go_simp) (Calls.mono (HQ2.out _) ?_)
      rintro e w5 ⟨rfl, hc5⟩
      have hb5 := below_next hb4 hc5
      refine ⟨_, rfl, hb5, ?_⟩
      simp only [Act.put, List.setIfInBounds_toArray, List.set_cons_zero, List.set_cons_succ]
      refine a_value (some 38) (.string (tx (M ++ cm ++ [40] ++ e0 ++ [44] ++ e1' ++ [44] ++ e2'))) rfl rfl (by rfl) (fun w hw => exec_cat _ _ _ _ rfl (M ++ cm ++ [40] ++ e0 ++ [44] ++ e1' ++ [44]) (e2') rfl rfl (by simp only [List.length_append, List.length_cons, List.length_nil]; omega) w) ?_
      simp only [Act.put, List.setIfInBounds_toArray, List.set_cons_zero, List.set_cons_succ]
      refine a_value (some 39) (.string (tx (M ++ cm ++ [40] ++ e0 ++ [44] ++ e1' ++ [44] ++ e2' ++ [41]))) rfl rfl (by rfl) (fun w hw => exec_cat _ _ _ _ rfl (M ++ cm ++ [40] ++ e0 ++ [44] ++ e1' ++ [44] ++ e2') ([41]) rfl rfl (by simp only [List.length_append, List.length_cons, List.length_nil]; omega) w) ?_
      simp only [Act.put, List.setIfInBounds_toArray, List.set_cons_zero, List.set_cons_succ]
      refine a_value (some 3) (.string (tx (M ++ cm ++ [40] ++ e0 ++ [44] ++ e1' ++ [44] ++ e2' ++ [41]))) rfl rfl (by rfl) (fun w hw => by unfold execOp; rfl) ?_
      simp only [Act.put, List.setIfInBounds_toArray, List.set_cons_zero, List.set_cons_succ]
      refine a_done ?_
      try simp only [Exit.then]
      clear hb3 hb4 hc4 hc5
      generalize hM2 : M ++ cm ++ [40] ++ e0 ++ [44] ++ e1' ++ [44] ++ e2' ++ [41] = M2 at *
      have HB5 : Hid (Below w.heap.size w w5) := below_next HB.out (below_next HbA.out hb5)
      have HR5 : Hid (Row w5 w.heap.size #[.slice (some ⟨bo, fo, none⟩) d.outs.length oc, .slice ia d.ins.length ic, .slice sa d.srcs.length sc, .string d.sys, .string d.bld, .slice aa d.args.length ac, .slice ea d.env.length ec] 27) := HR.out.below (below_next HbA.out hb5) HR.out.lt
      clear hM2 hb5 HbA HRA HC0 HQ0 HQ1 HQ2
      go_wp2
      go_roundw
      case rel => exact ⟨i + 1, M2, by go_num, by omega, rfl, HT.out.symm, HB5, HR5⟩
      case measure => simp [intOf]; omega
    · have hlt' : ¬ (i : Int) < (d.outs.length : Int) := by omega
      have HM1 : Hid (M = pre1 ++ sepU (d.outs.map outE)) := by
        show _ = _
        rw [HM.out, List.take_of_length_le (by simp; omega)]
      clear HM
      obtain ⟨wE, rfl⟩ : ∃ x, x = wr := ⟨wr, rfl⟩
      go_wp2_with (refine wp_cat rfl _ _ rfl M [93, 44, 91] rfl rfl (by simp only [List.length_cons, List.length_nil]; omega) ?_)
      obtain ⟨pre2, hp2⟩ : ∃ p, p = M ++ [93, 44, 91] := ⟨_, rfl⟩
      rw [← hp2]
      have hpl2 : pre2.length ≤ 6597081301000 + 3 := by rw [hp2, List.length_append]; simp only [List.length_cons, List.length_nil]; omega
      have HP2 : Hid (pre2 = pre1 ++ sepU (d.outs.map outE) ++ [93, 44, 91]) := by show _ = _; rw [hp2, HM1.out]
      clear hp2 HM1 hln r0 hlt hlt' hi1
      go_wp2
      go_loopw [3, 6] (fun sv iv wx => ∃ (i : Nat) (M : List UInt8), iv = .int .i64 i ∧ i ≤ d.ins.length ∧ sv = .string (tx M) ∧ Hid (M = pre2 ++ sepU ((d.ins.map inE).take i)) ∧ Hid (Below w.heap.size w wx) ∧ Hid (Row wx w.heap.size #[.slice oa d.outs.length oc, .slice ia d.ins.length ic, .slice sa d.srcs.length sc, .string d.sys, .string d.bld, .slice aa d.args.length ac, .slice ea d.env.length ec] 27)) (fun _ iv _ => d.ins.length - (intOf iv).toNat)
      case atStart => exact ⟨0, pre2, rfl, by omega, rfl, by show _ = _; simp [sepU], HB, HR⟩
      case round =>
        clear HB HR
        obtain ⟨i, M, rfl, hi1, rfl, HM, HB, HR⟩ := hrel
        have r1 := (HR.out.cell 1).trans (rfl : _ = some (Value.slice ia d.ins.length ic))
        have hln : M.length ≤ 2305855103861522443 := by
          have := HTI.out i
          rw [HM.out, List.length_append]
          omega
        by_cases hlt : i < d.ins.length
        · have hlt' : (i : Int) < (d.ins.length : Int) := by omega
          obtain rfl := ii.resolve_left (by omega)
          obtain ⟨n, k0, k1, hn⟩ := HI.out wr.drew (HB.out.drew) i hlt
          obtain ⟨x, hx⟩ : ∃ x, x = d.ins[i] := ⟨_, rfl⟩
          rw [← hx] at k0 hn
          have hxs : x.1.size ≤ 1048576 ∧ ∀ s ∈ x.2, s.size ≤ 1048576 := by rw [hx]; exact SM.out.si _ (List.getElem_mem hlt)
          have hxn : x.2.length ≤ 1048576 := by rw [hx]; exact SM.out.names _ (List.getElem_mem hlt)
          have q0 := strE_len _ hxs.1
          have q1 := listE_len x.2 hxn hxs.2
          have HT : Hid (pre2 ++ sepU ((d.ins.map inE).take (i + 1)) = M ++ comU i ++ [40] ++ strE x.1 ++ [44] ++ listU (x.2.map strE) ++ [41]) := by
            show _ = _
            rw [sepU_take _ i (by simpa using hlt), List.getElem_map, ← hx, HM.out]
            simp only [comU, inE, List.append_assoc, List.cons_append, List.nil_append]
          clear hx HM
          have hcl : (comU i).length ≤ 1 := by unfold comU; split <;> simp
          have K : Hid (∀ wx, Below wr.drew.heap.size wr.drew wx → wx.cell? ⟨bi, fi + i * 2, none⟩ = some (.string x.1) ∧ wx.cell? ⟨bi, fi + i * 2 + 1, none⟩ = some n) := fun wx hb => ⟨(World.cell?_of_block (w := wr.drew) (hb.block bi (World.block_lt_of_cell? _ _ k0))).trans k0, (World.cell?_of_block (w := wr.drew) (hb.block bi (World.block_lt_of_cell? _ _ k1))).trans k1⟩
          have HRd : Hid (∀ wx, Below wr.drew.heap.size wr.drew wx → Row wx w.heap.size #[.slice oa d.outs.length oc, .slice (some ⟨bi, fi, none⟩) d.ins.length ic, .slice sa d.srcs.length sc, .string d.sys, .string d.bld, .slice aa d.args.length ac, .slice ea d.env.length ec] 27) := fun wx hb => Row.below (Row.drew HR.out) hb (Row.lt (Row.drew HR.out))
          have HC0 : Hid (∀ wx, Calls Tryd.prog 41 #[.int .i64 i] wx fun e w' => e = .returned (.string (tx (comU i))) ∧ w' = wx) := fun wx => comma_ok i wx
          have HQ0 : Hid (∀ wx, Calls Tryd.prog 18 #[.string x.1] wx fun e w' => e = .returned (.string (tx (strE x.1))) ∧ Below wx.heap.size wx w') := fun wx => rquote_ok x.1 wx (by have := hxs.1; omega)
          have HQ1 : Hid (∀ wx, Below wr.drew.heap.size wr.drew wx → Calls Tryd.prog 42 #[n] wx fun e w' => e = .returned (.string (tx (listU (x.2.map strE)))) ∧ Below wx.heap.size wx w') := fun wx hb => rlist_ok x.2 n wx (hn.keep hb) hxn hxs.2
          obtain ⟨na, nc, rfl, _⟩ := hn.shape
          clear hn k0 k1 hxs
          generalize comU i = cm at *
          generalize strE x.1 = e0 at *
          generalize listU (x.2.map strE) = e1' at *
          generalize x.2.length = xl at *
          generalize x.1 = x0 at *
          go_wp2_with fail
          refine wp_region_permA [(false, 0), (false, 1), (false, 5), (false, 6), (false, 7), (false, 8), (false, 9), (false, 10), (false, 14), (false, 15), (false, 16), (false, 17), (false, 18), (false, 19), (true, 2), (false, 3), (false, 4), (true, 11), (false, 12), (false, 13), (true, 20), (false, 21), (false, 22), (false, 23)] (fun wx => Below wr.drew.heap.size wr.drew wx) (by kernel_rfl) (by kernel_rfl) (Below.refl _ _) ?_
          refine a_value (some 49) (.string (tx M)) rfl rfl (by rfl) (fun w hw => by unfold execOp; rfl) ?_
          simp only [Act.put, List.setIfInBounds_toArray, List.set_cons_zero, List.set_cons_succ]
          refine a_value (some 50) (.int .i64 i) rfl rfl (by rfl) (fun w hw => by unfold execOp; rfl) ?_
          simp only [Act.put, List.setIfInBounds_toArray, List.set_cons_zero, List.set_cons_succ]
          refine a_value (some 54) ?_ rfl rfl (by rfl) (fun w hw => ?_) ?_
          rotate_left
          · go_simp
            with_reducible rfl
          simp only [Act.put, List.setIfInBounds_toArray, List.set_cons_zero, List.set_cons_succ]
          refine a_value (some 55) ?_ rfl rfl (by rfl) (fun w hw => ?_) ?_
          rotate_left
          · have c0 := ((HRd.out _ hw).cell 1).trans (rfl : _ = some (Value.slice (some ⟨bi, fi, none⟩) d.ins.length ic))
            go_simp
            with_reducible rfl
          simp only [Act.put, List.setIfInBounds_toArray, List.set_cons_zero, List.set_cons_succ]
          refine a_value (some 56) (.int .i64 i) rfl rfl (by rfl) (fun w hw => by unfold execOp; rfl) ?_
          simp only [Act.put, List.setIfInBounds_toArray, List.set_cons_zero, List.set_cons_succ]
          refine a_value (some 57) ?_ rfl rfl (by rfl) (fun w hw => ?_) ?_
          rotate_left
          · go_simp
            with_reducible rfl
          simp only [Act.put, List.setIfInBounds_toArray, List.set_cons_zero, List.set_cons_succ]
          refine a_value (some 58) ?_ rfl rfl (by rfl) (fun w hw => ?_) ?_
          rotate_left
          · go_simp
            with_reducible rfl
          simp only [Act.put, List.setIfInBounds_toArray, List.set_cons_zero, List.set_cons_succ]
          refine a_value (some 59) ?_ rfl rfl (by rfl) (fun w hw => ?_) ?_
          rotate_left
          · obtain ⟨y0, y1⟩ := K.out _ hw
            go_simp
            with_reducible rfl
          simp only [Act.put, List.setIfInBounds_toArray, List.set_cons_zero, List.set_cons_succ]
          refine a_value (some 63) ?_ rfl rfl (by rfl) (fun w hw => ?_) ?_
          rotate_left
          · go_simp
            with_reducible rfl
          simp only [Act.put, List.setIfInBounds_toArray, List.set_cons_zero, List.set_cons_succ]
          refine a_value (some 64) ?_ rfl rfl (by rfl) (fun w hw => ?_) ?_
          rotate_left
          · have c0 := ((HRd.out _ hw).cell 1).trans (rfl : _ = some (Value.slice (some ⟨bi, fi, none⟩) d.ins.length ic))
            go_simp
            with_reducible rfl
          simp only [Act.put, List.setIfInBounds_toArray, List.set_cons_zero, List.set_cons_succ]
          refine a_value (some 65) (.int .i64 i) rfl rfl (by rfl) (fun w hw => by unfold execOp; rfl) ?_
          simp only [Act.put, List.setIfInBounds_toArray, List.set_cons_zero, List.set_cons_succ]
          refine a_value (some 66) ?_ rfl rfl (by rfl) (fun w hw => ?_) ?_
          rotate_left
          · go_simp
            with_reducible rfl
          simp only [Act.put, List.setIfInBounds_toArray, List.set_cons_zero, List.set_cons_succ]
          refine a_value (some 67) ?_ rfl rfl (by rfl) (fun w hw => ?_) ?_
          rotate_left
          · go_simp
            with_reducible rfl
          simp only [Act.put, List.setIfInBounds_toArray, List.set_cons_zero, List.set_cons_succ]
          refine a_value (some 68) ?_ rfl rfl (by rfl) (fun w hw => ?_) ?_
          rotate_left
          · obtain ⟨y0, y1⟩ := K.out _ hw
            go_simp
            with_reducible rfl
          simp only [Act.put, List.setIfInBounds_toArray, List.set_cons_zero, List.set_cons_succ]
          refine a_call (some 51) rfl rfl (by rfl) 41 #[.int .i64 i] (by go_simp) (Calls.mono (HC0.out _) ?_)
          rintro e wc ⟨rfl, rfl⟩
          refine ⟨_, rfl, Below.refl _ _, ?_⟩
          simp only [Act.put, List.setIfInBounds_toArray, List.set_cons_zero, List.set_cons_succ]
          refine a_value (some 52) (.string (tx (M ++ cm))) rfl rfl (by rfl) (fun w hw => exec_cat _ _ _ _ rfl (M) (cm) rfl rfl (by omega) w) ?_
          simp only [Act.put, List.setIfInBounds_toArray, List.set_cons_zero, List.set_cons_succ]
          refine a_value (some 53) (.string (tx (M ++ cm ++ [40]))) rfl rfl (by rfl) (fun w hw => exec_cat _ _ _ _ rfl (M ++ cm) ([40]) rfl rfl (by simp only [List.length_append, List.length_cons, List.length_nil]; omega) w) ?_
          simp only [Act.put, List.setIfInBounds_toArray, List.set_cons_zero, List.set_cons_succ]
          refine a_call (some 60) rfl rfl (by rfl) 18 #[.string x0] (by go_simp) (Calls.mono (HQ0.out _) ?_)
          rintro e w3 ⟨rfl, hb3⟩
          refine ⟨_, rfl, hb3, ?_⟩
          simp only [Act.put, List.setIfInBounds_toArray, List.set_cons_zero, List.set_cons_succ]
          refine a_value (some 61) (.string (tx (M ++ cm ++ [40] ++ e0))) rfl rfl (by rfl) (fun w hw => exec_cat _ _ _ _ rfl (M ++ cm ++ [40]) (e0) rfl rfl (by simp only [List.length_append, List.length_cons, List.length_nil]; omega) w) ?_
          simp only [Act.put, List.setIfInBounds_toArray, List.set_cons_zero, List.set_cons_succ]
          refine a_value (some 62) (.string (tx (M ++ cm ++ [40] ++ e0 ++ [44]))) rfl rfl (by rfl) (fun w hw => exec_cat _ _ _ _ rfl (M ++ cm ++ [40] ++ e0) ([44]) rfl rfl (by simp only [List.length_append, List.length_cons, List.length_nil]; omega) w) ?_
          simp only [Act.put, List.setIfInBounds_toArray, List.set_cons_zero, List.set_cons_succ]
          refine a_call (some 69) rfl rfl (by rfl) 42 #[.slice na xl nc] (by go_simp) (Calls.mono (HQ1.out _ hb3) ?_)
          rintro e w5 ⟨rfl, hc5⟩
          have hb5 := below_next hb3 hc5
          refine ⟨_, rfl, hb5, ?_⟩
          simp only [Act.put, List.setIfInBounds_toArray, List.set_cons_zero, List.set_cons_succ]
          refine a_value (some 70) (.string (tx (M ++ cm ++ [40] ++ e0 ++ [44] ++ e1'))) rfl rfl (by rfl) (fun w hw => exec_cat _ _ _ _ rfl (M ++ cm ++ [40] ++ e0 ++ [44]) (e1') rfl rfl (by simp only [List.length_append, List.length_cons, List.length_nil]; omega) w) ?_
          simp only [Act.put, List.setIfInBounds_toArray, List.set_cons_zero, List.set_cons_succ]
          refine a_value (some 71) (.string (tx (M ++ cm ++ [40] ++ e0 ++ [44] ++ e1' ++ [41]))) rfl rfl (by rfl) (fun w hw => exec_cat _ _ _ _ rfl (M ++ cm ++ [40] ++ e0 ++ [44] ++ e1') ([41]) rfl rfl (by simp only [List.length_append, List.length_cons, List.length_nil]; omega) w) ?_
          simp only [Act.put, List.setIfInBounds_toArray, List.set_cons_zero, List.set_cons_succ]
          refine a_value (some 3) (.string (tx (M ++ cm ++ [40] ++ e0 ++ [44] ++ e1' ++ [41]))) rfl rfl (by rfl) (fun w hw => by unfold execOp; rfl) ?_
          simp only [Act.put, List.setIfInBounds_toArray, List.set_cons_zero, List.set_cons_succ]
          refine a_done ?_
          try simp only [Exit.then]
          clear hb3 hc5
          generalize hM2 : M ++ cm ++ [40] ++ e0 ++ [44] ++ e1' ++ [41] = M2 at *
          have HB5 : Hid (Below w.heap.size w w5) := below_next HB.out.drew hb5
          have HR5 : Hid (Row w5 w.heap.size #[.slice oa d.outs.length oc, .slice (some ⟨bi, fi, none⟩) d.ins.length ic, .slice sa d.srcs.length sc, .string d.sys, .string d.bld, .slice aa d.args.length ac, .slice ea d.env.length ec] 27) := HRd.out w5 hb5
          clear hM2 hb5 HRd HC0 HQ0 HQ1 K
          go_wp2
          go_roundw
          case rel => exact ⟨i + 1, M2, by go_num, by omega, rfl, HT.out.symm, HB5, HR5⟩
          case measure => simp [intOf]; omega
        · have hlt' : ¬ (i : Int) < (d.ins.length : Int) := by omega
          have HM1 : Hid (M = pre2 ++ sepU (d.ins.map inE)) := by
            show _ = _
            rw [HM.out, List.take_of_length_le (by simp; omega)]
          clear HM
          obtain ⟨wF, rfl⟩ : ∃ x, x = wr := ⟨wr, rfl⟩
          have HRd : Hid (∀ wx, Below wF.drew.heap.size wF.drew wx → Row wx w.heap.size #[.slice oa d.outs.length oc, .slice ia d.ins.length ic, .slice sa d.srcs.length sc, .string d.sys, .string d.bld, .slice aa d.args.length ac, .slice ea d.env.length ec] 27) := fun wx hb => Row.below (Row.drew HR.out) hb (Row.lt (Row.drew HR.out))
          have HQs : Hid (∀ wx, Below wF.drew.heap.size wF.drew wx → Calls Tryd.prog 42 #[.slice sa d.srcs.length sc] wx fun e w' => e = .returned (.string (tx (listU (d.srcs.map strE)))) ∧ Below wx.heap.size wx w') := fun wx hb => rlist_ok d.srcs _ wx (HSr.out.keep (below_next HB.out.drew hb)) SM.out.srcs SM.out.ss
          have HQa : Hid (∀ wx, Below wF.drew.heap.size wF.drew wx → Calls Tryd.prog 42 #[.slice aa d.args.length ac] wx fun e w' => e = .returned (.string (tx (listU (d.args.map strE)))) ∧ Below wx.heap.size wx w') := fun wx hb => rlist_ok d.args _ wx (HAr.out.keep (below_next HB.out.drew hb)) SM.out.args SM.out.sa
          have HQy : Hid (∀ wx, Calls Tryd.prog 18 #[.string d.sys] wx fun e w' => e = .returned (.string (tx (strE d.sys))) ∧ Below wx.heap.size wx w') := fun wx => rquote_ok d.sys wx (by have := SM.out.sy; omega)
          have HQb : Hid (∀ wx, Calls Tryd.prog 18 #[.string d.bld] wx fun e w' => e = .returned (.string (tx (strE d.bld))) ∧ Below wx.heap.size wx w') := fun wx => rquote_ok d.bld wx (by have := SM.out.sb; omega)
          have HDR : Hid (drvE d = pre2 ++ sepU (d.ins.map inE) ++ [93, 44] ++ listU (d.srcs.map strE) ++ [44] ++ strE d.sys ++ [44] ++ strE d.bld ++ [44] ++ listU (d.args.map strE) ++ [44, 91] ++ sepU (d.env.map pairE) ++ [93, 41]) := by
            show _ = _
            rw [HP2.out, HP1.out]
            unfold drvE listU
            simp only [List.append_assoc, List.cons_append, List.nil_append]
          generalize listU (d.srcs.map strE) = ls at *
          generalize listU (d.args.map strE) = la at *
          generalize strE d.sys = ey at *
          generalize strE d.bld = eb at *
          go_wp2_with fail
          refine wp_region_permA [(false, 0), (false, 2), (false, 3), (false, 7), (false, 8), (false, 12), (false, 13), (false, 17), (false, 18), (false, 1), (true, 4), (false, 5), (false, 6), (true, 9), (false, 10), (false, 11), (true, 14), (false, 15), (false, 16), (true, 19), (false, 20), (false, 21), (false, 22)] (fun wx => Below wF.drew.heap.size wF.drew wx) (by kernel_rfl) (by kernel_rfl) (Below.refl _ _) ?_
          refine a_value (some 72) (.string (tx M)) rfl rfl (by rfl) (fun w hw => by unfold execOp; rfl) ?_
          simp only [Act.put, List.setIfInBounds_toArray, List.set_cons_zero, List.set_cons_succ]
          refine a_value (some 74) ?_ rfl rfl (by rfl) (fun w hw => ?_) ?_
          rotate_left
          · go_simp
            with_reducible rfl
          simp only [Act.put, List.setIfInBounds_toArray, List.set_cons_zero, List.set_cons_succ]
          refine a_value (some 75) ?_ rfl rfl (by rfl) (fun w hw => ?_) ?_
          rotate_left
          · have c0 := ((HRd.out _ hw).cell 2).trans (rfl : _ = some (Value.slice sa d.srcs.length sc))
            go_simp
            with_reducible rfl
          simp only [Act.put, List.setIfInBounds_toArray, List.set_cons_zero, List.set_cons_succ]
          refine a_value (some 79) ?_ rfl rfl (by rfl) (fun w hw => ?_) ?_
          rotate_left
          · go_simp
            with_reducible rfl
          simp only [Act.put, List.setIfInBounds_toArray, List.set_cons_zero, List.set_cons_succ]
          refine a_value (some 80) ?_ rfl rfl (by rfl) (fun w hw => ?_) ?_
          rotate_left
          · have c0 := ((HRd.out _ hw).cell 3).trans (rfl : _ = some (Value.string d.sys))
            go_simp
            with_reducible rfl
          simp only [Act.put, List.setIfInBounds_toArray, List.set_cons_zero, List.set_cons_succ]
          refine a_value (some 84) ?_ rfl rfl (by rfl) (fun w hw => ?_) ?_
          rotate_left
          · go_simp
            with_reducible rfl
          simp only [Act.put, List.setIfInBounds_toArray, List.set_cons_zero, List.set_cons_succ]
          refine a_value (some 85) ?_ rfl rfl (by rfl) (fun w hw => ?_) ?_
          rotate_left
          · have c0 := ((HRd.out _ hw).cell 4).trans (rfl : _ = some (Value.string d.bld))
            go_simp
            with_reducible rfl
          simp only [Act.put, List.setIfInBounds_toArray, List.set_cons_zero, List.set_cons_succ]
          refine a_value (some 89) ?_ rfl rfl (by rfl) (fun w hw => ?_) ?_
          rotate_left
          · go_simp
            with_reducible rfl
          simp only [Act.put, List.setIfInBounds_toArray, List.set_cons_zero, List.set_cons_succ]
          refine a_value (some 90) ?_ rfl rfl (by rfl) (fun w hw => ?_) ?_
          rotate_left
          · have c0 := ((HRd.out _ hw).cell 5).trans (rfl : _ = some (Value.slice aa d.args.length ac))
            go_simp
            with_reducible rfl
          simp only [Act.put, List.setIfInBounds_toArray, List.set_cons_zero, List.set_cons_succ]
          refine a_value (some 73) (.string (tx (M ++ [93, 44]))) rfl rfl (by rfl) (fun w hw => exec_cat _ _ _ _ rfl (M) ([93, 44]) rfl rfl (by simp only [List.length_cons, List.length_nil]; omega) w) ?_
          simp only [Act.put, List.setIfInBounds_toArray, List.set_cons_zero, List.set_cons_succ]
          refine a_call (some 76) rfl rfl (by rfl) 42 #[.slice sa d.srcs.length sc] (by go_simp) (Calls.mono (HQs.out _ (Below.refl _ _)) ?_)
          rintro e w3 ⟨rfl, hb3⟩
          refine ⟨_, rfl, hb3, ?_⟩
          simp only [Act.put, List.setIfInBounds_toArray, List.set_cons_zero, List.set_cons_succ]
          refine a_value (some 77) (.string (tx (M ++ [93, 44] ++ ls))) rfl rfl (by rfl) (fun w hw => exec_cat _ _ _ _ rfl (M ++ [93, 44]) (ls) rfl rfl (by simp only [List.length_append, List.length_cons, List.length_nil]; omega) w) ?_
          simp only [Act.put, List.setIfInBounds_toArray, List.set_cons_zero, List.set_cons_succ]
          refine a_value (some 78) (.string (tx (M ++ [93, 44] ++ ls ++ [44]))) rfl rfl (by rfl) (fun w hw => exec_cat _ _ _ _ rfl (M ++ [93, 44] ++ ls) ([44]) rfl rfl (by simp only [List.length_append, List.length_cons, List.length_nil]; omega) w) ?_
          simp only [Act.put, List.setIfInBounds_toArray, List.set_cons_zero, List.set_cons_succ]
          refine a_call (some 81) rfl rfl (by rfl) 18 #[.string d.sys] (by go_simp) (Calls.mono (HQy.out _) ?_)
          rintro e w4 ⟨rfl, hc4⟩
          have hb4 := below_next hb3 hc4
          refine ⟨_, rfl, hb4, ?_⟩
          simp only [Act.put, List.setIfInBounds_toArray, List.set_cons_zero, List.set_cons_succ]
          refine a_value (some 82) (.string (tx (M ++ [93, 44] ++ ls ++ [44] ++ ey))) rfl rfl (by rfl) (fun w hw => exec_cat _ _ _ _ rfl (M ++ [93, 44] ++ ls ++ [44]) (ey) rfl rfl (by simp only [List.length_append, List.length_cons, List.length_nil]; omega) w) ?_
          simp only [Act.put, List.setIfInBounds_toArray, List.set_cons_zero, List.set_cons_succ]
          refine a_value (some 83) (.string (tx (M ++ [93, 44] ++ ls ++ [44] ++ ey ++ [44]))) rfl rfl (by rfl) (fun w hw => exec_cat _ _ _ _ rfl (M ++ [93, 44] ++ ls ++ [44] ++ ey) ([44]) rfl rfl (by simp only [List.length_append, List.length_cons, List.length_nil]; omega) w) ?_
          simp only [Act.put, List.setIfInBounds_toArray, List.set_cons_zero, List.set_cons_succ]
          refine a_call (some 86) rfl rfl (by rfl) 18 #[.string d.bld] (by go_simp) (Calls.mono (HQb.out _) ?_)
          rintro e w5 ⟨rfl, hc5⟩
          have hb5 := below_next hb4 hc5
          refine ⟨_, rfl, hb5, ?_⟩
          simp only [Act.put, List.setIfInBounds_toArray, List.set_cons_zero, List.set_cons_succ]
          refine a_value (some 87) (.string (tx (M ++ [93, 44] ++ ls ++ [44] ++ ey ++ [44] ++ eb))) rfl rfl (by rfl) (fun w hw => exec_cat _ _ _ _ rfl (M ++ [93, 44] ++ ls ++ [44] ++ ey ++ [44]) (eb) rfl rfl (by simp only [List.length_append, List.length_cons, List.length_nil]; omega) w) ?_
          simp only [Act.put, List.setIfInBounds_toArray, List.set_cons_zero, List.set_cons_succ]
          refine a_value (some 88) (.string (tx (M ++ [93, 44] ++ ls ++ [44] ++ ey ++ [44] ++ eb ++ [44]))) rfl rfl (by rfl) (fun w hw => exec_cat _ _ _ _ rfl (M ++ [93, 44] ++ ls ++ [44] ++ ey ++ [44] ++ eb) ([44]) rfl rfl (by simp only [List.length_append, List.length_cons, List.length_nil]; omega) w) ?_
          simp only [Act.put, List.setIfInBounds_toArray, List.set_cons_zero, List.set_cons_succ]
          refine a_call (some 91) rfl rfl (by rfl) 42 #[.slice aa d.args.length ac] (by go_simp) (Calls.mono (HQa.out _ hb5) ?_)
          rintro e w7 ⟨rfl, hc7⟩
          have hb7 := below_next hb5 hc7
          refine ⟨_, rfl, hb7, ?_⟩
          simp only [Act.put, List.setIfInBounds_toArray, List.set_cons_zero, List.set_cons_succ]
          refine a_value (some 92) (.string (tx (M ++ [93, 44] ++ ls ++ [44] ++ ey ++ [44] ++ eb ++ [44] ++ la))) rfl rfl (by rfl) (fun w hw => exec_cat _ _ _ _ rfl (M ++ [93, 44] ++ ls ++ [44] ++ ey ++ [44] ++ eb ++ [44]) (la) rfl rfl (by simp only [List.length_append, List.length_cons, List.length_nil]; omega) w) ?_
          simp only [Act.put, List.setIfInBounds_toArray, List.set_cons_zero, List.set_cons_succ]
          refine a_value (some 93) (.string (tx (M ++ [93, 44] ++ ls ++ [44] ++ ey ++ [44] ++ eb ++ [44] ++ la ++ [44, 91]))) rfl rfl (by rfl) (fun w hw => exec_cat _ _ _ _ rfl (M ++ [93, 44] ++ ls ++ [44] ++ ey ++ [44] ++ eb ++ [44] ++ la) ([44, 91]) rfl rfl (by simp only [List.length_append, List.length_cons, List.length_nil]; omega) w) ?_
          simp only [Act.put, List.setIfInBounds_toArray, List.set_cons_zero, List.set_cons_succ]
          refine a_value (some 3) (.string (tx (M ++ [93, 44] ++ ls ++ [44] ++ ey ++ [44] ++ eb ++ [44] ++ la ++ [44, 91]))) rfl rfl (by rfl) (fun w hw => by unfold execOp; rfl) ?_
          simp only [Act.put, List.setIfInBounds_toArray, List.set_cons_zero, List.set_cons_succ]
          refine a_done ?_
          try simp only [Exit.then]
          generalize tx (M ++ [93, 44]) = z0
          generalize tx (M ++ [93, 44] ++ ls) = z1
          generalize tx (M ++ [93, 44] ++ ls ++ [44]) = z2
          generalize tx (M ++ [93, 44] ++ ls ++ [44] ++ ey) = z3
          generalize tx (M ++ [93, 44] ++ ls ++ [44] ++ ey ++ [44]) = z4
          generalize tx (M ++ [93, 44] ++ ls ++ [44] ++ ey ++ [44] ++ eb) = z5
          generalize tx (M ++ [93, 44] ++ ls ++ [44] ++ ey ++ [44] ++ eb ++ [44]) = z6
          generalize tx (M ++ [93, 44] ++ ls ++ [44] ++ ey ++ [44] ++ eb ++ [44] ++ la) = z7
          clear hb3 hb4 hb5 hc4 hc5 hc7
          clear r1 hlt hlt'
          generalize hp3 : M ++ [93, 44] ++ ls ++ [44] ++ ey ++ [44] ++ eb ++ [44] ++ la ++ [44, 91] = pre3 at *
          have hpl3 : pre3.length ≤ 2305859501918519322 := by rw [← hp3]; simp only [List.length_append, List.length_cons, List.length_nil]; omega
          have HD3 : Hid (drvE d = pre3 ++ sepU (d.env.map pairE) ++ [93, 41]) := by show _ = _; rw [HDR.out, ← hp3, HM1.out]
          have HB7 : Hid (Below w.heap.size w w7) := below_next HB.out.drew hb7
          have HR7 : Hid (Row w7 w.heap.size #[.slice oa d.outs.length oc, .slice ia d.ins.length ic, .slice sa d.srcs.length sc, .string d.sys, .string d.bld, .slice aa d.args.length ac, .slice ea d.env.length ec] 27) := HRd.out w7 hb7
          clear hp3 hb7 HDR HM1 HRd HQs HQa HQy HQb HB HR hln hi1
          go_wp2
          go_loopw [3, 7] (fun sv iv wx => ∃ (i : Nat) (M : List UInt8), iv = .int .i64 i ∧ i ≤ d.env.length ∧ sv = .string (tx M) ∧ Hid (M = pre3 ++ sepU ((d.env.map pairE).take i)) ∧ Hid (Below w.heap.size w wx) ∧ Hid (Row wx w.heap.size #[.slice oa d.outs.length oc, .slice ia d.ins.length ic, .slice sa d.srcs.length sc, .string d.sys, .string d.bld, .slice aa d.args.length ac, .slice ea d.env.length ec] 27)) (fun _ iv _ => d.env.length - (intOf iv).toNat)
          case atStart => exact ⟨0, pre3, rfl, by omega, rfl, by show _ = _; simp [sepU], HB7, HR7⟩
          case round =>
            clear HB7 HR7
            obtain ⟨i, M, rfl, hi1, rfl, HM, HB, HR⟩ := hrel
            have r6 := (HR.out.cell 6).trans (rfl : _ = some (Value.slice ea d.env.length ec))
            have hln : M.length ≤ 2305863899973419034 := by
              have := HTE.out i
              rw [HM.out, List.length_append]
              omega
            by_cases hlt : i < d.env.length
            · have hlt' : (i : Int) < (d.env.length : Int) := by omega
              obtain rfl := ee.resolve_left (by omega)
              obtain ⟨k0, k1⟩ := HE.out wr.drew (HB.out.drew) i hlt
              obtain ⟨x, hx⟩ : ∃ x, x = d.env[i] := ⟨_, rfl⟩
              rw [← hx] at k0 k1
              have hxs : x.1.size ≤ 1048576 ∧ x.2.size ≤ 1048576 := by rw [hx]; exact SM.out.se _ (List.getElem_mem hlt)
              have q0 := strE_len _ hxs.1
              have q1 := strE_len _ hxs.2
              have HT : Hid (pre3 ++ sepU ((d.env.map pairE).take (i + 1)) = M ++ comU i ++ [40] ++ strE x.1 ++ [44] ++ strE x.2 ++ [41]) := by
                show _ = _
                rw [sepU_take _ i (by simpa using hlt), List.getElem_map, ← hx, HM.out]
                simp only [comU, pairE, sepU, List.flatMap_cons, List.flatMap_nil, List.append_assoc, List.cons_append, List.nil_append, List.append_nil]
              clear hx HM
              have hcl : (comU i).length ≤ 1 := by unfold comU; split <;> simp
              have K : Hid (∀ wx, Below wr.drew.heap.size wr.drew wx → wx.cell? ⟨be, fe + i * 2, none⟩ = some (.string x.1) ∧ wx.cell? ⟨be, fe + i * 2 + 1, none⟩ = some (.string x.2)) := fun wx hb => ⟨(World.cell?_of_block (w := wr.drew) (hb.block be (World.block_lt_of_cell? _ _ k0))).trans k0, (World.cell?_of_block (w := wr.drew) (hb.block be (World.block_lt_of_cell? _ _ k1))).trans k1⟩
              have HRd : Hid (∀ wx, Below wr.drew.heap.size wr.drew wx → Row wx w.heap.size #[.slice oa d.outs.length oc, .slice ia d.ins.length ic, .slice sa d.srcs.length sc, .string d.sys, .string d.bld, .slice aa d.args.length ac, .slice (some ⟨be, fe, none⟩) d.env.length ec] 27) := fun wx hb => Row.below (Row.drew HR.out) hb (Row.lt (Row.drew HR.out))
              have HC0 : Hid (∀ wx, Calls Tryd.prog 41 #[.int .i64 i] wx fun e w' => e = .returned (.string (tx (comU i))) ∧ w' = wx) := fun wx => comma_ok i wx
              have HQ0 : Hid (∀ wx, Calls Tryd.prog 18 #[.string x.1] wx fun e w' => e = .returned (.string (tx (strE x.1))) ∧ Below wx.heap.size wx w') := fun wx => rquote_ok x.1 wx (by have := hxs.1; omega)
              have HQ1 : Hid (∀ wx, Calls Tryd.prog 18 #[.string x.2] wx fun e w' => e = .returned (.string (tx (strE x.2))) ∧ Below wx.heap.size wx w') := fun wx => rquote_ok x.2 wx (by have := hxs.2; omega)
              clear k0 k1 hxs
              generalize comU i = cm at *
              generalize strE x.1 = e0 at *
              generalize strE x.2 = e1' at *
              generalize x.1 = x0 at *
              generalize x.2 = x1 at *
              go_wp2_with fail
              refine wp_region_permA [(false, 0), (false, 1), (false, 5), (false, 6), (false, 7), (false, 8), (false, 9), (false, 10), (false, 14), (false, 15), (false, 16), (false, 17), (false, 18), (false, 19), (true, 2), (false, 3), (false, 4), (true, 11), (false, 12), (false, 13), (true, 20), (false, 21), (false, 22), (false, 23)] (fun wx => Below wr.drew.heap.size wr.drew wx) (by kernel_rfl) (by kernel_rfl) (Below.refl _ _) ?_
              refine a_value (some 101) (.string (tx M)) rfl rfl (by rfl) (fun w hw => by unfold execOp; rfl) ?_
              simp only [Act.put, List.setIfInBounds_toArray, List.set_cons_zero, List.set_cons_succ]
              refine a_value (some 102) (.int .i64 i) rfl rfl (by rfl) (fun w hw => by unfold execOp; rfl) ?_
              simp only [Act.put, List.setIfInBounds_toArray, List.set_cons_zero, List.set_cons_succ]
              refine a_value (some 106) ?_ rfl rfl (by rfl) (fun w hw => ?_) ?_
              rotate_left
              · go_simp
                with_reducible rfl
              simp only [Act.put, List.setIfInBounds_toArray, List.set_cons_zero, List.set_cons_succ]
              refine a_value (some 107) ?_ rfl rfl (by rfl) (fun w hw => ?_) ?_
              rotate_left
              · have c0 := ((HRd.out _ hw).cell 6).trans (rfl : _ = some (Value.slice (some ⟨be, fe, none⟩) d.env.length ec))
                go_simp
                with_reducible rfl
              simp only [Act.put, List.setIfInBounds_toArray, List.set_cons_zero, List.set_cons_succ]
              refine a_value (some 108) (.int .i64 i) rfl rfl (by rfl) (fun w hw => by unfold execOp; rfl) ?_
              simp only [Act.put, List.setIfInBounds_toArray, List.set_cons_zero, List.set_cons_succ]
              refine a_value (some 109) ?_ rfl rfl (by rfl) (fun w hw => ?_) ?_
              rotate_left
              · go_simp
                with_reducible rfl
              simp only [Act.put, List.setIfInBounds_toArray, List.set_cons_zero, List.set_cons_succ]
              refine a_value (some 110) ?_ rfl rfl (by rfl) (fun w hw => ?_) ?_
              rotate_left
              · go_simp
                with_reducible rfl
              simp only [Act.put, List.setIfInBounds_toArray, List.set_cons_zero, List.set_cons_succ]
              refine a_value (some 111) ?_ rfl rfl (by rfl) (fun w hw => ?_) ?_
              rotate_left
              · obtain ⟨y0, y1⟩ := K.out _ hw
                go_simp
                with_reducible rfl
              simp only [Act.put, List.setIfInBounds_toArray, List.set_cons_zero, List.set_cons_succ]
              refine a_value (some 115) ?_ rfl rfl (by rfl) (fun w hw => ?_) ?_
              rotate_left
              · go_simp
                with_reducible rfl
              simp only [Act.put, List.setIfInBounds_toArray, List.set_cons_zero, List.set_cons_succ]
              refine a_value (some 116) ?_ rfl rfl (by rfl) (fun w hw => ?_) ?_
              rotate_left
              · have c0 := ((HRd.out _ hw).cell 6).trans (rfl : _ = some (Value.slice (some ⟨be, fe, none⟩) d.env.length ec))
                go_simp
                with_reducible rfl
              simp only [Act.put, List.setIfInBounds_toArray, List.set_cons_zero, List.set_cons_succ]
              refine a_value (some 117) (.int .i64 i) rfl rfl (by rfl) (fun w hw => by unfold execOp; rfl) ?_
              simp only [Act.put, List.setIfInBounds_toArray, List.set_cons_zero, List.set_cons_succ]
              refine a_value (some 118) ?_ rfl rfl (by rfl) (fun w hw => ?_) ?_
              rotate_left
              · go_simp
                with_reducible rfl
              simp only [Act.put, List.setIfInBounds_toArray, List.set_cons_zero, List.set_cons_succ]
              refine a_value (some 119) ?_ rfl rfl (by rfl) (fun w hw => ?_) ?_
              rotate_left
              · go_simp
                with_reducible rfl
              simp only [Act.put, List.setIfInBounds_toArray, List.set_cons_zero, List.set_cons_succ]
              refine a_value (some 120) ?_ rfl rfl (by rfl) (fun w hw => ?_) ?_
              rotate_left
              · obtain ⟨y0, y1⟩ := K.out _ hw
                go_simp
                with_reducible rfl
              simp only [Act.put, List.setIfInBounds_toArray, List.set_cons_zero, List.set_cons_succ]
              refine a_call (some 103) rfl rfl (by rfl) 41 #[.int .i64 i] (by go_simp) (Calls.mono (HC0.out _) ?_)
              rintro e wc ⟨rfl, rfl⟩
              refine ⟨_, rfl, Below.refl _ _, ?_⟩
              simp only [Act.put, List.setIfInBounds_toArray, List.set_cons_zero, List.set_cons_succ]
              refine a_value (some 104) (.string (tx (M ++ cm))) rfl rfl (by rfl) (fun w hw => exec_cat _ _ _ _ rfl (M) (cm) rfl rfl (by omega) w) ?_
              simp only [Act.put, List.setIfInBounds_toArray, List.set_cons_zero, List.set_cons_succ]
              refine a_value (some 105) (.string (tx (M ++ cm ++ [40]))) rfl rfl (by rfl) (fun w hw => exec_cat _ _ _ _ rfl (M ++ cm) ([40]) rfl rfl (by simp only [List.length_append, List.length_cons, List.length_nil]; omega) w) ?_
              simp only [Act.put, List.setIfInBounds_toArray, List.set_cons_zero, List.set_cons_succ]
              refine a_call (some 112) rfl rfl (by rfl) 18 #[.string x0] (by go_simp) (Calls.mono (HQ0.out _) ?_)
              rintro e w3 ⟨rfl, hb3⟩
              refine ⟨_, rfl, hb3, ?_⟩
              simp only [Act.put, List.setIfInBounds_toArray, List.set_cons_zero, List.set_cons_succ]
              refine a_value (some 113) (.string (tx (M ++ cm ++ [40] ++ e0))) rfl rfl (by rfl) (fun w hw => exec_cat _ _ _ _ rfl (M ++ cm ++ [40]) (e0) rfl rfl (by simp only [List.length_append, List.length_cons, List.length_nil]; omega) w) ?_
              simp only [Act.put, List.setIfInBounds_toArray, List.set_cons_zero, List.set_cons_succ]
              refine a_value (some 114) (.string (tx (M ++ cm ++ [40] ++ e0 ++ [44]))) rfl rfl (by rfl) (fun w hw => exec_cat _ _ _ _ rfl (M ++ cm ++ [40] ++ e0) ([44]) rfl rfl (by simp only [List.length_append, List.length_cons, List.length_nil]; omega) w) ?_
              simp only [Act.put, List.setIfInBounds_toArray, List.set_cons_zero, List.set_cons_succ]
              refine a_call (some 121) rfl rfl (by rfl) 18 #[.string x1] (by go_simp) (Calls.mono (HQ1.out _) ?_)
              rintro e w5 ⟨rfl, hc5⟩
              have hb5 := below_next hb3 hc5
              refine ⟨_, rfl, hb5, ?_⟩
              simp only [Act.put, List.setIfInBounds_toArray, List.set_cons_zero, List.set_cons_succ]
              refine a_value (some 122) (.string (tx (M ++ cm ++ [40] ++ e0 ++ [44] ++ e1'))) rfl rfl (by rfl) (fun w hw => exec_cat _ _ _ _ rfl (M ++ cm ++ [40] ++ e0 ++ [44]) (e1') rfl rfl (by simp only [List.length_append, List.length_cons, List.length_nil]; omega) w) ?_
              simp only [Act.put, List.setIfInBounds_toArray, List.set_cons_zero, List.set_cons_succ]
              refine a_value (some 123) (.string (tx (M ++ cm ++ [40] ++ e0 ++ [44] ++ e1' ++ [41]))) rfl rfl (by rfl) (fun w hw => exec_cat _ _ _ _ rfl (M ++ cm ++ [40] ++ e0 ++ [44] ++ e1') ([41]) rfl rfl (by simp only [List.length_append, List.length_cons, List.length_nil]; omega) w) ?_
              simp only [Act.put, List.setIfInBounds_toArray, List.set_cons_zero, List.set_cons_succ]
              refine a_value (some 3) (.string (tx (M ++ cm ++ [40] ++ e0 ++ [44] ++ e1' ++ [41]))) rfl rfl (by rfl) (fun w hw => by unfold execOp; rfl) ?_
              simp only [Act.put, List.setIfInBounds_toArray, List.set_cons_zero, List.set_cons_succ]
              refine a_done ?_
              try simp only [Exit.then]
              clear hb3 hc5
              generalize hM2 : M ++ cm ++ [40] ++ e0 ++ [44] ++ e1' ++ [41] = M2 at *
              have HB5 : Hid (Below w.heap.size w w5) := below_next HB.out.drew hb5
              have HR5 : Hid (Row w5 w.heap.size #[.slice oa d.outs.length oc, .slice ia d.ins.length ic, .slice sa d.srcs.length sc, .string d.sys, .string d.bld, .slice aa d.args.length ac, .slice (some ⟨be, fe, none⟩) d.env.length ec] 27) := HRd.out w5 hb5
              clear hM2 hb5 HRd HC0 HQ0 HQ1 K
              go_wp2
              go_roundw
              case rel => exact ⟨i + 1, M2, by go_num, by omega, rfl, HT.out.symm, HB5, HR5⟩
              case measure => simp [intOf]; omega
            · have hlt' : ¬ (i : Int) < (d.env.length : Int) := by omega
              have HF : Hid (M ++ [93, 41] = drvE d) := by
                show _ = _
                rw [HD3.out, HM.out, List.take_of_length_le (by simp; omega)]
              clear HM
              go_wp2_with (refine wp_cat rfl _ _ rfl M [93, 41] rfl rfl (by simp only [List.length_cons, List.length_nil]; omega) ?_)
              rw [HF.out]
              go_wp2
              go_ret
              exact ⟨rfl, HB.out⟩
end Go.Proofs.YtmpgfepkdhjibaaDoor
