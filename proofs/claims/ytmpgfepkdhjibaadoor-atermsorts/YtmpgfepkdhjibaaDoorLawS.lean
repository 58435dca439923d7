/- My own work: the walk of the law of sorted lists. -/
import Derived.Test.YtmpgfepkdhjibaaDoorSortM
import Derived.Test.YtmpgfepkdhjibaaDoorPermA
import Derived.Test.YtmpgfepkdhjibaaDoorLate2
namespace Go.Proofs.YtmpgfepkdhjibaaDoor
open Go.RowKit

set_option maxRecDepth 20000 in
set_option maxHeartbeats 4000000 in
theorem law_sorts (d : Dv) (cs : Array Value) (k : Int) (w : World) (h : DrvAt w d cs) (hf : Few d) : Calls Tryd.prog 7 #[.agg cs, .int .i64 k] w fun e w' => e = .returned (.bool true) ∧ Below w.heap.size w w' := by
  have hb0 : Below w.heap.size w (w.alloc (.cells cs 27)) := below_new (Below.refl _ _) _
  have HO : Hid (Calls Tryd.prog 8 #[.agg cs] (w.alloc (.cells cs 27)) fun e w' => ∃ cs', e = .returned (.agg cs') ∧ DrvAt w' d cs' ∧ Below (w.alloc (.cells cs 27)).heap.size (w.alloc (.cells cs 27)) w') := own_ok d cs _ (h.keep hb0) hf
  have HB0 : Hid _ := hb0
  obtain ⟨vo0, vi0, vs0, va0, ve0, rfl, _⟩ := h.ex
  clear h hf hb0
  go_enter Tryd.func7, Tryd.ntmps7
  go_wp2_with fail
  refine Calls.mono HO.out ?_
  rintro e w1 ⟨cs', rfl, hd1, hb1⟩
  have HB1 : Hid (Below w.heap.size w w1) := below_next HB0.out hb1
  obtain ⟨vo, vi, vs, va, ve, rfl, ho, hi, hs, ha, he⟩ := hd1.ex
  obtain ⟨oa, oc, rfl, o1, o2⟩ := ho.shape
  obtain ⟨sa, sc, rfl, s1, s2⟩ := hs.shape
  obtain ⟨aa, ac, rfl, a1, a2⟩ := ha.shape
  obtain ⟨ea, ec, rfl, e1, e2⟩ := he.shape
  obtain ⟨ns, ia, ic, b, off, _, _, rfl, i1, i2, i3, hin⟩ := hi.cells
  have HD1 : Hid (DrvAt w1 d #[.slice oa d.outs.length oc, .slice ia d.ins.length ic, .slice sa d.srcs.length sc, .string d.sys, .string d.bld, .slice aa d.args.length ac, .slice ea d.env.length ec]) := hd1
  clear hb1 hd1 ho hi hs ha he hin i3 HO HB0
  have HBn : Hid (Below w1.heap.size w1 (w1.alloc (.cells #[.slice oa d.outs.length oc, .slice ia d.ins.length ic, .slice sa d.srcs.length sc, .string d.sys, .string d.bld, .slice aa d.args.length ac, .slice ea d.env.length ec] 27))) := below_new (Below.refl _ _) _
  have HRw : Hid (Row (w1.alloc (.cells #[.slice oa d.outs.length oc, .slice ia d.ins.length ic, .slice sa d.srcs.length sc, .string d.sys, .string d.bld, .slice aa d.args.length ac, .slice ea d.env.length ec] 27)) w1.heap.size #[.slice oa d.outs.length oc, .slice ia d.ins.length ic, .slice sa d.srcs.length sc, .string d.sys, .string d.bld, .slice aa d.args.length ac, .slice ea d.env.length ec] 27) := Row.new w1 _ _
  by_cases h1000 : 1000 < d.srcs.length
  · have h1 : (1000 : Int) < (d.srcs.length : Int) := by omega
    go_wp2
    go_ret
    exact ⟨rfl, below_next HB1.out HBn.out⟩
  have h1 : ¬ (1000 : Int) < (d.srcs.length : Int) := by omega
  have hd1 : decide ((1000 : Int) < (d.srcs.length : Int)) = false := decide_eq_false h1
  have HR0 := right_ok d _ _ (HD1.out.keep HBn.out)
  go_wp2_with fail
  refine Calls.mono HR0 ?_
  rintro e w2 ⟨rfl, hb2⟩
  have HB2 : Hid (Below w1.heap.size w1 w2) := below_next HBn.out hb2
  have HRw2 : Hid (Row w2 w1.heap.size #[.slice oa d.outs.length oc, .slice ia d.ins.length ic, .slice sa d.srcs.length sc, .string d.sys, .string d.bld, .slice aa d.args.length ac, .slice ea d.env.length ec] 27) := Row.below HRw.out hb2 (Row.lt HRw.out)
  clear hb2 HR0 HRw HBn
  by_cases h0 : rightE d = 0
  · have h0' : (rightE d == 0) = true := by rw [h0]; rfl
    have c2 := (HRw2.out.cell 2).trans (show _ = some (Value.slice sa d.srcs.length sc) from rfl)
    have z2 := HRw2.out.frozen 2
    have H0 : Hid (rightE d = 0) := h0
    rw [h0] 
    clear h0 h0'
    obtain ⟨m, hm, hand⟩ := and7 k
    have hHB0 : Hid (Below w1.heap.size w1 (w2.setCell ⟨w1.heap.size, 2, none⟩ (.slice none 0 0))) := HB2.out.setCell (Nat.le_refl _) _
    have hHR0 : Hid (Row (w2.setCell ⟨w1.heap.size, 2, none⟩ (.slice none 0 0)) w1.heap.size #[.slice oa d.outs.length oc, .slice ia d.ins.length ic, .slice none 0 0, .string d.sys, .string d.bld, .slice aa d.args.length ac, .slice ea d.env.length ec] 27) := HRw2.out.setCell _
    clear HRw2 HB2
    go_wp2
    go_loopw [6] (fun kv wx => ∃ (i : Nat) (p : Option Addr) (c : Nat), kv = .int .i64 i ∧ i ≤ 2 + m ∧ Hid (Below w1.heap.size w1 wx) ∧ Hid (Row wx w1.heap.size #[.slice oa d.outs.length oc, .slice ia d.ins.length ic, .slice p i c, .string d.sys, .string d.bld, .slice aa d.args.length ac, .slice ea d.env.length ec] 27) ∧ Hid (wx.ownsRow (w1.heap.size + 1) 9 1 (.slice p i c) i (strV (srcL i)))) (fun kv _ => 2 + m - (intOf kv).toNat)
    case atStart => exact ⟨0, none, 0, rfl, by omega, hHB0, hHR0, World.ownsRow_nil _ _ _ _⟩
    case round =>
      clear hHB0 hHR0 c2 z2
      obtain ⟨i, p, c, rfl, hi, HB, HR, HW⟩ := hrel
      by_cases hlt : i < 2 + m
      · have hlt' : (i : Int) < 2 + (m : Int) := by omega
        have c2 := (HR.out.cell 2).trans (show _ = some (Value.slice p i c) from rfl)
        have hwu : IntKind.u8.wrap (97 + (i : Int)) = 97 + (i : Int) := by rw [IntKind.wrap_u8]; omega
        obtain ⟨f1, f2⟩ := run_letter wr i (by omega)
        have f3 := srcB_cat i
        obtain ⟨bc, hbc⟩ : ∃ bc, bc = UInt8.ofNat (97 + i) := ⟨_, rfl⟩
        rw [← hbc] at f2 f3
        clear hbc
        have f4 := run_one_str (wr.alloc (.cells #[.int .u8 (97 + (i : Int))] 5)) (srcB i)
        have hsz : w1.heap.size + 1 ≤ wr.heap.size := HR.out.lt
        obtain ⟨wA, hwA⟩ : ∃ wA, wA = (wr.alloc (.cells #[.int .u8 (97 + (i : Int))] 5)).alloc (.cells #[.string (srcB i)] 9) := ⟨_, rfl⟩
        have hbA : Below wr.heap.size wr wA := by rw [hwA]; exact below_new (below_new (Below.refl _ _) _) _
        have hsA : (wr.alloc (.cells #[.int .u8 (97 + (i : Int))] 5)).heap.size = wr.heap.size + 1 := by simp
        have hslA : SlAt wA (.slice (some ⟨wr.heap.size + 1, 0, none⟩) 1 1) 1 [.string (srcB i)] := by
          rw [hwA, ← hsA]
          exact slat_new _ [.string (srcB i)] 9 1 (by omega)
        have hoA := own_below HW.out hbA
        have hRA : Row wA w1.heap.size #[.slice oa d.outs.length oc, .slice ia d.ins.length ic, .slice p i c, .string d.sys, .string d.bld, .slice aa d.args.length ac, .slice ea d.env.length ec] 27 := HR.out.below hbA HR.out.lt
        have hBA : Below w1.heap.size w1 wA := below_next HB.out hbA
        have hszA : w1.heap.size + 1 ≤ wA.heap.size := hRA.lt
        rw [← hwA] at f4
        have HA : Hid (Below w1.heap.size w1 wA ∧ Row wA w1.heap.size #[.slice oa d.outs.length oc, .slice ia d.ins.length ic, .slice p i c, .string d.sys, .string d.bld, .slice aa d.args.length ac, .slice ea d.env.length ec] 27) := ⟨hBA, hRA⟩
        clear HB HR HW hbA hBA hRA
        rw [hsA] at f4
        have HwA : Hid _ := hwA.symm
        have hwA' := hwA.symm
        clear hwA hsA
        go_wp2_with (refine ap_sl rfl _ _ 24 rfl 9 _ 1 16 Tryd.underlying24 info_str rfl (by omega) (by omega) (w1.heap.size + 1) _ i (strV (srcL i)) rfl hoA _ 1 [.string (srcB i)] rfl hslA rfl (fun u hu => by simp at hu; subst hu; rfl) (by omega) hszA ?_)
        intro v5 w5 ho5 hg5
        have ho6 : w5.ownsRow (w1.heap.size + 1) 9 1 v5 (i + 1) (strV (srcL (i + 1))) := by
          rw [srcL_snoc]
          unfold strV at ho5 ⊢
          rw [List.map_append]
          exact ho5
        obtain ⟨p', c', rfl⟩ := own_shape ho6
        have hR5 : Row w5 w1.heap.size #[.slice oa d.outs.length oc, .slice ia d.ins.length ic, .slice p i c, .string d.sys, .string d.bld, .slice aa d.args.length ac, .slice ea d.env.length ec] 27 := row_grown hoA hg5 HA.out.2 (by decide)
        have hB5 : Below w1.heap.size w1 w5 := HA.out.1.trans (own_grown (own_base hoA (show w1.heap.size ≤ w1.heap.size + 1 by omega)) (Below.refl _ _) (by omega) hg5)
        have c5 := (hR5.cell 2).trans (show _ = some (Value.slice p i c) from rfl)
        have z5 := hR5.frozen 2
        have HB6 : Hid (Below w1.heap.size w1 (w5.setCell ⟨w1.heap.size, 2, none⟩ (.slice p' (i + 1) c'))) := hB5.setCell (Nat.le_refl _) _
        have HR6 : Hid (Row (w5.setCell ⟨w1.heap.size, 2, none⟩ (.slice p' (i + 1) c')) w1.heap.size #[.slice oa d.outs.length oc, .slice ia d.ins.length ic, .slice p' (i + 1) c', .string d.sys, .string d.bld, .slice aa d.args.length ac, .slice ea d.env.length ec] 27) := hR5.setCell _
        have HW6 : Hid ((w5.setCell ⟨w1.heap.size, 2, none⟩ (.slice p' (i + 1) c')).ownsRow (w1.heap.size + 1) 9 1 (.slice p' (i + 1) c') (i + 1) (strV (srcL (i + 1)))) := own_set ho6 (by omega)
        clear ho5 ho6 hg5 hR5 hB5 hoA hslA HA f1 f2 f3 f4 hwA' HwA c2
        go_wp2
        go_roundw
        case rel => exact ⟨i + 1, p', c', by go_num, by omega, HB6, HR6, HW6⟩
        case measure => simp [intOf]; omega
      · have hlt' : ¬ (i : Int) < 2 + (m : Int) := by omega
        obtain ⟨N, rfl⟩ : ∃ x, x = i := ⟨_, rfl⟩
        have hN : N = 2 + m := by omega
        have hlt2 : ¬ (N : Int) < 2 + (m : Int) := by omega
        have hN2 : 2 ≤ N := by omega
        have hN9 : N ≤ 9 := by omega
        have HN : Hid (N = 2 + m) := hN
        clear hlt' hlt hi hN
        obtain ⟨gs, rfl, hgs⟩ : ∃ gs, p = some ⟨gs, 0, none⟩ ∧ w1.heap.size + 1 ≤ gs := by
          obtain ⟨_, ⟨h0, h1⟩ | ⟨g', cap, cur, hv, hle, _⟩⟩ := HW.out
          · simp at h0
            omega
          · simp only [Value.slice.injEq] at hv
            exact ⟨g', hv.1, hle⟩
        have k0 := HR.out.cell 0
        have k1 := HR.out.cell 1
        have k2 := HR.out.cell 2
        have k3 := HR.out.cell 3
        have k4 := HR.out.cell 4
        have k5 := HR.out.cell 5
        have k6 := HR.out.cell 6
        have hRt : Hid (Calls Tryd.prog 11 #[.agg #[.slice oa d.outs.length oc, .slice ia d.ins.length ic, .slice (some ⟨gs, 0, none⟩) N c, .string d.sys, .string d.bld, .slice aa d.args.length ac, .slice ea d.env.length ec]] wr fun e w' => e = .returned (.int .i64 0) ∧ Below wr.heap.size wr w') := by
          have := right_ok { d with srcs := srcL N } #[.slice oa d.outs.length oc, .slice ia d.ins.length ic, .slice (some ⟨gs, 0, none⟩) N c, .string d.sys, .string d.bld, .slice aa d.args.length ac, .slice ea d.env.length ec] wr (drv_srcs HD1.out HB.out (by rw [srcL_len]; exact SlAt.of HW.out))
          rw [rightE_srcs d _ H0.out (by rw [srcL_len]; omega), srcL_rises N hN9] at this
          exact this
        go_wp2_with fail
        refine Calls.mono hRt.out ?_
        rintro e w3 ⟨rfl, hb3⟩
        have HB3 : Hid (Below w1.heap.size w1 w3) := below_next HB.out hb3
        have HR3 : Hid (Row w3 w1.heap.size #[.slice oa d.outs.length oc, .slice ia d.ins.length ic, .slice (some ⟨gs, 0, none⟩) N c, .string d.sys, .string d.bld, .slice aa d.args.length ac, .slice ea d.env.length ec] 27) := HR.out.below hb3 HR.out.lt
        have HW3 : Hid (w3.ownsRow (w1.heap.size + 1) 9 1 (.slice (some ⟨gs, 0, none⟩) N c) N (strV (srcL N))) := own_below HW.out hb3
        clear hb3 hRt HB HR HW k0 k1 k2 k3 k4 k5 k6
        have c2 := (HR3.out.cell 2).trans (show _ = some (Value.slice (some ⟨gs, 0, none⟩) N c) from rfl)
        obtain ⟨N1, hN1⟩ : ∃ N1, N1 = N - 1 := ⟨_, rfl⟩
        obtain ⟨N2, hN2'⟩ : ∃ N2, N2 = N - 2 := ⟨_, rfl⟩
        have hm1 : (N : Int) - 1 = (N1 : Int) := by omega
        have hm2 : (N : Int) - 2 = (N2 : Int) := by omega
        have hl1 : (N1 : Int) < (N : Int) := by omega
        have hl2 : (N2 : Int) < (N : Int) := by omega
        have hw1 : IntKind.i64.wrap (N1 : Int) = N1 := by rw [IntKind.wrap_i64]; omega
        have hw2 : IntKind.i64.wrap (N2 : Int) = N2 := by rw [IntKind.wrap_i64]; omega
        have HN1 : Hid (N1 = N - 1) := hN1
        have HN2 : Hid (N2 = N - 2) := hN2'
        have E1 : Hid (w3.drew.cell? ⟨gs, N1, none⟩ = some (.string (srcB N1))) := (HW3.out.cellAt N1 (by omega)).trans (strV_src N N1 (by omega))
        have E2 : Hid (w3.drew.cell? ⟨gs, N2, none⟩ = some (.string (srcB N2))) := (HW3.out.cellAt N2 (by omega)).trans (strV_src N N2 (by omega))
        have C2 : Hid (w3.drew.cell? ⟨w1.heap.size, 2, none⟩ = some (Value.slice (some ⟨gs, 0, none⟩) N c)) := c2
        have Z1 : Hid (w3.drew.frozen? ⟨gs, N1, none⟩ = false) := HW3.out.frozenAt N1
        have Z2 : Hid ((w3.drew.setCell ⟨gs, N1, none⟩ (.string (srcB N2))).frozen? ⟨gs, N2, none⟩ = false) := (HW3.out.stored N1 _).1.frozenAt N2
        have E3 : Hid ((w3.drew.setCell ⟨gs, N1, none⟩ (.string (srcB N2))).cell? ⟨gs, N2, none⟩ = some (.string (srcB N2))) := ((HW3.out.stored N1 (.string (srcB N2))).1.cellAt N2 (by omega)).trans (by rw [List.getElem?_set_ne (by omega)]; exact strV_src N N2 (by omega))
        have HB4 : Hid (Below w1.heap.size w1 ((w3.drew.setCell ⟨gs, N1, none⟩ (.string (srcB N2))).setCell ⟨gs, N2, none⟩ (.string (srcB N1)))) := (HB3.out.drew.setCell (by show w1.heap.size ≤ gs; omega) _).setCell (by show w1.heap.size ≤ gs; omega) _
        have HR4 : Hid (Row ((w3.drew.setCell ⟨gs, N1, none⟩ (.string (srcB N2))).setCell ⟨gs, N2, none⟩ (.string (srcB N1))) w1.heap.size #[.slice oa d.outs.length oc, .slice ia d.ins.length ic, .slice (some ⟨gs, 0, none⟩) N c, .string d.sys, .string d.bld, .slice aa d.args.length ac, .slice ea d.env.length ec] 27) := (Row.setCell_other (Row.drew HR3.out) (by omega) _).setCell_other (by omega) _
        have HW4 : Hid (((w3.drew.setCell ⟨gs, N1, none⟩ (.string (srcB N2))).setCell ⟨gs, N2, none⟩ (.string (srcB N1))).ownsRow (w1.heap.size + 1) 9 1 (.slice (some ⟨gs, 0, none⟩) N c) N (strV (swapL N))) := by
          have h1 : w3.drew.ownsRow (w1.heap.size + 1) 9 1 (.slice (some ⟨gs, 0, none⟩) N c) N (strV (srcL N)) := HW3.out
          have h := ((h1.stored N1 (.string (srcB N2))).1.stored N2 (.string (srcB N1))).1
          have e : strV (swapL N) = ((strV (srcL N)).set N1 (.string (srcB N2))).set N2 (.string (srcB N1)) := by
            unfold swapL strV
            rw [List.map_set, List.map_set, hN1, hN2']
          rw [e]
          exact h
        clear hN1 hN2' HB3 HR3 HW3
        go_wp2_with fail
        refine L2.wp_region_late [21, 23] [(2, 0), (2, 1), (2, 2), (2, 3), (2, 4), (2, 5), (2, 6), (2, 7), (2, 8), (2, 9), (2, 10), (2, 11), (2, 12), (0, 13), (2, 14), (2, 15), (2, 16), (2, 17), (2, 18), (0, 19), (2, 20), (1, 21), (2, 22), (1, 23)] (fun wx => wx = w3.drew) (fun wx => wx.cell? ⟨w1.heap.size, 2, none⟩ = some (Value.slice (some ⟨gs, 0, none⟩) N c)) (by kernel_rfl) (by kernel_rfl) rfl C2.out ?_
        generalize w3.drew = wD at *
        refine L2.f_value (some 46) ?_ rfl rfl (by rfl) (fun w hw => ?_) ?_
        rotate_left
        · go_simp
          with_reducible rfl
        simp only [Act.put, List.setIfInBounds_toArray, List.set_cons_zero, List.set_cons_succ]
        refine L2.f_value (some 47) ?_ rfl rfl (by rfl) (fun w hw => ?_) ?_
        rotate_left
        · have c := hw
          go_simp
          with_reducible rfl
        simp only [Act.put, List.setIfInBounds_toArray, List.set_cons_zero, List.set_cons_succ]
        refine L2.f_move (some 48) _ rfl rfl rfl (by rfl) ?_
        simp only [Act.put, List.setIfInBounds_toArray, List.set_cons_zero, List.set_cons_succ]
        refine L2.f_value (some 49) ?_ rfl rfl (by rfl) (fun w hw => ?_) ?_
        rotate_left
        · go_simp
          with_reducible rfl
        simp only [Act.put, List.setIfInBounds_toArray, List.set_cons_zero, List.set_cons_succ]
        refine L2.f_value (some 50) ?_ rfl rfl (by rfl) (fun w hw => ?_) ?_
        rotate_left
        · go_simp
          with_reducible rfl
        simp only [Act.put, List.setIfInBounds_toArray, List.set_cons_zero, List.set_cons_succ]
        refine L2.f_value (some 51) ?_ rfl rfl (by rfl) (fun w hw => ?_) ?_
        rotate_left
        · have c := hw
          go_simp
          with_reducible rfl
        simp only [Act.put, List.setIfInBounds_toArray, List.set_cons_zero, List.set_cons_succ]
        refine L2.f_move (some 52) _ rfl rfl rfl (by rfl) ?_
        simp only [Act.put, List.setIfInBounds_toArray, List.set_cons_zero, List.set_cons_succ]
        refine L2.f_value (some 53) ?_ rfl rfl (by rfl) (fun w hw => ?_) ?_
        rotate_left
        · go_simp
          with_reducible rfl
        simp only [Act.put, List.setIfInBounds_toArray, List.set_cons_zero, List.set_cons_succ]
        refine L2.f_value (some 54) ?_ rfl rfl (by rfl) (fun w hw => ?_) ?_
        rotate_left
        · go_simp
          with_reducible rfl
        simp only [Act.put, List.setIfInBounds_toArray, List.set_cons_zero, List.set_cons_succ]
        refine L2.f_value (some 55) ?_ rfl rfl (by rfl) (fun w hw => ?_) ?_
        rotate_left
        · have c := hw
          go_simp
          with_reducible rfl
        simp only [Act.put, List.setIfInBounds_toArray, List.set_cons_zero, List.set_cons_succ]
        refine L2.f_move (some 56) _ rfl rfl rfl (by rfl) ?_
        simp only [Act.put, List.setIfInBounds_toArray, List.set_cons_zero, List.set_cons_succ]
        refine L2.f_value (some 57) ?_ rfl rfl (by rfl) (fun w hw => ?_) ?_
        rotate_left
        · go_simp
          with_reducible rfl
        simp only [Act.put, List.setIfInBounds_toArray, List.set_cons_zero, List.set_cons_succ]
        refine L2.f_value (some 58) ?_ rfl rfl (by rfl) (fun w hw => ?_) ?_
        rotate_left
        · go_simp
          with_reducible rfl
        simp only [Act.put, List.setIfInBounds_toArray, List.set_cons_zero, List.set_cons_succ]
        refine L2.l_value (some 59) ?_ rfl rfl (by rfl) (fun w hw => ?_) ?_
        rotate_left
        · rw [hw]
          have c := E2.out
          go_simp
          with_reducible rfl
        simp only [Act.put, List.setIfInBounds_toArray, List.set_cons_zero, List.set_cons_succ]
        refine L2.f_value (some 60) ?_ rfl rfl (by rfl) (fun w hw => ?_) ?_
        rotate_left
        · go_simp
          with_reducible rfl
        simp only [Act.put, List.setIfInBounds_toArray, List.set_cons_zero, List.set_cons_succ]
        refine L2.f_value (some 61) ?_ rfl rfl (by rfl) (fun w hw => ?_) ?_
        rotate_left
        · have c := hw
          go_simp
          with_reducible rfl
        simp only [Act.put, List.setIfInBounds_toArray, List.set_cons_zero, List.set_cons_succ]
        refine L2.f_move (some 62) _ rfl rfl rfl (by rfl) ?_
        simp only [Act.put, List.setIfInBounds_toArray, List.set_cons_zero, List.set_cons_succ]
        refine L2.f_value (some 63) ?_ rfl rfl (by rfl) (fun w hw => ?_) ?_
        rotate_left
        · go_simp
          with_reducible rfl
        simp only [Act.put, List.setIfInBounds_toArray, List.set_cons_zero, List.set_cons_succ]
        refine L2.f_value (some 64) ?_ rfl rfl (by rfl) (fun w hw => ?_) ?_
        rotate_left
        · go_simp
          with_reducible rfl
        simp only [Act.put, List.setIfInBounds_toArray, List.set_cons_zero, List.set_cons_succ]
        refine L2.l_value (some 65) ?_ rfl rfl (by rfl) (fun w hw => ?_) ?_
        rotate_left
        · rw [hw]
          have c := E1.out
          go_simp
          with_reducible rfl
        simp only [Act.put, List.setIfInBounds_toArray, List.set_cons_zero, List.set_cons_succ]
        refine L2.f_value (some 66) ?_ rfl rfl (by rfl) (fun w hw => ?_) ?_
        rotate_left
        · go_simp
          with_reducible rfl
        simp only [Act.put, List.setIfInBounds_toArray, List.set_cons_zero, List.set_cons_succ]
        have CT : Hid ((wD.setCell ⟨gs, N1, none⟩ (.string (srcB N2))).cell? ⟨w1.heap.size, 2, none⟩ = some (Value.slice (some ⟨gs, 0, none⟩) N c)) := (World.cell?_of_block (heap_setCell_other wD ⟨gs, N1, none⟩ w1.heap.size _ (by show w1.heap.size ≠ gs; omega))).trans C2.out
        have CT2 : Hid (((wD.setCell ⟨gs, N1, none⟩ (.string (srcB N2))).setCell ⟨gs, N2, none⟩ (.string (srcB N1))).cell? ⟨w1.heap.size, 2, none⟩ = some (Value.slice (some ⟨gs, 0, none⟩) N c)) := (World.cell?_of_block (heap_setCell_other _ ⟨gs, N2, none⟩ w1.heap.size _ (by show w1.heap.size ≠ gs; omega))).trans CT.out
        refine L2.l_store (wD.setCell ⟨gs, N1, none⟩ (.string (srcB N2))) rfl rfl (by rfl) (by have c := E1.out; have z := Z1.out; go_simp) CT.out (fun h => by cases h) ?_
        refine L2.f_value (some 67) ?_ rfl rfl (by rfl) (fun w hw => ?_) ?_
        rotate_left
        · go_simp
          with_reducible rfl
        simp only [Act.put, List.setIfInBounds_toArray, List.set_cons_zero, List.set_cons_succ]
        refine L2.l_store ((wD.setCell ⟨gs, N1, none⟩ (.string (srcB N2))).setCell ⟨gs, N2, none⟩ (.string (srcB N1))) rfl rfl (by rfl) (by have c := E3.out; have z := Z2.out; go_simp) CT2.out (fun h => by cases h) ?_
        refine L2.l_done ?_
        try simp only [Exit.then]
        generalize (wD.setCell ⟨gs, N1, none⟩ (.string (srcB N2))).setCell ⟨gs, N2, none⟩ (.string (srcB N1)) = w4 at *
        clear E1 E2 E3 C2 Z1 Z2 c2 CT CT2
        have k0 := HR4.out.cell 0
        have k1 := HR4.out.cell 1
        have k2 := HR4.out.cell 2
        have k3 := HR4.out.cell 3
        have k4 := HR4.out.cell 4
        have k5 := HR4.out.cell 5
        have k6 := HR4.out.cell 6
        have hRt : Hid (Calls Tryd.prog 11 #[.agg #[.slice oa d.outs.length oc, .slice ia d.ins.length ic, .slice (some ⟨gs, 0, none⟩) N c, .string d.sys, .string d.bld, .slice aa d.args.length ac, .slice ea d.env.length ec]] w4 fun e w' => e = .returned (.int .i64 10) ∧ Below w4.heap.size w4 w') := by
          have := right_ok { d with srcs := swapL N } #[.slice oa d.outs.length oc, .slice ia d.ins.length ic, .slice (some ⟨gs, 0, none⟩) N c, .string d.sys, .string d.bld, .slice aa d.args.length ac, .slice ea d.env.length ec] w4 (drv_srcs HD1.out HB4.out (by rw [swapL_len]; exact SlAt.of HW4.out))
          rw [rightE_srcs d _ H0.out (by rw [swapL_len]; omega), swapL_no N hN2 hN9] at this
          exact this
        go_wp2_with fail
        refine Calls.mono hRt.out ?_
        rintro e w5 ⟨rfl, hb5⟩
        have HB5 : Hid (Below w1.heap.size w1 w5) := below_next HB4.out hb5
        have HR5 : Hid (Row w5 w1.heap.size #[.slice oa d.outs.length oc, .slice ia d.ins.length ic, .slice (some ⟨gs, 0, none⟩) N c, .string d.sys, .string d.bld, .slice aa d.args.length ac, .slice ea d.env.length ec] 27) := HR4.out.below hb5 HR4.out.lt
        have HW5 : Hid (w5.ownsRow (w1.heap.size + 1) 9 1 (.slice (some ⟨gs, 0, none⟩) N c) N (strV (swapL N))) := own_below HW4.out hb5
        clear hb5 hRt HB4 HR4 HW4 k0 k1 k2 k3 k4 k5 k6
        have E2 : Hid (w5.drew.cell? ⟨gs, N2, none⟩ = some (.string (srcB N1))) := (HW5.out.cellAt N2 (by omega)).trans (by
          have h1 := HN1.out
          have h2 := HN2.out
          unfold swapL strV
          rw [List.map_set, ← h2, List.getElem?_set_self (by simp [srcL_len]; omega), h1])
        have E1 : Hid (∃ x, w5.drew.cell? ⟨gs, N1, none⟩ = some x) := ⟨_, (HW5.out.cellAt N1 (by omega)).trans (List.getElem?_eq_getElem (by rw [strV_len, swapL_len]; omega))⟩
        have C2 : Hid (w5.drew.cell? ⟨w1.heap.size, 2, none⟩ = some (Value.slice (some ⟨gs, 0, none⟩) N c)) := HR5.out.cell 2
        have Z1 : Hid (w5.drew.frozen? ⟨gs, N1, none⟩ = false) := HW5.out.frozenAt N1
        have HB6 : Hid (Below w1.heap.size w1 (w5.drew.setCell ⟨gs, N1, none⟩ (.string (srcB N1)))) := HB5.out.drew.setCell (by show w1.heap.size ≤ gs; omega) _
        have HR6 : Hid (Row (w5.drew.setCell ⟨gs, N1, none⟩ (.string (srcB N1))) w1.heap.size #[.slice oa d.outs.length oc, .slice ia d.ins.length ic, .slice (some ⟨gs, 0, none⟩) N c, .string d.sys, .string d.bld, .slice aa d.args.length ac, .slice ea d.env.length ec] 27) := Row.setCell_other (Row.drew HR5.out) (by omega) _
        have HW6 : Hid ((w5.drew.setCell ⟨gs, N1, none⟩ (.string (srcB N1))).ownsRow (w1.heap.size + 1) 9 1 (.slice (some ⟨gs, 0, none⟩) N c) N (strV (dupL N))) := by
          have h1 : w5.drew.ownsRow (w1.heap.size + 1) 9 1 (.slice (some ⟨gs, 0, none⟩) N c) N (strV (swapL N)) := HW5.out
          have h := (h1.stored N1 (.string (srcB N1))).1
          have e : strV (dupL N) = (strV (swapL N)).set N1 (.string (srcB N1)) := by
            unfold dupL strV
            rw [List.map_set, HN1.out]
          rw [e]
          exact h
        clear HB5 HR5 HW5
        go_wp2_with fail
        refine L2.wp_region_late [11] [(2, 0), (2, 1), (2, 2), (2, 3), (2, 4), (2, 5), (2, 6), (2, 7), (2, 8), (0, 9), (2, 10), (1, 11)] (fun wx => wx = w5.drew) (fun wx => wx.cell? ⟨w1.heap.size, 2, none⟩ = some (Value.slice (some ⟨gs, 0, none⟩) N c)) (by kernel_rfl) (by kernel_rfl) rfl C2.out ?_
        generalize w5.drew = wE at *
        refine L2.f_value (some 71) ?_ rfl rfl (by rfl) (fun w hw => ?_) ?_
        rotate_left
        · go_simp
          with_reducible rfl
        simp only [Act.put, List.setIfInBounds_toArray, List.set_cons_zero, List.set_cons_succ]
        refine L2.f_value (some 72) ?_ rfl rfl (by rfl) (fun w hw => ?_) ?_
        rotate_left
        · have c := hw
          go_simp
          with_reducible rfl
        simp only [Act.put, List.setIfInBounds_toArray, List.set_cons_zero, List.set_cons_succ]
        refine L2.f_move (some 73) _ rfl rfl rfl (by rfl) ?_
        simp only [Act.put, List.setIfInBounds_toArray, List.set_cons_zero, List.set_cons_succ]
        refine L2.f_value (some 74) ?_ rfl rfl (by rfl) (fun w hw => ?_) ?_
        rotate_left
        · go_simp
          with_reducible rfl
        simp only [Act.put, List.setIfInBounds_toArray, List.set_cons_zero, List.set_cons_succ]
        refine L2.f_value (some 75) ?_ rfl rfl (by rfl) (fun w hw => ?_) ?_
        rotate_left
        · go_simp
          with_reducible rfl
        simp only [Act.put, List.setIfInBounds_toArray, List.set_cons_zero, List.set_cons_succ]
        refine L2.f_value (some 76) ?_ rfl rfl (by rfl) (fun w hw => ?_) ?_
        rotate_left
        · have c := hw
          go_simp
          with_reducible rfl
        simp only [Act.put, List.setIfInBounds_toArray, List.set_cons_zero, List.set_cons_succ]
        refine L2.f_move (some 77) _ rfl rfl rfl (by rfl) ?_
        simp only [Act.put, List.setIfInBounds_toArray, List.set_cons_zero, List.set_cons_succ]
        refine L2.f_value (some 78) ?_ rfl rfl (by rfl) (fun w hw => ?_) ?_
        rotate_left
        · go_simp
          with_reducible rfl
        simp only [Act.put, List.setIfInBounds_toArray, List.set_cons_zero, List.set_cons_succ]
        refine L2.f_value (some 79) ?_ rfl rfl (by rfl) (fun w hw => ?_) ?_
        rotate_left
        · go_simp
          with_reducible rfl
        simp only [Act.put, List.setIfInBounds_toArray, List.set_cons_zero, List.set_cons_succ]
        refine L2.l_value (some 80) ?_ rfl rfl (by rfl) (fun w hw => ?_) ?_
        rotate_left
        · rw [hw]
          have c := E2.out
          go_simp
          with_reducible rfl
        simp only [Act.put, List.setIfInBounds_toArray, List.set_cons_zero, List.set_cons_succ]
        refine L2.f_value (some 81) ?_ rfl rfl (by rfl) (fun w hw => ?_) ?_
        rotate_left
        · go_simp
          with_reducible rfl
        simp only [Act.put, List.setIfInBounds_toArray, List.set_cons_zero, List.set_cons_succ]
        have CT : Hid ((wE.setCell ⟨gs, N1, none⟩ (.string (srcB N1))).cell? ⟨w1.heap.size, 2, none⟩ = some (Value.slice (some ⟨gs, 0, none⟩) N c)) := (World.cell?_of_block (heap_setCell_other wE ⟨gs, N1, none⟩ w1.heap.size _ (by show w1.heap.size ≠ gs; omega))).trans C2.out
        refine L2.l_store (wE.setCell ⟨gs, N1, none⟩ (.string (srcB N1))) rfl rfl (by rfl) (by obtain ⟨x, c⟩ := E1.out; have z := Z1.out; go_simp) CT.out (fun h => by cases h) ?_
        refine L2.l_done ?_
        try simp only [Exit.then]
        generalize wE.setCell ⟨gs, N1, none⟩ (.string (srcB N1)) = w6 at *
        clear E1 E2 C2 Z1 CT
        have hD6 := drv_srcs HD1.out HB6.out (show SlAt w6 (.slice (some ⟨gs, 0, none⟩) N c) (dupL N).length (strV (dupL N)) by rw [dupL_len]; exact SlAt.of HW6.out)
        have hE6 : rightE { d with srcs := dupL N } = 10 := by
          rw [rightE_srcs d _ H0.out (by rw [dupL_len]; omega), dupL_no N hN2]
          rfl
        have HPt : Hid (Calls Tryd.prog 9 #[.agg #[.slice oa d.outs.length oc, .slice ia d.ins.length ic, .slice (some ⟨gs, 0, none⟩) N c, .string d.sys, .string d.bld, .slice aa d.args.length ac, .slice ea d.env.length ec]] w6 fun e w' => e = .returned (.tuple #[.string ⟨#[]⟩, .int .i64 10]) ∧ Below w6.heap.size w6 w') := by
          have := put_err { d with srcs := dupL N } #[.slice oa d.outs.length oc, .slice ia d.ins.length ic, .slice (some ⟨gs, 0, none⟩) N c, .string d.sys, .string d.bld, .slice aa d.args.length ac, .slice ea d.env.length ec] w6 hD6 (by rw [hE6]; decide)
          rw [hE6] at this
          exact this
        have HRt : Hid (∀ wx, Below w6.heap.size w6 wx → Calls Tryd.prog 11 #[.agg #[.slice oa d.outs.length oc, .slice ia d.ins.length ic, .slice (some ⟨gs, 0, none⟩) N c, .string d.sys, .string d.bld, .slice aa d.args.length ac, .slice ea d.env.length ec]] wx fun e w' => e = .returned (.int .i64 10) ∧ Below wx.heap.size wx w') := fun wx hb => by
          have := right_ok { d with srcs := dupL N } #[.slice oa d.outs.length oc, .slice ia d.ins.length ic, .slice (some ⟨gs, 0, none⟩) N c, .string d.sys, .string d.bld, .slice aa d.args.length ac, .slice ea d.env.length ec] wx (hD6.keep hb)
          rw [hE6] at this
          exact this
        clear hD6 hE6
        have k0 := HR6.out.cell 0
        have k1 := HR6.out.cell 1
        have k2 := HR6.out.cell 2
        have k3 := HR6.out.cell 3
        have k4 := HR6.out.cell 4
        have k5 := HR6.out.cell 5
        have k6 := HR6.out.cell 6
        go_wp2_with fail
        refine Calls.mono HPt.out ?_
        rintro e w7 ⟨rfl, hb7⟩
        have HB7 : Hid (Below w6.heap.size w6 w7) := hb7
        have HR7 : Hid (Row w7 w1.heap.size #[.slice oa d.outs.length oc, .slice ia d.ins.length ic, .slice (some ⟨gs, 0, none⟩) N c, .string d.sys, .string d.bld, .slice aa d.args.length ac, .slice ea d.env.length ec] 27) := HR6.out.below hb7 HR6.out.lt
        have HRt7 := HRt.out w7 hb7
        clear hb7 HPt HRt k0 k1 k2 k3 k4 k5 k6
        have k0 := HR7.out.cell 0
        have k1 := HR7.out.cell 1
        have k2 := HR7.out.cell 2
        have k3 := HR7.out.cell 3
        have k4 := HR7.out.cell 4
        have k5 := HR7.out.cell 5
        have k6 := HR7.out.cell 6
        go_wp2_with fail
        refine Calls.mono HRt7 ?_
        rintro e w8 ⟨rfl, hb8⟩
        have HB8 : Hid (Below w.heap.size w w8) := below_next HB1.out (below_next HB6.out (below_next HB7.out hb8))
        clear hb8 HRt7
        go_wp2
        go_ret
        exact ⟨by rfl, HB8.out⟩
  · have h0' : (rightE d == 0) = false := beq_false_of_ne h0
    generalize rightE d = q at *
    go_wp2
    go_ret
    exact ⟨rfl, below_next HB1.out HB2.out⟩
end Go.Proofs.YtmpgfepkdhjibaaDoor
