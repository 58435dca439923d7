/- My own work: the walks of allRise and Right. -/
import Derived.Test.YtmpgfepkdhjibaaDoorRt
namespace Go.Proofs.YtmpgfepkdhjibaaDoor
open Go.RowKit

set_option maxRecDepth 20000 in
set_option maxHeartbeats 4000000 in
theorem allRise_ok (d : Dv) (cs : Array Value) (w : World) (h : DrvAt w d cs) : Calls Tryd.prog 22 #[.agg cs] w fun e w' => e = .returned (.bool (allRiseB d)) ∧ Below w.heap.size w w' := by
  obtain ⟨vo, vi, vs, va, ve, rfl, ho, hi, hs, ha, he⟩ := h.ex
  have HO : Hid (∀ wx, Below w.heap.size w wx → Calls Tryd.prog 45 #[vo, .func (.func 46) #[] #[]] wx fun e w' => e = .returned (.bool (risesB (d.outs.map (·.1)))) ∧ Below wx.heap.size wx w') := fun wx hb => outRises_ok d.outs vo wx (ho.keep hb)
  have HS : Hid (∀ wx, Below w.heap.size w wx → Calls Tryd.prog 43 #[vs, .func (.func 44) #[] #[]] wx fun e w' => e = .returned (.bool (risesB d.srcs)) ∧ Below wx.heap.size wx w') := fun wx hb => strRises_ok d.srcs vs wx (hs.keep hb)
  have HE : Hid (∀ wx, Below w.heap.size w wx → Calls Tryd.prog 49 #[ve, .func (.func 50) #[] #[]] wx fun e w' => e = .returned (.bool (risesB (d.env.map (·.1)))) ∧ Below wx.heap.size wx w') := fun wx hb => pairRises_ok d.env ve wx (he.keep hb)
  obtain ⟨oa, oc, rfl, o1, o2⟩ := ho.shape
  obtain ⟨sa, sc, rfl, s1, s2⟩ := hs.shape
  obtain ⟨aa, ac, rfl, a1, a2⟩ := ha.shape
  obtain ⟨ea, ec, rfl, e1, e2⟩ := he.shape
  obtain ⟨ns, ia, ic, b, off, hns, hsl, rfl, i1, i2, i3, hin⟩ := hi.cells
  have HI : Hid (∀ wx, Below w.heap.size w wx → Calls Tryd.prog 47 #[.slice ia d.ins.length ic, .func (.func 48) #[] #[]] wx fun e w' => e = .returned (.bool (risesB (d.ins.map (·.1)))) ∧ Below wx.heap.size wx w') := fun wx hb => inRises_ok d.ins ns hns _ wx (hsl.keep hb)
  have HIN : Hid _ := hin
  clear h ho hi hs ha he hin hsl hns
  have HB0 : Hid (Below w.heap.size w (w.alloc (.cells #[.slice oa d.outs.length oc, .slice ia d.ins.length ic, .slice sa d.srcs.length sc, .string d.sys, .string d.bld, .slice aa d.args.length ac, .slice ea d.env.length ec] 27))) := below_new (Below.refl _ _) _
  have HR0 : Hid (Row (w.alloc (.cells #[.slice oa d.outs.length oc, .slice ia d.ins.length ic, .slice sa d.srcs.length sc, .string d.sys, .string d.bld, .slice aa d.args.length ac, .slice ea d.env.length ec] 27)) w.heap.size #[.slice oa d.outs.length oc, .slice ia d.ins.length ic, .slice sa d.srcs.length sc, .string d.sys, .string d.bld, .slice aa d.args.length ac, .slice ea d.env.length ec] 27) := Row.new w _ _
  have hi3 : d.ins.length = 0 ∨ ia = some ⟨b, off, none⟩ := by
    by_cases hl : d.ins.length = 0
    · exact .inl hl
    · exact .inr (i3 (by omega))
  clear i3
  go_enter Tryd.func22, Tryd.ntmps22
  go_wp2
  go_loopw [8] (fun iv wx => ∃ (i : Nat), iv = .int .i64 i ∧ i ≤ d.ins.length ∧ Hid ((d.ins.take i).all (fun x => risesB x.2) = true) ∧ Hid (Below w.heap.size w wx) ∧ Hid (Row wx w.heap.size #[.slice oa d.outs.length oc, .slice ia d.ins.length ic, .slice sa d.srcs.length sc, .string d.sys, .string d.bld, .slice aa d.args.length ac, .slice ea d.env.length ec] 27)) (fun iv _ => d.ins.length - (intOf iv).toNat)
  case atStart => exact ⟨0, rfl, by omega, rfl, HB0, HR0⟩
  case round =>
    obtain ⟨i, rfl, hi1, HA, HB, HR⟩ := hrel
    by_cases hlt : i < d.ins.length
    · have hlt' : (i : Int) < (d.ins.length : Int) := by omega
      obtain ⟨n, c0, c1, hn⟩ := HIN.out wr HB.out i hlt
      obtain rfl := hi3.resolve_left (by omega)
      have HN : Hid (∀ wx, Below wr.heap.size wr wx → Calls Tryd.prog 43 #[n, .func (.func 44) #[] #[]] wx fun e w' => e = .returned (.bool (risesB d.ins[i].2)) ∧ Below wx.heap.size wx w') := fun wx hb => strRises_ok d.ins[i].2 n wx (hn.keep hb)
      obtain ⟨na, nc, rfl, n1, n2⟩ := hn.shape
      have HB1 : Hid (Below wr.heap.size wr (wr.alloc (.cells #[.string d.ins[i].1, .slice na d.ins[i].2.length nc] 52))) := below_new (Below.refl _ _) _
      have HN1 := HN.out _ HB1.out
      have HT : Hid ((d.ins.take (i + 1)).all (fun x => risesB x.2) = ((d.ins.take i).all (fun x => risesB x.2) && risesB d.ins[i].2)) := by
        show _ = _
        rw [List.take_succ_eq_append_getElem hlt, List.all_append]
        simp
      have HF : Hid (risesB d.ins[i].2 = false → allRiseB d = false) := fun hf => by
        unfold allRiseB
        have : d.ins.all (fun x => risesB x.2) = false := by
          rw [List.all_eq_false]
          exact ⟨d.ins[i], List.getElem_mem hlt, by rw [hf]; simp⟩
        rw [this]
        rfl
      clear hn HN
      generalize risesB d.ins[i].2 = q at *
      go_wp2_with fail
      refine Calls.mono HN1 ?_
      rintro e w2 ⟨rfl, hb2⟩
      have HB2 : Hid (Below wr.heap.size wr w2) := below_next HB1.out hb2
      have HB3 : Hid (Below w.heap.size w w2) := below_next HB.out HB2.out
      have HR3 : Hid (Row w2 w.heap.size #[.slice oa d.outs.length oc, .slice (some ⟨b, off, none⟩) d.ins.length ic, .slice sa d.srcs.length sc, .string d.sys, .string d.bld, .slice aa d.args.length ac, .slice ea d.env.length ec] 27) := HR.out.below HB2.out HR.out.lt
      clear hb2 HB1 HN1 HB2
      cases q with
      | false =>
        have HF2 := HF.out rfl
        go_wp2
        go_ret
        exact ⟨by rw [HF2]; rfl, HB3.out⟩
      | true =>
        go_wp2
        go_roundw
        case rel => exact ⟨i + 1, by go_num, by omega, by show _ = _; rw [HT.out, HA.out]; rfl, HB3, HR3⟩
        case measure => simp [intOf]; omega
    · have hlt' : ¬ (i : Int) < (d.ins.length : Int) := by omega
      obtain rfl : i = d.ins.length := by omega
      rw [List.take_length] at HA
      have c0 := HR.out.cell 0
      have c1 := HR.out.cell 1
      have c2 := HR.out.cell 2
      have c6 := HR.out.cell 6
      have HV : Hid (allRiseB d = (risesB (d.outs.map (·.1)) && risesB (d.ins.map (·.1)) && risesB d.srcs && risesB (d.env.map (·.1)))) := by
        show _ = _
        unfold allRiseB
        rw [HA.out, Bool.true_and]
      have HO1 := HO.out wr HB.out
      generalize risesB (d.outs.map (·.1)) = q0 at *
      generalize risesB (d.ins.map (·.1)) = q1 at *
      generalize risesB d.srcs = q2 at *
      generalize risesB (d.env.map (·.1)) = q3 at *
      clear HIN
      clear c0 c1 c2 c6
      have c0 := HR.out.cell 0
      go_wp2_with fail
      refine Calls.mono HO1 ?_
      rintro e w2 ⟨rfl, hb2⟩
      have HB2 : Hid (Below w.heap.size w w2) := below_next HB.out hb2
      have HR2 : Hid (Row w2 w.heap.size #[.slice oa d.outs.length oc, .slice ia d.ins.length ic, .slice sa d.srcs.length sc, .string d.sys, .string d.bld, .slice aa d.args.length ac, .slice ea d.env.length ec] 27) := HR.out.below hb2 HR.out.lt
      clear hb2
      cases q0 with
      | false =>
        go_wp2
        go_ret
        exact ⟨by rw [HV.out]; rfl, HB2.out⟩
      | true =>
        have c1 := HR2.out.cell 1
        have HC1 := HI.out w2 HB2.out
        go_wp2_with fail
        refine Calls.mono HC1 ?_
        rintro e w3 ⟨rfl, hb3⟩
        have HB3 : Hid (Below w.heap.size w w3) := below_next HB2.out hb3
        have HR3 : Hid (Row w3 w.heap.size #[.slice oa d.outs.length oc, .slice ia d.ins.length ic, .slice sa d.srcs.length sc, .string d.sys, .string d.bld, .slice aa d.args.length ac, .slice ea d.env.length ec] 27) := HR2.out.below hb3 HR2.out.lt
        clear hb3
        cases q1 with
        | false =>
          go_wp2
          go_ret
          exact ⟨by rw [HV.out]; rfl, HB3.out⟩
        | true =>
          have c2 := HR3.out.cell 2
          have HC2 := HS.out w3 HB3.out
          go_wp2_with fail
          refine Calls.mono HC2 ?_
          rintro e w4 ⟨rfl, hb4⟩
          have HB4 : Hid (Below w.heap.size w w4) := below_next HB3.out hb4
          have HR4 : Hid (Row w4 w.heap.size #[.slice oa d.outs.length oc, .slice ia d.ins.length ic, .slice sa d.srcs.length sc, .string d.sys, .string d.bld, .slice aa d.args.length ac, .slice ea d.env.length ec] 27) := HR3.out.below hb4 HR3.out.lt
          clear hb4
          cases q2 with
          | false =>
            go_wp2
            go_ret
            exact ⟨by rw [HV.out]; rfl, HB4.out⟩
          | true =>
            have c6 := HR4.out.cell 6
            have HC3 := HE.out w4 HB4.out
            go_wp2_with fail
            refine Calls.mono HC3 ?_
            rintro e w5 ⟨rfl, hb5⟩
            have HB5 : Hid (Below w.heap.size w w5) := below_next HB4.out hb5
            have HR5 : Hid (Row w5 w.heap.size #[.slice oa d.outs.length oc, .slice ia d.ins.length ic, .slice sa d.srcs.length sc, .string d.sys, .string d.bld, .slice aa d.args.length ac, .slice ea d.env.length ec] 27) := HR4.out.below hb5 HR4.out.lt
            clear hb5
            go_wp2
            go_ret
            exact ⟨by rw [HV.out]; rfl, HB5.out⟩
/-- What Right finds wrong. -/
theorem rightE_cases (d : Dv) : (1024 < longN d ∧ rightE d = 3) ∨ (¬ 1024 < longN d ∧ (d.outs.length = 0 ∨ allRiseB d = false) ∧ rightE d = 10) ∨ (¬ 1024 < longN d ∧ d.outs.length ≠ 0 ∧ allRiseB d = true ∧ rightE d = if d.ins.any (fun x => decide (x.2.length = 0)) then 10 else 0) := by
  unfold rightE
  by_cases h1 : 1024 < longN d
  · exact .inl ⟨h1, if_pos h1⟩
  · by_cases h2 : d.outs.length = 0 ∨ allRiseB d = false
    · exact .inr (.inl ⟨h1, h2, by rw [if_neg h1, if_pos h2]⟩)
    · refine .inr (.inr ⟨h1, fun e => h2 (.inl e), by cases h : allRiseB d with | true => rfl | false => exact absurd (.inr h) h2, by rw [if_neg h1, if_neg h2]⟩)
set_option maxRecDepth 20000 in
set_option maxHeartbeats 4000000 in
theorem right_ok (d : Dv) (cs : Array Value) (w : World) (h : DrvAt w d cs) : Calls Tryd.prog 11 #[.agg cs] w fun e w' => e = .returned (.int .i64 (rightE d)) ∧ Below w.heap.size w w' := by
  have hb0 : Below w.heap.size w (w.alloc (.cells cs 27)) := below_new (Below.refl _ _) _
  have HL : Hid (Calls Tryd.prog 21 #[.agg cs] (w.alloc (.cells cs 27)) fun e w' => e = .returned (.int .i64 (longN d : Nat)) ∧ Below (w.alloc (.cells cs 27)).heap.size (w.alloc (.cells cs 27)) w') := longest_ok d cs _ (h.keep hb0)
  have HA : Hid (∀ wx, Below w.heap.size w wx → Calls Tryd.prog 22 #[.agg cs] wx fun e w' => e = .returned (.bool (allRiseB d)) ∧ Below wx.heap.size wx w') := fun wx hb => allRise_ok d cs wx (h.keep hb)
  have HR0 : Hid (Row (w.alloc (.cells cs 27)) w.heap.size cs 27) := Row.new w _ _
  have HB0 : Hid _ := hb0
  obtain ⟨vo, vi, vs, va, ve, rfl, ho, hi, hs, ha, he⟩ := h.ex
  obtain ⟨oa, oc, rfl, o1, o2⟩ := ho.shape
  obtain ⟨sa, sc, rfl, s1, s2⟩ := hs.shape
  obtain ⟨aa, ac, rfl, a1, a2⟩ := ha.shape
  obtain ⟨ea, ec, rfl, e1, e2⟩ := he.shape
  obtain ⟨ns, ia, ic, b, off, _, _, rfl, i1, i2, i3, hin⟩ := hi.cells
  have HIN : Hid _ := hin
  have HRC : Hid _ := rightE_cases d
  clear h ho hi hs ha he hin hb0
  go_enter Tryd.func11, Tryd.ntmps11
  go_wp2_with fail
  refine Calls.mono HL.out ?_
  rintro e w1 ⟨rfl, hb1⟩
  have HR1 : Hid (Row w1 w.heap.size #[.slice oa d.outs.length oc, .slice ia d.ins.length ic, .slice sa d.srcs.length sc, .string d.sys, .string d.bld, .slice aa d.args.length ac, .slice ea d.env.length ec] 27) := Row.below HR0.out hb1 (Row.lt HR0.out)
  have HB1 : Hid (Below w.heap.size w w1) := below_next HB0.out hb1
  clear hb1 HL HR0 HB0
  have c0 := HR1.out.cell 0
  have c1 := HR1.out.cell 1
  have cc2 := HR1.out.cell 2
  have cc3 := HR1.out.cell 3
  have cc4 := HR1.out.cell 4
  have cc5 := HR1.out.cell 5
  have cc6 := HR1.out.cell 6
  rcases HRC.out with ⟨h1, h2⟩ | ⟨h1, h2, h3⟩ | ⟨h1, h2, h3, h4⟩
  · have h1' : (1024 : Int) < (longN d : Int) := by omega
    have H2 : Hid _ := h2
    clear h2
    go_wp2
    go_ret
    exact ⟨by rw [H2.out]; rfl, HB1.out⟩
  · have h1' : ¬ (1024 : Int) < (longN d : Int) := by omega
    have H3 : Hid _ := h3
    clear h3
    by_cases h0 : d.outs.length = 0
    · have h0' : ((d.outs.length : Int) == 0) = true := by simp [h0]
      clear h2 h0
      go_wp2
      go_ret
      exact ⟨by rw [H3.out]; rfl, HB1.out⟩
    · have h0' : ((d.outs.length : Int) == 0) = false := by simp; intro e; exact h0 (by rw [e]; rfl)
      have hA : allRiseB d = false := h2.resolve_left h0
      have HA1 := HA.out w1 HB1.out
      rw [hA] at HA1
      clear h2 h0
      go_wp2_with fail
      refine Calls.mono HA1 ?_
      rintro e w2 ⟨rfl, hb2⟩
      have HB2 : Hid (Below w.heap.size w w2) := below_next HB1.out hb2
      clear hb2
      go_wp2
      go_ret
      exact ⟨by rw [H3.out]; rfl, HB2.out⟩
  · have h1' : ¬ (1024 : Int) < (longN d : Int) := by omega
    have h0' : ((d.outs.length : Int) == 0) = false := by simp; intro e; exact h2 (by rw [e]; rfl)
    have HA1 := HA.out w1 HB1.out
    rw [h3] at HA1
    have H4 : Hid _ := h4
    clear h4 h3 h2
    go_wp2_with fail
    refine Calls.mono HA1 ?_
    rintro e w2 ⟨rfl, hb2⟩
    have HB2 : Hid (Below w.heap.size w w2) := below_next HB1.out hb2
    have HR2 : Hid (Row w2 w.heap.size #[.slice oa d.outs.length oc, .slice ia d.ins.length ic, .slice sa d.srcs.length sc, .string d.sys, .string d.bld, .slice aa d.args.length ac, .slice ea d.env.length ec] 27) := Row.below HR1.out hb2 (Row.lt HR1.out)
    clear hb2 HA1
    have k1 := HR2.out.cell 1
    have hi3 : d.ins.length = 0 ∨ ia = some ⟨b, off, none⟩ := by
      by_cases hl : d.ins.length = 0
      · exact .inl hl
      · exact .inr (i3 (by omega))
    clear i3 c0 c1 cc2 cc3 cc4 cc5 cc6
    go_wp2
    go_loopw [20] (fun iv wx => ∃ (i : Nat), iv = .int .i64 i ∧ i ≤ d.ins.length ∧ Hid ((d.ins.take i).any (fun x => decide (x.2.length = 0)) = false) ∧ Hid (Below w.heap.size w wx)) (fun iv _ => d.ins.length - (intOf iv).toNat)
    case atStart => exact ⟨0, rfl, by omega, rfl, HB2⟩
    case round =>
      obtain ⟨i, rfl, hi1, HN, HB⟩ := hrel
      by_cases hlt : i < d.ins.length
      · have hlt' : (i : Int) < (d.ins.length : Int) := by omega
        obtain ⟨n, c0, c1, hn⟩ := HIN.out wr HB.out i hlt
        obtain rfl := hi3.resolve_left (by omega)
        obtain ⟨na, nc, rfl, n1, n2⟩ := hn.shape
        have HB3 : Hid (Below w.heap.size w (wr.alloc (.cells #[.string d.ins[i].1, .slice na d.ins[i].2.length nc] 52))) := below_new HB.out _
        have HT : Hid ((d.ins.take (i + 1)).any (fun x => decide (x.2.length = 0)) = ((d.ins.take i).any (fun x => decide (x.2.length = 0)) || decide (d.ins[i].2.length = 0))) := by
          show _ = _
          rw [List.take_succ_eq_append_getElem hlt, List.any_append]
          simp
        clear hn
        by_cases h0 : d.ins[i].2.length = 0
        · have h0' : ((d.ins[i].2.length : Int) == 0) = true := by simp [h0]
          have HY : Hid (rightE d = 10) := by
            show _ = _
            rw [H4.out, if_pos]
            rw [List.any_eq_true]
            exact ⟨d.ins[i], List.getElem_mem hlt, by simp [h0]⟩
          clear h0
          go_wp2
          go_ret
          exact ⟨by rw [HY.out]; rfl, HB3.out⟩
        · have h0' : ((d.ins[i].2.length : Int) == 0) = false := by simp; intro e; exact h0 (by rw [e]; rfl)
          have HT2 : Hid ((d.ins.take (i + 1)).any (fun x => decide (x.2.length = 0)) = false) := by show _ = _; rw [HT.out, HN.out, decide_eq_false h0]; rfl
          clear h0 HT
          go_wp2
          go_roundw
          case rel => exact ⟨i + 1, by go_num, by omega, HT2, HB3⟩
          case measure => simp [intOf]; omega
      · have hlt' : ¬ (i : Int) < (d.ins.length : Int) := by omega
        obtain rfl : i = d.ins.length := by omega
        rw [List.take_length] at HN
        have HY : Hid (rightE d = 0) := by
          show _ = _
          rw [H4.out, HN.out]
          rfl
        go_wp2
        go_ret
        exact ⟨by rw [HY.out]; rfl, HB.out⟩
end Go.Proofs.YtmpgfepkdhjibaaDoor
