/- My own work: the walks of drv. -/
import Derived.Test.YtmpgfepkdhjibaaDoorWr3
import Derived.Test.YtmpgfepkdhjibaaDoorWr4
import Derived.Test.YtmpgfepkdhjibaaDoorWr5
import Derived.Test.YtmpgfepkdhjibaaDoorWr6
namespace Go.Proofs.YtmpgfepkdhjibaaDoor
open Go.RowKit

/-- The inputs' list. -/
theorem ins_ok (l : List (ByteArray × List ByteArray)) (g : Nat) (T : List UInt8) (v : Value) (w w00 : World) (h : Wr w g T) (hi : InsAt w00 v l) (hk : ∀ w', Fr g w w' → Below w00.heap.size w00 w') (hT : ETab w) (hg : 0 < g) :
    Calls Tryd.prog 35 #[.pointer (some ⟨g, 0, none⟩), v, .func (.func 36) #[.pointer (some ⟨g, 0, none⟩)] #[]] w fun e w' => (∃ v, e = .returned v) ∧ Wr w' g (T ++ listU (l.map inE)) ∧ Fr g w w' := by
  obtain ⟨ns, hns, hsl, hnn⟩ := hi
  exact inList_ok l ns hns (fun i hi h' => by obtain ⟨a, c, e, _⟩ := (hnn i hi h').shape; exact ⟨a, _, c, e⟩) g T v w h (fun w' hf => hsl.keep (hk w' hf)) (fun i hi T' wx hf hw => by
    obtain ⟨a, c, e, _⟩ := (hnn i hi (by omega)).shape
    have hs : ∀ w', Fr g wx w' → SlAt w' (ns[i]'(by omega)) l[i].2.length (strV l[i].2) := fun w' hf' => (hnn i hi (by omega)).keep (hk w' (hf.trans hf'))
    rw [e] at hs ⊢
    exact input_ok l[i] a _ c g T' wx hw (hf.tab hg hT) hg hs)
/-- A derivation's text. -/
def drvE (d : Dv) : List UInt8 := [68, 101, 114, 105, 118, 101, 40] ++ (listU (d.outs.map outE) ++ ([44] ++ (listU (d.ins.map inE) ++ ([44] ++ (listU (d.srcs.map strE) ++ ([44] ++ (strE d.sys ++ ([44] ++ (strE d.bld ++ ([44] ++ (listU (d.args.map strE) ++ ([44] ++ (listU (d.env.map pairE) ++ [41])))))))))))))
set_option maxRecDepth 20000 in
set_option maxHeartbeats 4000000 in
theorem drv_ok (d : Dv) (cs : Array Value) (g : Nat) (T : List UInt8) (w : World) (h : Wr w g T) (hT : ETab w) (hg : 0 < g) (w00 : World) (hd : DrvAt w00 d cs) (hb00 : Below w00.heap.size w00 w) (hg00 : w00.heap.size ≤ g) : Calls Tryd.prog 19 #[.pointer (some ⟨g, 0, none⟩), .agg cs] w fun e w' => (∃ v, e = .returned v) ∧ Wr w' g (T ++ drvE d) ∧ Fr g w w' := by
  have hmf : ∀ (fn : Fn) (first cap : Array Value) (w : World), (Instr.makeFunc fn first cap).run Tryd.prog w = .ok (.func fn first cap) w := fun _ _ _ _ => rfl
  obtain ⟨vo, vi, vs, va, ve, rfl, ho, hi, hs, ha, he⟩ := hd.ex
  obtain ⟨oa, oc, rfl, o1, o2⟩ := ho.shape
  obtain ⟨sa, sc, rfl, s1, s2⟩ := hs.shape
  obtain ⟨aa, ac, rfl, a1, a2⟩ := ha.shape
  obtain ⟨ea, ec, rfl, e1, e2⟩ := he.shape
  obtain ⟨ia, ic, rfl, i1, i2⟩ : ∃ a c, vi = .slice a d.ins.length c ∧ d.ins.length ≤ c ∧ c ≤ 9223372036854775807 := by
    obtain ⟨ns, hns, hsl, hnn⟩ := hi
    exact hsl.shape
  have HK : Hid (∀ w', Fr g w w' → Below w00.heap.size w00 w') := fun w' hf => hb00.trans (hf.bel.mono hg00)
  have HO : Hid (∀ w', Fr g w w' → SlAt w' (.slice oa d.outs.length oc) d.outs.length (outV d.outs)) := fun w' hf => ho.keep (HK.out w' hf)
  have HS : Hid (∀ w', Fr g w w' → SlAt w' (.slice sa d.srcs.length sc) d.srcs.length (strV d.srcs)) := fun w' hf => hs.keep (HK.out w' hf)
  have HA : Hid (∀ w', Fr g w w' → SlAt w' (.slice aa d.args.length ac) d.args.length (strV d.args)) := fun w' hf => ha.keep (HK.out w' hf)
  have HE : Hid (∀ w', Fr g w w' → SlAt w' (.slice ea d.env.length ec) d.env.length (pairV d.env)) := fun w' hf => he.keep (HK.out w' hf)
  have HI : Hid (InsAt w00 (.slice ia d.ins.length ic) d.ins) := hi
  clear hd ho hs ha he hi
  have hb0 : Below w.heap.size w (w.alloc (.cells #[.slice oa d.outs.length oc, .slice ia d.ins.length ic, .slice sa d.srcs.length sc, .string d.sys, .string d.bld, .slice aa d.args.length ac, .slice ea d.env.length ec] 27)) := below_new (Below.refl _ _) _
  have hw0 : Wr (w.alloc (.cells #[.slice oa d.outs.length oc, .slice ia d.ins.length ic, .slice sa d.srcs.length sc, .string d.sys, .string d.bld, .slice aa d.args.length ac, .slice ea d.env.length ec] 27)) g T := h.keep hb0
  have HF00 : Hid (Fr g w (w.alloc (.cells #[.slice oa d.outs.length oc, .slice ia d.ins.length ic, .slice sa d.srcs.length sc, .string d.sys, .string d.bld, .slice aa d.args.length ac, .slice ea d.env.length ec] 27))) := Fr.of hb0 (Nat.le_of_lt h.lt)
  have hT0 : ETab (w.alloc (.cells #[.slice oa d.outs.length oc, .slice ia d.ins.length ic, .slice sa d.srcs.length sc, .string d.sys, .string d.bld, .slice aa d.args.length ac, .slice ea d.env.length ec] 27)) := HF00.out.tab hg hT
  have R0 : Hid (Row (w.alloc (.cells #[.slice oa d.outs.length oc, .slice ia d.ins.length ic, .slice sa d.srcs.length sc, .string d.sys, .string d.bld, .slice aa d.args.length ac, .slice ea d.env.length ec] 27)) w.heap.size #[.slice oa d.outs.length oc, .slice ia d.ins.length ic, .slice sa d.srcs.length sc, .string d.sys, .string d.bld, .slice aa d.args.length ac, .slice ea d.env.length ec] 27) := Row.new w _ _
  have HF0 : Hid (Fr g w (w.alloc (.cells #[.slice oa d.outs.length oc, .slice ia d.ins.length ic, .slice sa d.srcs.length sc, .string d.sys, .string d.bld, .slice aa d.args.length ac, .slice ea d.env.length ec] 27))) := HF00
  clear h hb0
  go_enter Tryd.func19, Tryd.ntmps19
  have HC1 := put_ok g _ ⟨#[68, 101, 114, 105, 118, 101, 40]⟩ _ hw0
  clear hw0
  go_wp2_with fail
  generalize w.alloc (.cells #[.slice oa d.outs.length oc, .slice ia d.ins.length ic, .slice sa d.srcs.length sc, .string d.sys, .string d.bld, .slice aa d.args.length ac, .slice ea d.env.length ec] 27) = w0 at *
  refine Calls.mono HC1 ?_
  rintro e w1 ⟨⟨v1, rfl⟩, hw1, hf1⟩
  have HF1 : Hid (Fr g w w1) := HF0.out.trans hf1
  have R1 : Hid (Row w1 w.heap.size #[.slice oa d.outs.length oc, .slice ia d.ins.length ic, .slice sa d.srcs.length sc, .string d.sys, .string d.bld, .slice aa d.args.length ac, .slice ea d.env.length ec] 27) := hf1.rows _ _ _ R0.out (by decide) (by decide)
  clear hf1 HC1 R0
  have HC2 := outList_ok d.outs g _ _ w1 hw1 (fun w' hf => HO.out w' (HF1.out.trans hf)) (fun i hi T' wx hf hw => output_ok _ g T' wx hw (hf.tab hg (HF1.out.tab hg hT)) hg)
  have c0 := (R1.out.cell 0).trans (rfl : _ = some (Value.slice oa d.outs.length oc))
  clear hw1
  go_wp2_with fail
  refine Calls.mono HC2 ?_
  rintro e w2 ⟨⟨v2, rfl⟩, hw2, hf2⟩
  have HF2 : Hid (Fr g w w2) := HF1.out.trans hf2
  have R2 : Hid (Row w2 w.heap.size #[.slice oa d.outs.length oc, .slice ia d.ins.length ic, .slice sa d.srcs.length sc, .string d.sys, .string d.bld, .slice aa d.args.length ac, .slice ea d.env.length ec] 27) := hf2.rows _ _ _ R1.out (by decide) (by decide)
  clear hf2 HC2 R1 c0
  have HC3 := put_ok g _ ⟨#[44]⟩ _ hw2
  clear hw2
  go_wp2_with fail
  refine Calls.mono HC3 ?_
  rintro e w3 ⟨⟨v3, rfl⟩, hw3, hf3⟩
  have HF3 : Hid (Fr g w w3) := HF2.out.trans hf3
  have R3 : Hid (Row w3 w.heap.size #[.slice oa d.outs.length oc, .slice ia d.ins.length ic, .slice sa d.srcs.length sc, .string d.sys, .string d.bld, .slice aa d.args.length ac, .slice ea d.env.length ec] 27) := hf3.rows _ _ _ R2.out (by decide) (by decide)
  clear hf3 HC3 R2
  have HC4 := ins_ok d.ins g _ _ w3 w00 hw3 HI.out (fun w' hf => HK.out w' (HF3.out.trans hf)) (HF3.out.tab hg hT) hg
  have c1 := (R3.out.cell 1).trans (rfl : _ = some (Value.slice ia d.ins.length ic))
  clear hw3
  go_wp2_with fail
  refine Calls.mono HC4 ?_
  rintro e w4 ⟨⟨v4, rfl⟩, hw4, hf4⟩
  have HF4 : Hid (Fr g w w4) := HF3.out.trans hf4
  have R4 : Hid (Row w4 w.heap.size #[.slice oa d.outs.length oc, .slice ia d.ins.length ic, .slice sa d.srcs.length sc, .string d.sys, .string d.bld, .slice aa d.args.length ac, .slice ea d.env.length ec] 27) := hf4.rows _ _ _ R3.out (by decide) (by decide)
  clear hf4 HC4 R3 c1
  have HC5 := put_ok g _ ⟨#[44]⟩ _ hw4
  clear hw4
  go_wp2_with fail
  refine Calls.mono HC5 ?_
  rintro e w5 ⟨⟨v5, rfl⟩, hw5, hf5⟩
  have HF5 : Hid (Fr g w w5) := HF4.out.trans hf5
  have R5 : Hid (Row w5 w.heap.size #[.slice oa d.outs.length oc, .slice ia d.ins.length ic, .slice sa d.srcs.length sc, .string d.sys, .string d.bld, .slice aa d.args.length ac, .slice ea d.env.length ec] 27) := hf5.rows _ _ _ R4.out (by decide) (by decide)
  clear hf5 HC5 R4
  have HC6 := strList_ok d.srcs g _ _ w5 hw5 (fun w' hf => HS.out w' (HF5.out.trans hf)) (fun i hi T' wx hf hw => quoted_ok g T' _ wx hw (hf.tab hg (HF5.out.tab hg hT)) hg)
  have c2 := (R5.out.cell 2).trans (rfl : _ = some (Value.slice sa d.srcs.length sc))
  clear hw5
  go_wp2_with fail
  refine Calls.mono HC6 ?_
  rintro e w6 ⟨⟨v6, rfl⟩, hw6, hf6⟩
  have HF6 : Hid (Fr g w w6) := HF5.out.trans hf6
  have R6 : Hid (Row w6 w.heap.size #[.slice oa d.outs.length oc, .slice ia d.ins.length ic, .slice sa d.srcs.length sc, .string d.sys, .string d.bld, .slice aa d.args.length ac, .slice ea d.env.length ec] 27) := hf6.rows _ _ _ R5.out (by decide) (by decide)
  clear hf6 HC6 R5 c2
  have HC7 := put_ok g _ ⟨#[44]⟩ _ hw6
  clear hw6
  go_wp2_with fail
  refine Calls.mono HC7 ?_
  rintro e w7 ⟨⟨v7, rfl⟩, hw7, hf7⟩
  have HF7 : Hid (Fr g w w7) := HF6.out.trans hf7
  have R7 : Hid (Row w7 w.heap.size #[.slice oa d.outs.length oc, .slice ia d.ins.length ic, .slice sa d.srcs.length sc, .string d.sys, .string d.bld, .slice aa d.args.length ac, .slice ea d.env.length ec] 27) := hf7.rows _ _ _ R6.out (by decide) (by decide)
  clear hf7 HC7 R6
  have HC8 := quoted_ok g _ d.sys w7 hw7 (HF7.out.tab hg hT) hg
  have c3 := (R7.out.cell 3).trans (rfl : _ = some (Value.string d.sys))
  clear hw7
  go_wp2_with fail
  refine Calls.mono HC8 ?_
  rintro e w8 ⟨⟨v8, rfl⟩, hw8, hf8⟩
  have HF8 : Hid (Fr g w w8) := HF7.out.trans hf8
  have R8 : Hid (Row w8 w.heap.size #[.slice oa d.outs.length oc, .slice ia d.ins.length ic, .slice sa d.srcs.length sc, .string d.sys, .string d.bld, .slice aa d.args.length ac, .slice ea d.env.length ec] 27) := hf8.rows _ _ _ R7.out (by decide) (by decide)
  clear hf8 HC8 R7 c3
  have HC9 := put_ok g _ ⟨#[44]⟩ _ hw8
  clear hw8
  go_wp2_with fail
  refine Calls.mono HC9 ?_
  rintro e w9 ⟨⟨v9, rfl⟩, hw9, hf9⟩
  have HF9 : Hid (Fr g w w9) := HF8.out.trans hf9
  have R9 : Hid (Row w9 w.heap.size #[.slice oa d.outs.length oc, .slice ia d.ins.length ic, .slice sa d.srcs.length sc, .string d.sys, .string d.bld, .slice aa d.args.length ac, .slice ea d.env.length ec] 27) := hf9.rows _ _ _ R8.out (by decide) (by decide)
  clear hf9 HC9 R8
  have HC10 := quoted_ok g _ d.bld w9 hw9 (HF9.out.tab hg hT) hg
  have c4 := (R9.out.cell 4).trans (rfl : _ = some (Value.string d.bld))
  clear hw9
  go_wp2_with fail
  refine Calls.mono HC10 ?_
  rintro e w10 ⟨⟨v10, rfl⟩, hw10, hf10⟩
  have HF10 : Hid (Fr g w w10) := HF9.out.trans hf10
  have R10 : Hid (Row w10 w.heap.size #[.slice oa d.outs.length oc, .slice ia d.ins.length ic, .slice sa d.srcs.length sc, .string d.sys, .string d.bld, .slice aa d.args.length ac, .slice ea d.env.length ec] 27) := hf10.rows _ _ _ R9.out (by decide) (by decide)
  clear hf10 HC10 R9 c4
  have HC11 := put_ok g _ ⟨#[44]⟩ _ hw10
  clear hw10
  go_wp2_with fail
  refine Calls.mono HC11 ?_
  rintro e w11 ⟨⟨v11, rfl⟩, hw11, hf11⟩
  have HF11 : Hid (Fr g w w11) := HF10.out.trans hf11
  have R11 : Hid (Row w11 w.heap.size #[.slice oa d.outs.length oc, .slice ia d.ins.length ic, .slice sa d.srcs.length sc, .string d.sys, .string d.bld, .slice aa d.args.length ac, .slice ea d.env.length ec] 27) := hf11.rows _ _ _ R10.out (by decide) (by decide)
  clear hf11 HC11 R10
  have HC12 := strList_ok d.args g _ _ w11 hw11 (fun w' hf => HA.out w' (HF11.out.trans hf)) (fun i hi T' wx hf hw => quoted_ok g T' _ wx hw (hf.tab hg (HF11.out.tab hg hT)) hg)
  have c5 := (R11.out.cell 5).trans (rfl : _ = some (Value.slice aa d.args.length ac))
  clear hw11
  go_wp2_with fail
  refine Calls.mono HC12 ?_
  rintro e w12 ⟨⟨v12, rfl⟩, hw12, hf12⟩
  have HF12 : Hid (Fr g w w12) := HF11.out.trans hf12
  have R12 : Hid (Row w12 w.heap.size #[.slice oa d.outs.length oc, .slice ia d.ins.length ic, .slice sa d.srcs.length sc, .string d.sys, .string d.bld, .slice aa d.args.length ac, .slice ea d.env.length ec] 27) := hf12.rows _ _ _ R11.out (by decide) (by decide)
  clear hf12 HC12 R11 c5
  have HC13 := put_ok g _ ⟨#[44]⟩ _ hw12
  clear hw12
  go_wp2_with fail
  refine Calls.mono HC13 ?_
  rintro e w13 ⟨⟨v13, rfl⟩, hw13, hf13⟩
  have HF13 : Hid (Fr g w w13) := HF12.out.trans hf13
  have R13 : Hid (Row w13 w.heap.size #[.slice oa d.outs.length oc, .slice ia d.ins.length ic, .slice sa d.srcs.length sc, .string d.sys, .string d.bld, .slice aa d.args.length ac, .slice ea d.env.length ec] 27) := hf13.rows _ _ _ R12.out (by decide) (by decide)
  clear hf13 HC13 R12
  have HC14 := pairList_ok d.env g _ _ w13 hw13 (fun w' hf => HE.out w' (HF13.out.trans hf)) (fun i hi T' wx hf hw => pair_ok _ g T' wx hw (hf.tab hg (HF13.out.tab hg hT)) hg)
  have c6 := (R13.out.cell 6).trans (rfl : _ = some (Value.slice ea d.env.length ec))
  clear hw13
  go_wp2_with fail
  refine Calls.mono HC14 ?_
  rintro e w14 ⟨⟨v14, rfl⟩, hw14, hf14⟩
  have HF14 : Hid (Fr g w w14) := HF13.out.trans hf14
  have R14 : Hid (Row w14 w.heap.size #[.slice oa d.outs.length oc, .slice ia d.ins.length ic, .slice sa d.srcs.length sc, .string d.sys, .string d.bld, .slice aa d.args.length ac, .slice ea d.env.length ec] 27) := hf14.rows _ _ _ R13.out (by decide) (by decide)
  clear hf14 HC14 R13 c6
  have HC15 := put_ok g _ ⟨#[41]⟩ _ hw14
  clear hw14
  go_wp2_with fail
  refine Calls.mono HC15 ?_
  rintro e w15 ⟨⟨v15, rfl⟩, hw15, hf15⟩
  have HF15 : Hid (Fr g w w15) := HF14.out.trans hf15
  have R15 : Hid (Row w15 w.heap.size #[.slice oa d.outs.length oc, .slice ia d.ins.length ic, .slice sa d.srcs.length sc, .string d.sys, .string d.bld, .slice aa d.args.length ac, .slice ea d.env.length ec] 27) := hf15.rows _ _ _ R14.out (by decide) (by decide)
  clear hf15 HC15 R14
  have HX : Hid (Wr w15 g (T ++ drvE d)) := by
    show Wr _ _ _
    unfold drvE strE
    simp only [bl, List.append_assoc, List.cons_append, List.nil_append] at hw15 ⊢
    exact hw15
  clear hw15
  go_wp2
  go_end0
  exact ⟨⟨_, rfl⟩, HX.out, HF15.out⟩
end Go.Proofs.YtmpgfepkdhjibaaDoor
