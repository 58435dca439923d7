/- My own work: the reader's derivation by walk. -/
import Derived.Test.YtmpgfepkdhjibaaDoorRd8i
import Derived.Test.YtmpgfepkdhjibaaDoorPutD
namespace Go.Proofs.YtmpgfepkdhjibaaDoor
open Go.RowKit

abbrev drvS := seqE (seqE (seqE (seqE (seqE (seqE (seqE (seqE (seqE (seqE (seqE (seqE (seqE (seqE (conE [68, 101, 114, 105, 118, 101, 40]) (lstE outE)) (conE [44])) (lstE inE)) (conE [44])) (lstE strE)) (conE [44])) (strE)) (conE [44])) (strE)) (conE [44])) (lstE strE)) (conE [44])) (lstE pairE)) (conE [41])
theorem drvS_eq (y : Dv) : drvS (((((((((((((((), y.outs), ()), y.ins), ()), y.srcs), ()), y.sys), ()), y.bld), ()), y.args), ()), y.env), ()) = drvE y := by simp [drvS, seqE, conE, drvE, lstE]
theorem drvE_pf : PF drvE := pf_map (E := drvS) (seq_pf (seq_pf (seq_pf (seq_pf (seq_pf (seq_pf (seq_pf (seq_pf (seq_pf (seq_pf (seq_pf (seq_pf (seq_pf (seq_pf (con_pf _) (lst_pf outE_pf out_head)) (con_pf _)) (lst_pf inE_pf in_head)) (con_pf _)) (lst_pf strE_pf str_head)) (con_pf _)) (strE_pf)) (con_pf _)) (strE_pf)) (con_pf _)) (lst_pf strE_pf str_head)) (con_pf _)) (lst_pf pairE_pf pair_head)) (con_pf _)) (fun y => (((((((((((((((), y.outs), ()), y.ins), ()), y.srcs), ()), y.sys), ()), y.bld), ()), y.args), ()), y.env), ())) (fun y z h => by
  simp only [Prod.mk.injEq, true_and, and_true] at h
  cases y
  cases z
  simp_all) drvS_eq
/-- A derivation that was read: its lists lie behind the reader. -/
def DrvO (g : Nat) (w : World) (v : Value) (d : Dv) : Prop := ∃ x0 x1 x2 x5 x6, v = .agg #[x0, x1, x2, .string d.sys, .string d.bld, x5, x6] ∧ OutL (g + 1) g w x0 d.outs ∧ InL (g + 1) g w x1 d.ins ∧ StrL (g + 1) g w x2 d.srcs ∧ StrL (g + 1) g w x5 d.args ∧ PairL (g + 1) g w x6 d.env
theorem own_keepG {g B n z : Nat} {e : TypeId} {w w' : World} {v : Value} {xs : List Value} (h : w.ownsRow B e z v n xs) (hB : g < B) (hk : ∀ k, g < k → k < w.heap.size → w'.heap[k]? = w.heap[k]?) : w'.ownsRow B e z v n xs :=
  ownsRow_keep h fun k hq hlt => hk k (by have := (ownsRow_lt h k hq).2.1; omega) hlt
theorem DrvO.keep {g : Nat} {w w' : World} {v : Value} {d : Dv} (h : DrvO g w v d) (hk : ∀ k, g < k → k < w.heap.size → w'.heap[k]? = w.heap[k]?) : DrvO g w' v d := by
  obtain ⟨x0, x1, x2, x5, x6, e, ⟨C0, h0, k0⟩, ⟨C1, h1, ns, e1, e2, e3⟩, ⟨C2, h2, k2⟩, ⟨C5, h5, k5⟩, ⟨C6, h6, k6⟩⟩ := h
  have hg : g < g + 1 := Nat.lt_succ_self _
  exact ⟨x0, x1, x2, x5, x6, e, ⟨C0, own_keepG h0 hg hk, k0⟩, ⟨C1, own_keepG h1 hg hk, ns, e1, e2, fun i a b => own_keepG (e3 i a b) hg hk⟩, ⟨C2, own_keepG h2 hg hk, k2⟩, ⟨C5, own_keepG h5 hg hk, k5⟩, ⟨C6, own_keepG h6 hg hk, k6⟩⟩
theorem StrL.sl {B g : Nat} {w : World} {v : Value} {l : List ByteArray} (h : StrL B g w v l) : SlAt w v l.length (strV l) := by
  obtain ⟨D, h1, h2⟩ := h
  rw [show D = strV l from h2] at h1
  exact SlAt.of h1
theorem OutL.sl {B g : Nat} {w : World} {v : Value} {l : List (ByteArray × ByteArray × ByteArray)} (h : OutL B g w v l) : SlAt w v l.length (outV l) := by
  obtain ⟨D, h1, h2⟩ := h
  rw [show D = outV l from h2] at h1
  exact SlAt.of h1
theorem PairL.sl {B g : Nat} {w : World} {v : Value} {l : List (ByteArray × ByteArray)} (h : PairL B g w v l) : SlAt w v l.length (pairV l) := by
  obtain ⟨D, h1, h2⟩ := h
  rw [show D = pairV l from h2] at h1
  exact SlAt.of h1
theorem InL.sl {B g : Nat} {w : World} {v : Value} {l : List (ByteArray × List ByteArray)} (h : InL B g w v l) : InsAt w v l := by
  obtain ⟨D, h1, ns, e1, rfl, e3⟩ := h
  exact ⟨ns, e1, SlAt.of h1, fun i a b => SlAt.of (e3 i a b)⟩
theorem DrvO.at {g : Nat} {w : World} {v : Value} {d : Dv} (h : DrvO g w v d) : ∃ cs, v = .agg cs ∧ DrvAt w d cs ∧ cs.size = 7 ∧ cs.all (·.oneCell') = true := by
  obtain ⟨x0, x1, x2, x5, x6, rfl, h0, h1, h2, h5, h6⟩ := h
  obtain ⟨a0, c0, rfl⟩ := h0.shape
  obtain ⟨a1, c1, rfl⟩ := h1.shape
  obtain ⟨a2, c2, rfl⟩ := h2.shape
  obtain ⟨a5, c5, rfl⟩ := h5.shape
  obtain ⟨a6, c6, rfl⟩ := h6.shape
  exact ⟨_, rfl, ⟨_, _, _, _, _, rfl, h0.sl, h1.sl, h2.sl, h5.sl, h6.sl⟩, rfl, drv_one _ _ _ _ _ _ _ _ _ _ _ _ _ _ _ _ _⟩
def dv0 : Dv := ⟨[], [], [], ⟨#[]⟩, ⟨#[]⟩, [], []⟩
theorem drvO_zero (g : Nat) (w : World) : DrvO g w (.agg zDrv) dv0 := ⟨_, _, _, _, _, rfl, OutL.nil _ _ _, InL.nil _ _ _, StrL.nil _ _ _, StrL.nil _ _ _, PairL.nil _ _ _⟩
theorem res_drv : Tryd.f51.results = #[.cell 2 27] := by kernel_rfl
set_option maxRecDepth 20000 in
set_option maxHeartbeats 8000000 in
theorem rdrv_ok (g : Nat) (s : ByteArray) (p : Nat) (b : Bool) (w : World) (h : Rq w g s p b) (hT : ETab w) (hg : 0 ≠ g) : Calls Tryd.prog 51 #[.pointer (some ⟨g, 0, none⟩)] w fun r w' => Reads2 drvE (DrvO g) g s p b w r w' := by
  obtain ⟨RP, hRP⟩ : ∃ RP, RP = Reads2 drvE (DrvO g) g s p b w := ⟨_, rfl⟩
  have HRP : Hid (∀ r w', Reads2 drvE (DrvO g) g s p b w r w' → RP r w') := fun r w' h => by rw [hRP]; exact h
  rw [← hRP]
  have hmf : ∀ (fn : Fn) (first cap : Array Value) (w : World), (Instr.makeFunc fn first cap).run Tryd.prog w = .ok (.func fn first cap) w := fun _ _ _ _ => rfl
  have hgl : g < w.heap.size := by obtain ⟨ev, h1, _⟩ := h.ex; exact h1.lt
  have HTB : Hid (∀ wx, Gr g w wx → ETab wx) := fun wx hgr => hgr.tab hg hT
  have HNE : Hid (w.heap.size ≠ g) := by show _ ≠ _; omega
  have HW : Hid (Row (w.alloc (.cells #[.slice none 0 0, .slice none 0 0, .slice none 0 0, .string ⟨#[]⟩, .string ⟨#[]⟩, .slice none 0 0, .slice none 0 0] 27)) w.heap.size #[.slice none 0 0, .slice none 0 0, .slice none 0 0, .string ⟨#[]⟩, .string ⟨#[]⟩, .slice none 0 0, .slice none 0 0] 27) := Row.new w _ _
  have HR : Hid (Rq (w.alloc (.cells #[.slice none 0 0, .slice none 0 0, .slice none 0 0, .string ⟨#[]⟩, .string ⟨#[]⟩, .slice none 0 0, .slice none 0 0] 27)) g s p b) := h.keep (below_new (Below.refl _ _) _)
  have HG : Hid (Gr g w (w.alloc (.cells #[.slice none 0 0, .slice none 0 0, .slice none 0 0, .string ⟨#[]⟩, .string ⟨#[]⟩, .slice none 0 0, .slice none 0 0] 27))) := Gr.of (below_new (Below.refl _ _) _)
  clear h hRP hT
  go_enter Tryd.func51, Tryd.ntmps51
  have HC := passq_ok g s p b ⟨#[68, 101, 114, 105, 118, 101, 40]⟩ (w.alloc (.cells #[.slice none 0 0, .slice none 0 0, .slice none 0 0, .string ⟨#[]⟩, .string ⟨#[]⟩, .slice none 0 0, .slice none 0 0] 27)) HR.out
  go_wp2_with fail
  refine Calls.mono HC ?_
  rintro e w1 ⟨⟨v1, rfl⟩, hg1, p1, b1, hr1, ho1⟩
  have HO1 : Hid (Oc (conE [68, 101, 114, 105, 118, 101, 40]) s p b () p1 b1) := ho1
  have HW1 : Hid (Row w1 w.heap.size #[.slice none 0 0, .slice none 0 0, .slice none 0 0, .string ⟨#[]⟩, .string ⟨#[]⟩, .slice none 0 0, .slice none 0 0] 27) := hg1.row HW.out HNE.out
  have HR1 : Hid (Rq w1 g s p1 b1) := hr1
  have HG1 : Hid (Gr g w w1) := HG.out.trans hg1
  clear HC hg1 hr1 ho1 HR HG HW
  have HO := HO1
  have HW := HW1
  have HR := HR1
  have HG := HG1
  clear HO1 HW1 HR1 HG1
  have HC := outR_ok g s p1 b1 w1 HR.out (fun p b wx hgr hr => routput_ok g s p b wx hr (HTB.out _ (HG.out.trans hgr)) hg)
  go_wp2_with fail
  refine Calls.mono HC ?_
  rintro e w2 ⟨hg1, v2, l2, p2, b2, rfl, hl1, hr1, ho1⟩
  obtain ⟨a2, c2, rfl⟩ := hl1.shape
  have HO2 : Hid (Oc (seqE (conE [68, 101, 114, 105, 118, 101, 40]) (lstE outE)) s p b ((), l2) p2 b2) := HO.out.seq (con_pf _) ho1
  have HV : Hid (Row w2 w.heap.size #[.slice none 0 0, .slice none 0 0, .slice none 0 0, .string ⟨#[]⟩, .string ⟨#[]⟩, .slice none 0 0, .slice none 0 0] 27) := hg1.row HW.out HNE.out
  have cc := (HV.out.cell 0).trans (rfl : _ = some (Value.slice none 0 0))
  have zz := HV.out.frozen 0
  have HW2 : Hid (Row (w2.setCell ⟨w.heap.size, 0, none⟩ (.slice a2 l2.length c2)) w.heap.size #[.slice a2 l2.length c2, .slice none 0 0, .slice none 0 0, .string ⟨#[]⟩, .string ⟨#[]⟩, .slice none 0 0, .slice none 0 0] 27) := HV.out.setCell _
  have HR2 : Hid (Rq (w2.setCell ⟨w.heap.size, 0, none⟩ (.slice a2 l2.length c2)) g s p2 b2) := hr1.set HV.out (by decide) (by decide)
  have HG2 : Hid (Gr g w (w2.setCell ⟨w.heap.size, 0, none⟩ (.slice a2 l2.length c2))) := Gr.set (HG.out.trans hg1) (Nat.le_refl _) _
  have HL2 : Hid (OutL (g + 1) g (w2.setCell ⟨w.heap.size, 0, none⟩ (.slice a2 l2.length c2)) (.slice a2 l2.length c2) l2) := hl1.set HV.out (by decide)
  clear HC hg1 hr1 ho1 HR HG HW HO HV hl1
  have HO := HO2
  have HW := HW2
  have HR := HR2
  have HG := HG2
  clear HO2 HW2 HR2 HG2
  have HC := passq_ok g s p2 b2 ⟨#[44]⟩ (w2.setCell ⟨w.heap.size, 0, none⟩ (.slice a2 l2.length c2)) HR.out
  go_wp2_with fail
  refine Calls.mono HC ?_
  rintro e w3 ⟨⟨v3, rfl⟩, hg1, p3, b3, hr1, ho1⟩
  have HO3 : Hid (Oc (seqE (seqE (conE [68, 101, 114, 105, 118, 101, 40]) (lstE outE)) (conE [44])) s p b (((), l2), ()) p3 b3) := HO.out.seq (seq_pf (con_pf _) (lst_pf outE_pf out_head)) ho1
  have HW3 : Hid (Row w3 w.heap.size #[.slice a2 l2.length c2, .slice none 0 0, .slice none 0 0, .string ⟨#[]⟩, .string ⟨#[]⟩, .slice none 0 0, .slice none 0 0] 27) := hg1.row HW.out HNE.out
  have HR3 : Hid (Rq w3 g s p3 b3) := hr1
  have HG3 : Hid (Gr g w w3) := HG.out.trans hg1
  have HL2_3 : Hid (OutL (g + 1) g w3 (.slice a2 l2.length c2) l2) := HL2.out.gr hg1 (Nat.lt_succ_self _)
  clear HC hg1 hr1 ho1 HR HG HW HO HL2
  have HO := HO3
  have HW := HW3
  have HR := HR3
  have HG := HG3
  have HL2 := HL2_3
  clear HO3 HW3 HR3 HG3 HL2_3
  have HC := inR_ok g s p3 b3 w3 HR.out (fun p b wx hgr hr => rinput_ok g s p b wx hr (HTB.out _ (HG.out.trans hgr)) hg)
  go_wp2_with fail
  refine Calls.mono HC ?_
  rintro e w4 ⟨hg1, v4, l4, p4, b4, rfl, hl1, hr1, ho1⟩
  obtain ⟨a4, c4, rfl⟩ := hl1.shape
  have HO4 : Hid (Oc (seqE (seqE (seqE (conE [68, 101, 114, 105, 118, 101, 40]) (lstE outE)) (conE [44])) (lstE inE)) s p b ((((), l2), ()), l4) p4 b4) := HO.out.seq (seq_pf (seq_pf (con_pf _) (lst_pf outE_pf out_head)) (con_pf _)) ho1
  have HV : Hid (Row w4 w.heap.size #[.slice a2 l2.length c2, .slice none 0 0, .slice none 0 0, .string ⟨#[]⟩, .string ⟨#[]⟩, .slice none 0 0, .slice none 0 0] 27) := hg1.row HW.out HNE.out
  have cc := (HV.out.cell 1).trans (rfl : _ = some (Value.slice none 0 0))
  have zz := HV.out.frozen 1
  have HW4 : Hid (Row (w4.setCell ⟨w.heap.size, 1, none⟩ (.slice a4 l4.length c4)) w.heap.size #[.slice a2 l2.length c2, .slice a4 l4.length c4, .slice none 0 0, .string ⟨#[]⟩, .string ⟨#[]⟩, .slice none 0 0, .slice none 0 0] 27) := HV.out.setCell _
  have HR4 : Hid (Rq (w4.setCell ⟨w.heap.size, 1, none⟩ (.slice a4 l4.length c4)) g s p4 b4) := hr1.set HV.out (by decide) (by decide)
  have HG4 : Hid (Gr g w (w4.setCell ⟨w.heap.size, 1, none⟩ (.slice a4 l4.length c4))) := Gr.set (HG.out.trans hg1) (Nat.le_refl _) _
  have HL2_4 : Hid (OutL (g + 1) g (w4.setCell ⟨w.heap.size, 1, none⟩ (.slice a4 l4.length c4)) (.slice a2 l2.length c2) l2) := OutL.set (HL2.out.gr hg1 (Nat.lt_succ_self _)) HV.out (by decide)
  have HL4 : Hid (InL (g + 1) g (w4.setCell ⟨w.heap.size, 1, none⟩ (.slice a4 l4.length c4)) (.slice a4 l4.length c4) l4) := hl1.set HV.out (by decide) (by decide)
  clear HC hg1 hr1 ho1 HR HG HW HO HV hl1 HL2
  have HO := HO4
  have HW := HW4
  have HR := HR4
  have HG := HG4
  have HL2 := HL2_4
  clear HO4 HW4 HR4 HG4 HL2_4
  have HC := passq_ok g s p4 b4 ⟨#[44]⟩ (w4.setCell ⟨w.heap.size, 1, none⟩ (.slice a4 l4.length c4)) HR.out
  go_wp2_with fail
  refine Calls.mono HC ?_
  rintro e w5 ⟨⟨v5, rfl⟩, hg1, p5, b5, hr1, ho1⟩
  have HO5 : Hid (Oc (seqE (seqE (seqE (seqE (conE [68, 101, 114, 105, 118, 101, 40]) (lstE outE)) (conE [44])) (lstE inE)) (conE [44])) s p b (((((), l2), ()), l4), ()) p5 b5) := HO.out.seq (seq_pf (seq_pf (seq_pf (con_pf _) (lst_pf outE_pf out_head)) (con_pf _)) (lst_pf inE_pf in_head)) ho1
  have HW5 : Hid (Row w5 w.heap.size #[.slice a2 l2.length c2, .slice a4 l4.length c4, .slice none 0 0, .string ⟨#[]⟩, .string ⟨#[]⟩, .slice none 0 0, .slice none 0 0] 27) := hg1.row HW.out HNE.out
  have HR5 : Hid (Rq w5 g s p5 b5) := hr1
  have HG5 : Hid (Gr g w w5) := HG.out.trans hg1
  have HL2_5 : Hid (OutL (g + 1) g w5 (.slice a2 l2.length c2) l2) := HL2.out.gr hg1 (Nat.lt_succ_self _)
  have HL4_5 : Hid (InL (g + 1) g w5 (.slice a4 l4.length c4) l4) := HL4.out.gr hg1 (Nat.lt_succ_self _)
  clear HC hg1 hr1 ho1 HR HG HW HO HL2 HL4
  have HO := HO5
  have HW := HW5
  have HR := HR5
  have HG := HG5
  have HL2 := HL2_5
  have HL4 := HL4_5
  clear HO5 HW5 HR5 HG5 HL2_5 HL4_5
  have HC := strR_ok g s p5 b5 w5 HR.out (fun p b wx hgr hr => rtext2_ok g s p b wx hr (HTB.out _ (HG.out.trans hgr)) hg)
  go_wp2_with fail
  refine Calls.mono HC ?_
  rintro e w6 ⟨hg1, v6, l6, p6, b6, rfl, hl1, hr1, ho1⟩
  obtain ⟨a6, c6, rfl⟩ := hl1.shape
  have HO6 : Hid (Oc (seqE (seqE (seqE (seqE (seqE (conE [68, 101, 114, 105, 118, 101, 40]) (lstE outE)) (conE [44])) (lstE inE)) (conE [44])) (lstE strE)) s p b ((((((), l2), ()), l4), ()), l6) p6 b6) := HO.out.seq (seq_pf (seq_pf (seq_pf (seq_pf (con_pf _) (lst_pf outE_pf out_head)) (con_pf _)) (lst_pf inE_pf in_head)) (con_pf _)) ho1
  have HV : Hid (Row w6 w.heap.size #[.slice a2 l2.length c2, .slice a4 l4.length c4, .slice none 0 0, .string ⟨#[]⟩, .string ⟨#[]⟩, .slice none 0 0, .slice none 0 0] 27) := hg1.row HW.out HNE.out
  have cc := (HV.out.cell 2).trans (rfl : _ = some (Value.slice none 0 0))
  have zz := HV.out.frozen 2
  have HW6 : Hid (Row (w6.setCell ⟨w.heap.size, 2, none⟩ (.slice a6 l6.length c6)) w.heap.size #[.slice a2 l2.length c2, .slice a4 l4.length c4, .slice a6 l6.length c6, .string ⟨#[]⟩, .string ⟨#[]⟩, .slice none 0 0, .slice none 0 0] 27) := HV.out.setCell _
  have HR6 : Hid (Rq (w6.setCell ⟨w.heap.size, 2, none⟩ (.slice a6 l6.length c6)) g s p6 b6) := hr1.set HV.out (by decide) (by decide)
  have HG6 : Hid (Gr g w (w6.setCell ⟨w.heap.size, 2, none⟩ (.slice a6 l6.length c6))) := Gr.set (HG.out.trans hg1) (Nat.le_refl _) _
  have HL2_6 : Hid (OutL (g + 1) g (w6.setCell ⟨w.heap.size, 2, none⟩ (.slice a6 l6.length c6)) (.slice a2 l2.length c2) l2) := OutL.set (HL2.out.gr hg1 (Nat.lt_succ_self _)) HV.out (by decide)
  have HL4_6 : Hid (InL (g + 1) g (w6.setCell ⟨w.heap.size, 2, none⟩ (.slice a6 l6.length c6)) (.slice a4 l4.length c4) l4) := InL.set (HL4.out.gr hg1 (Nat.lt_succ_self _)) HV.out (by decide) (by decide)
  have HL6 : Hid (StrL (g + 1) g (w6.setCell ⟨w.heap.size, 2, none⟩ (.slice a6 l6.length c6)) (.slice a6 l6.length c6) l6) := hl1.set HV.out (by decide)
  clear HC hg1 hr1 ho1 HR HG HW HO HV hl1 HL2 HL4
  have HO := HO6
  have HW := HW6
  have HR := HR6
  have HG := HG6
  have HL2 := HL2_6
  have HL4 := HL4_6
  clear HO6 HW6 HR6 HG6 HL2_6 HL4_6
  have HC := passq_ok g s p6 b6 ⟨#[44]⟩ (w6.setCell ⟨w.heap.size, 2, none⟩ (.slice a6 l6.length c6)) HR.out
  go_wp2_with fail
  refine Calls.mono HC ?_
  rintro e w7 ⟨⟨v7, rfl⟩, hg1, p7, b7, hr1, ho1⟩
  have HO7 : Hid (Oc (seqE (seqE (seqE (seqE (seqE (seqE (conE [68, 101, 114, 105, 118, 101, 40]) (lstE outE)) (conE [44])) (lstE inE)) (conE [44])) (lstE strE)) (conE [44])) s p b (((((((), l2), ()), l4), ()), l6), ()) p7 b7) := HO.out.seq (seq_pf (seq_pf (seq_pf (seq_pf (seq_pf (con_pf _) (lst_pf outE_pf out_head)) (con_pf _)) (lst_pf inE_pf in_head)) (con_pf _)) (lst_pf strE_pf str_head)) ho1
  have HW7 : Hid (Row w7 w.heap.size #[.slice a2 l2.length c2, .slice a4 l4.length c4, .slice a6 l6.length c6, .string ⟨#[]⟩, .string ⟨#[]⟩, .slice none 0 0, .slice none 0 0] 27) := hg1.row HW.out HNE.out
  have HR7 : Hid (Rq w7 g s p7 b7) := hr1
  have HG7 : Hid (Gr g w w7) := HG.out.trans hg1
  have HL2_7 : Hid (OutL (g + 1) g w7 (.slice a2 l2.length c2) l2) := HL2.out.gr hg1 (Nat.lt_succ_self _)
  have HL4_7 : Hid (InL (g + 1) g w7 (.slice a4 l4.length c4) l4) := HL4.out.gr hg1 (Nat.lt_succ_self _)
  have HL6_7 : Hid (StrL (g + 1) g w7 (.slice a6 l6.length c6) l6) := HL6.out.gr hg1 (Nat.lt_succ_self _)
  clear HC hg1 hr1 ho1 HR HG HW HO HL2 HL4 HL6
  have HO := HO7
  have HW := HW7
  have HR := HR7
  have HG := HG7
  have HL2 := HL2_7
  have HL4 := HL4_7
  have HL6 := HL6_7
  clear HO7 HW7 HR7 HG7 HL2_7 HL4_7 HL6_7
  have HC := rtext2_ok g s p7 b7 w7 HR.out (HTB.out _ HG.out) hg
  go_wp2_with fail
  refine Calls.mono HC ?_
  rintro e w8 ⟨hg1, v8, x8, p8, b8, rfl, rfl, hr1, ho1⟩
  have HO8 : Hid (Oc (seqE (seqE (seqE (seqE (seqE (seqE (seqE (conE [68, 101, 114, 105, 118, 101, 40]) (lstE outE)) (conE [44])) (lstE inE)) (conE [44])) (lstE strE)) (conE [44])) (strE)) s p b ((((((((), l2), ()), l4), ()), l6), ()), x8) p8 b8) := HO.out.seq (seq_pf (seq_pf (seq_pf (seq_pf (seq_pf (seq_pf (con_pf _) (lst_pf outE_pf out_head)) (con_pf _)) (lst_pf inE_pf in_head)) (con_pf _)) (lst_pf strE_pf str_head)) (con_pf _)) ho1
  have HV : Hid (Row w8 w.heap.size #[.slice a2 l2.length c2, .slice a4 l4.length c4, .slice a6 l6.length c6, .string ⟨#[]⟩, .string ⟨#[]⟩, .slice none 0 0, .slice none 0 0] 27) := hg1.row HW.out HNE.out
  have cc := (HV.out.cell 3).trans (rfl : _ = some (Value.string ⟨#[]⟩))
  have zz := HV.out.frozen 3
  have HW8 : Hid (Row (w8.setCell ⟨w.heap.size, 3, none⟩ (.string x8)) w.heap.size #[.slice a2 l2.length c2, .slice a4 l4.length c4, .slice a6 l6.length c6, .string x8, .string ⟨#[]⟩, .slice none 0 0, .slice none 0 0] 27) := HV.out.setCell _
  have HR8 : Hid (Rq (w8.setCell ⟨w.heap.size, 3, none⟩ (.string x8)) g s p8 b8) := hr1.set HV.out (by decide) (by decide)
  have HG8 : Hid (Gr g w (w8.setCell ⟨w.heap.size, 3, none⟩ (.string x8))) := Gr.set (HG.out.trans hg1) (Nat.le_refl _) _
  have HL2_8 : Hid (OutL (g + 1) g (w8.setCell ⟨w.heap.size, 3, none⟩ (.string x8)) (.slice a2 l2.length c2) l2) := OutL.set (HL2.out.gr hg1 (Nat.lt_succ_self _)) HV.out (by decide)
  have HL4_8 : Hid (InL (g + 1) g (w8.setCell ⟨w.heap.size, 3, none⟩ (.string x8)) (.slice a4 l4.length c4) l4) := InL.set (HL4.out.gr hg1 (Nat.lt_succ_self _)) HV.out (by decide) (by decide)
  have HL6_8 : Hid (StrL (g + 1) g (w8.setCell ⟨w.heap.size, 3, none⟩ (.string x8)) (.slice a6 l6.length c6) l6) := StrL.set (HL6.out.gr hg1 (Nat.lt_succ_self _)) HV.out (by decide)
  clear HC hg1 hr1 ho1 HR HG HW HO HV HL2 HL4 HL6
  have HO := HO8
  have HW := HW8
  have HR := HR8
  have HG := HG8
  have HL2 := HL2_8
  have HL4 := HL4_8
  have HL6 := HL6_8
  clear HO8 HW8 HR8 HG8 HL2_8 HL4_8 HL6_8
  have HC := passq_ok g s p8 b8 ⟨#[44]⟩ (w8.setCell ⟨w.heap.size, 3, none⟩ (.string x8)) HR.out
  go_wp2_with fail
  refine Calls.mono HC ?_
  rintro e w9 ⟨⟨v9, rfl⟩, hg1, p9, b9, hr1, ho1⟩
  have HO9 : Hid (Oc (seqE (seqE (seqE (seqE (seqE (seqE (seqE (seqE (conE [68, 101, 114, 105, 118, 101, 40]) (lstE outE)) (conE [44])) (lstE inE)) (conE [44])) (lstE strE)) (conE [44])) (strE)) (conE [44])) s p b (((((((((), l2), ()), l4), ()), l6), ()), x8), ()) p9 b9) := HO.out.seq (seq_pf (seq_pf (seq_pf (seq_pf (seq_pf (seq_pf (seq_pf (con_pf _) (lst_pf outE_pf out_head)) (con_pf _)) (lst_pf inE_pf in_head)) (con_pf _)) (lst_pf strE_pf str_head)) (con_pf _)) (strE_pf)) ho1
  have HW9 : Hid (Row w9 w.heap.size #[.slice a2 l2.length c2, .slice a4 l4.length c4, .slice a6 l6.length c6, .string x8, .string ⟨#[]⟩, .slice none 0 0, .slice none 0 0] 27) := hg1.row HW.out HNE.out
  have HR9 : Hid (Rq w9 g s p9 b9) := hr1
  have HG9 : Hid (Gr g w w9) := HG.out.trans hg1
  have HL2_9 : Hid (OutL (g + 1) g w9 (.slice a2 l2.length c2) l2) := HL2.out.gr hg1 (Nat.lt_succ_self _)
  have HL4_9 : Hid (InL (g + 1) g w9 (.slice a4 l4.length c4) l4) := HL4.out.gr hg1 (Nat.lt_succ_self _)
  have HL6_9 : Hid (StrL (g + 1) g w9 (.slice a6 l6.length c6) l6) := HL6.out.gr hg1 (Nat.lt_succ_self _)
  clear HC hg1 hr1 ho1 HR HG HW HO HL2 HL4 HL6
  have HO := HO9
  have HW := HW9
  have HR := HR9
  have HG := HG9
  have HL2 := HL2_9
  have HL4 := HL4_9
  have HL6 := HL6_9
  clear HO9 HW9 HR9 HG9 HL2_9 HL4_9 HL6_9
  have HC := rtext2_ok g s p9 b9 w9 HR.out (HTB.out _ HG.out) hg
  go_wp2_with fail
  refine Calls.mono HC ?_
  rintro e w10 ⟨hg1, v10, x10, p10, b10, rfl, rfl, hr1, ho1⟩
  have HO10 : Hid (Oc (seqE (seqE (seqE (seqE (seqE (seqE (seqE (seqE (seqE (conE [68, 101, 114, 105, 118, 101, 40]) (lstE outE)) (conE [44])) (lstE inE)) (conE [44])) (lstE strE)) (conE [44])) (strE)) (conE [44])) (strE)) s p b ((((((((((), l2), ()), l4), ()), l6), ()), x8), ()), x10) p10 b10) := HO.out.seq (seq_pf (seq_pf (seq_pf (seq_pf (seq_pf (seq_pf (seq_pf (seq_pf (con_pf _) (lst_pf outE_pf out_head)) (con_pf _)) (lst_pf inE_pf in_head)) (con_pf _)) (lst_pf strE_pf str_head)) (con_pf _)) (strE_pf)) (con_pf _)) ho1
  have HV : Hid (Row w10 w.heap.size #[.slice a2 l2.length c2, .slice a4 l4.length c4, .slice a6 l6.length c6, .string x8, .string ⟨#[]⟩, .slice none 0 0, .slice none 0 0] 27) := hg1.row HW.out HNE.out
  have cc := (HV.out.cell 4).trans (rfl : _ = some (Value.string ⟨#[]⟩))
  have zz := HV.out.frozen 4
  have HW10 : Hid (Row (w10.setCell ⟨w.heap.size, 4, none⟩ (.string x10)) w.heap.size #[.slice a2 l2.length c2, .slice a4 l4.length c4, .slice a6 l6.length c6, .string x8, .string x10, .slice none 0 0, .slice none 0 0] 27) := HV.out.setCell _
  have HR10 : Hid (Rq (w10.setCell ⟨w.heap.size, 4, none⟩ (.string x10)) g s p10 b10) := hr1.set HV.out (by decide) (by decide)
  have HG10 : Hid (Gr g w (w10.setCell ⟨w.heap.size, 4, none⟩ (.string x10))) := Gr.set (HG.out.trans hg1) (Nat.le_refl _) _
  have HL2_10 : Hid (OutL (g + 1) g (w10.setCell ⟨w.heap.size, 4, none⟩ (.string x10)) (.slice a2 l2.length c2) l2) := OutL.set (HL2.out.gr hg1 (Nat.lt_succ_self _)) HV.out (by decide)
  have HL4_10 : Hid (InL (g + 1) g (w10.setCell ⟨w.heap.size, 4, none⟩ (.string x10)) (.slice a4 l4.length c4) l4) := InL.set (HL4.out.gr hg1 (Nat.lt_succ_self _)) HV.out (by decide) (by decide)
  have HL6_10 : Hid (StrL (g + 1) g (w10.setCell ⟨w.heap.size, 4, none⟩ (.string x10)) (.slice a6 l6.length c6) l6) := StrL.set (HL6.out.gr hg1 (Nat.lt_succ_self _)) HV.out (by decide)
  clear HC hg1 hr1 ho1 HR HG HW HO HV HL2 HL4 HL6
  have HO := HO10
  have HW := HW10
  have HR := HR10
  have HG := HG10
  have HL2 := HL2_10
  have HL4 := HL4_10
  have HL6 := HL6_10
  clear HO10 HW10 HR10 HG10 HL2_10 HL4_10 HL6_10
  have HC := passq_ok g s p10 b10 ⟨#[44]⟩ (w10.setCell ⟨w.heap.size, 4, none⟩ (.string x10)) HR.out
  go_wp2_with fail
  refine Calls.mono HC ?_
  rintro e w11 ⟨⟨v11, rfl⟩, hg1, p11, b11, hr1, ho1⟩
  have HO11 : Hid (Oc (seqE (seqE (seqE (seqE (seqE (seqE (seqE (seqE (seqE (seqE (conE [68, 101, 114, 105, 118, 101, 40]) (lstE outE)) (conE [44])) (lstE inE)) (conE [44])) (lstE strE)) (conE [44])) (strE)) (conE [44])) (strE)) (conE [44])) s p b (((((((((((), l2), ()), l4), ()), l6), ()), x8), ()), x10), ()) p11 b11) := HO.out.seq (seq_pf (seq_pf (seq_pf (seq_pf (seq_pf (seq_pf (seq_pf (seq_pf (seq_pf (con_pf _) (lst_pf outE_pf out_head)) (con_pf _)) (lst_pf inE_pf in_head)) (con_pf _)) (lst_pf strE_pf str_head)) (con_pf _)) (strE_pf)) (con_pf _)) (strE_pf)) ho1
  have HW11 : Hid (Row w11 w.heap.size #[.slice a2 l2.length c2, .slice a4 l4.length c4, .slice a6 l6.length c6, .string x8, .string x10, .slice none 0 0, .slice none 0 0] 27) := hg1.row HW.out HNE.out
  have HR11 : Hid (Rq w11 g s p11 b11) := hr1
  have HG11 : Hid (Gr g w w11) := HG.out.trans hg1
  have HL2_11 : Hid (OutL (g + 1) g w11 (.slice a2 l2.length c2) l2) := HL2.out.gr hg1 (Nat.lt_succ_self _)
  have HL4_11 : Hid (InL (g + 1) g w11 (.slice a4 l4.length c4) l4) := HL4.out.gr hg1 (Nat.lt_succ_self _)
  have HL6_11 : Hid (StrL (g + 1) g w11 (.slice a6 l6.length c6) l6) := HL6.out.gr hg1 (Nat.lt_succ_self _)
  clear HC hg1 hr1 ho1 HR HG HW HO HL2 HL4 HL6
  have HO := HO11
  have HW := HW11
  have HR := HR11
  have HG := HG11
  have HL2 := HL2_11
  have HL4 := HL4_11
  have HL6 := HL6_11
  clear HO11 HW11 HR11 HG11 HL2_11 HL4_11 HL6_11
  have HC := strR_ok g s p11 b11 w11 HR.out (fun p b wx hgr hr => rtext2_ok g s p b wx hr (HTB.out _ (HG.out.trans hgr)) hg)
  go_wp2_with fail
  refine Calls.mono HC ?_
  rintro e w12 ⟨hg1, v12, l12, p12, b12, rfl, hl1, hr1, ho1⟩
  obtain ⟨a12, c12, rfl⟩ := hl1.shape
  have HO12 : Hid (Oc (seqE (seqE (seqE (seqE (seqE (seqE (seqE (seqE (seqE (seqE (seqE (conE [68, 101, 114, 105, 118, 101, 40]) (lstE outE)) (conE [44])) (lstE inE)) (conE [44])) (lstE strE)) (conE [44])) (strE)) (conE [44])) (strE)) (conE [44])) (lstE strE)) s p b ((((((((((((), l2), ()), l4), ()), l6), ()), x8), ()), x10), ()), l12) p12 b12) := HO.out.seq (seq_pf (seq_pf (seq_pf (seq_pf (seq_pf (seq_pf (seq_pf (seq_pf (seq_pf (seq_pf (con_pf _) (lst_pf outE_pf out_head)) (con_pf _)) (lst_pf inE_pf in_head)) (con_pf _)) (lst_pf strE_pf str_head)) (con_pf _)) (strE_pf)) (con_pf _)) (strE_pf)) (con_pf _)) ho1
  have HV : Hid (Row w12 w.heap.size #[.slice a2 l2.length c2, .slice a4 l4.length c4, .slice a6 l6.length c6, .string x8, .string x10, .slice none 0 0, .slice none 0 0] 27) := hg1.row HW.out HNE.out
  have cc := (HV.out.cell 5).trans (rfl : _ = some (Value.slice none 0 0))
  have zz := HV.out.frozen 5
  have HW12 : Hid (Row (w12.setCell ⟨w.heap.size, 5, none⟩ (.slice a12 l12.length c12)) w.heap.size #[.slice a2 l2.length c2, .slice a4 l4.length c4, .slice a6 l6.length c6, .string x8, .string x10, .slice a12 l12.length c12, .slice none 0 0] 27) := HV.out.setCell _
  have HR12 : Hid (Rq (w12.setCell ⟨w.heap.size, 5, none⟩ (.slice a12 l12.length c12)) g s p12 b12) := hr1.set HV.out (by decide) (by decide)
  have HG12 : Hid (Gr g w (w12.setCell ⟨w.heap.size, 5, none⟩ (.slice a12 l12.length c12))) := Gr.set (HG.out.trans hg1) (Nat.le_refl _) _
  have HL2_12 : Hid (OutL (g + 1) g (w12.setCell ⟨w.heap.size, 5, none⟩ (.slice a12 l12.length c12)) (.slice a2 l2.length c2) l2) := OutL.set (HL2.out.gr hg1 (Nat.lt_succ_self _)) HV.out (by decide)
  have HL4_12 : Hid (InL (g + 1) g (w12.setCell ⟨w.heap.size, 5, none⟩ (.slice a12 l12.length c12)) (.slice a4 l4.length c4) l4) := InL.set (HL4.out.gr hg1 (Nat.lt_succ_self _)) HV.out (by decide) (by decide)
  have HL6_12 : Hid (StrL (g + 1) g (w12.setCell ⟨w.heap.size, 5, none⟩ (.slice a12 l12.length c12)) (.slice a6 l6.length c6) l6) := StrL.set (HL6.out.gr hg1 (Nat.lt_succ_self _)) HV.out (by decide)
  have HL12 : Hid (StrL (g + 1) g (w12.setCell ⟨w.heap.size, 5, none⟩ (.slice a12 l12.length c12)) (.slice a12 l12.length c12) l12) := hl1.set HV.out (by decide)
  clear HC hg1 hr1 ho1 HR HG HW HO HV hl1 HL2 HL4 HL6
  have HO := HO12
  have HW := HW12
  have HR := HR12
  have HG := HG12
  have HL2 := HL2_12
  have HL4 := HL4_12
  have HL6 := HL6_12
  clear HO12 HW12 HR12 HG12 HL2_12 HL4_12 HL6_12
  have HC := passq_ok g s p12 b12 ⟨#[44]⟩ (w12.setCell ⟨w.heap.size, 5, none⟩ (.slice a12 l12.length c12)) HR.out
  go_wp2_with fail
  refine Calls.mono HC ?_
  rintro e w13 ⟨⟨v13, rfl⟩, hg1, p13, b13, hr1, ho1⟩
  have HO13 : Hid (Oc (seqE (seqE (seqE (seqE (seqE (seqE (seqE (seqE (seqE (seqE (seqE (seqE (conE [68, 101, 114, 105, 118, 101, 40]) (lstE outE)) (conE [44])) (lstE inE)) (conE [44])) (lstE strE)) (conE [44])) (strE)) (conE [44])) (strE)) (conE [44])) (lstE strE)) (conE [44])) s p b (((((((((((((), l2), ()), l4), ()), l6), ()), x8), ()), x10), ()), l12), ()) p13 b13) := HO.out.seq (seq_pf (seq_pf (seq_pf (seq_pf (seq_pf (seq_pf (seq_pf (seq_pf (seq_pf (seq_pf (seq_pf (con_pf _) (lst_pf outE_pf out_head)) (con_pf _)) (lst_pf inE_pf in_head)) (con_pf _)) (lst_pf strE_pf str_head)) (con_pf _)) (strE_pf)) (con_pf _)) (strE_pf)) (con_pf _)) (lst_pf strE_pf str_head)) ho1
  have HW13 : Hid (Row w13 w.heap.size #[.slice a2 l2.length c2, .slice a4 l4.length c4, .slice a6 l6.length c6, .string x8, .string x10, .slice a12 l12.length c12, .slice none 0 0] 27) := hg1.row HW.out HNE.out
  have HR13 : Hid (Rq w13 g s p13 b13) := hr1
  have HG13 : Hid (Gr g w w13) := HG.out.trans hg1
  have HL2_13 : Hid (OutL (g + 1) g w13 (.slice a2 l2.length c2) l2) := HL2.out.gr hg1 (Nat.lt_succ_self _)
  have HL4_13 : Hid (InL (g + 1) g w13 (.slice a4 l4.length c4) l4) := HL4.out.gr hg1 (Nat.lt_succ_self _)
  have HL6_13 : Hid (StrL (g + 1) g w13 (.slice a6 l6.length c6) l6) := HL6.out.gr hg1 (Nat.lt_succ_self _)
  have HL12_13 : Hid (StrL (g + 1) g w13 (.slice a12 l12.length c12) l12) := HL12.out.gr hg1 (Nat.lt_succ_self _)
  clear HC hg1 hr1 ho1 HR HG HW HO HL2 HL4 HL6 HL12
  have HO := HO13
  have HW := HW13
  have HR := HR13
  have HG := HG13
  have HL2 := HL2_13
  have HL4 := HL4_13
  have HL6 := HL6_13
  have HL12 := HL12_13
  clear HO13 HW13 HR13 HG13 HL2_13 HL4_13 HL6_13 HL12_13
  have HC := pairR_ok g s p13 b13 w13 HR.out (fun p b wx hgr hr => rpair_ok g s p b wx hr (HTB.out _ (HG.out.trans hgr)) hg)
  go_wp2_with fail
  refine Calls.mono HC ?_
  rintro e w14 ⟨hg1, v14, l14, p14, b14, rfl, hl1, hr1, ho1⟩
  obtain ⟨a14, c14, rfl⟩ := hl1.shape
  have HO14 : Hid (Oc (seqE (seqE (seqE (seqE (seqE (seqE (seqE (seqE (seqE (seqE (seqE (seqE (seqE (conE [68, 101, 114, 105, 118, 101, 40]) (lstE outE)) (conE [44])) (lstE inE)) (conE [44])) (lstE strE)) (conE [44])) (strE)) (conE [44])) (strE)) (conE [44])) (lstE strE)) (conE [44])) (lstE pairE)) s p b ((((((((((((((), l2), ()), l4), ()), l6), ()), x8), ()), x10), ()), l12), ()), l14) p14 b14) := HO.out.seq (seq_pf (seq_pf (seq_pf (seq_pf (seq_pf (seq_pf (seq_pf (seq_pf (seq_pf (seq_pf (seq_pf (seq_pf (con_pf _) (lst_pf outE_pf out_head)) (con_pf _)) (lst_pf inE_pf in_head)) (con_pf _)) (lst_pf strE_pf str_head)) (con_pf _)) (strE_pf)) (con_pf _)) (strE_pf)) (con_pf _)) (lst_pf strE_pf str_head)) (con_pf _)) ho1
  have HV : Hid (Row w14 w.heap.size #[.slice a2 l2.length c2, .slice a4 l4.length c4, .slice a6 l6.length c6, .string x8, .string x10, .slice a12 l12.length c12, .slice none 0 0] 27) := hg1.row HW.out HNE.out
  have cc := (HV.out.cell 6).trans (rfl : _ = some (Value.slice none 0 0))
  have zz := HV.out.frozen 6
  have HW14 : Hid (Row (w14.setCell ⟨w.heap.size, 6, none⟩ (.slice a14 l14.length c14)) w.heap.size #[.slice a2 l2.length c2, .slice a4 l4.length c4, .slice a6 l6.length c6, .string x8, .string x10, .slice a12 l12.length c12, .slice a14 l14.length c14] 27) := HV.out.setCell _
  have HR14 : Hid (Rq (w14.setCell ⟨w.heap.size, 6, none⟩ (.slice a14 l14.length c14)) g s p14 b14) := hr1.set HV.out (by decide) (by decide)
  have HG14 : Hid (Gr g w (w14.setCell ⟨w.heap.size, 6, none⟩ (.slice a14 l14.length c14))) := Gr.set (HG.out.trans hg1) (Nat.le_refl _) _
  have HL2_14 : Hid (OutL (g + 1) g (w14.setCell ⟨w.heap.size, 6, none⟩ (.slice a14 l14.length c14)) (.slice a2 l2.length c2) l2) := OutL.set (HL2.out.gr hg1 (Nat.lt_succ_self _)) HV.out (by decide)
  have HL4_14 : Hid (InL (g + 1) g (w14.setCell ⟨w.heap.size, 6, none⟩ (.slice a14 l14.length c14)) (.slice a4 l4.length c4) l4) := InL.set (HL4.out.gr hg1 (Nat.lt_succ_self _)) HV.out (by decide) (by decide)
  have HL6_14 : Hid (StrL (g + 1) g (w14.setCell ⟨w.heap.size, 6, none⟩ (.slice a14 l14.length c14)) (.slice a6 l6.length c6) l6) := StrL.set (HL6.out.gr hg1 (Nat.lt_succ_self _)) HV.out (by decide)
  have HL12_14 : Hid (StrL (g + 1) g (w14.setCell ⟨w.heap.size, 6, none⟩ (.slice a14 l14.length c14)) (.slice a12 l12.length c12) l12) := StrL.set (HL12.out.gr hg1 (Nat.lt_succ_self _)) HV.out (by decide)
  have HL14 : Hid (PairL (g + 1) g (w14.setCell ⟨w.heap.size, 6, none⟩ (.slice a14 l14.length c14)) (.slice a14 l14.length c14) l14) := hl1.set HV.out (by decide)
  clear HC hg1 hr1 ho1 HR HG HW HO HV hl1 HL2 HL4 HL6 HL12
  have HO := HO14
  have HW := HW14
  have HR := HR14
  have HG := HG14
  have HL2 := HL2_14
  have HL4 := HL4_14
  have HL6 := HL6_14
  have HL12 := HL12_14
  clear HO14 HW14 HR14 HG14 HL2_14 HL4_14 HL6_14 HL12_14
  have HC := passq_ok g s p14 b14 ⟨#[41]⟩ (w14.setCell ⟨w.heap.size, 6, none⟩ (.slice a14 l14.length c14)) HR.out
  go_wp2_with fail
  refine Calls.mono HC ?_
  rintro e w15 ⟨⟨v15, rfl⟩, hg1, p15, b15, hr1, ho1⟩
  have HO15 : Hid (Oc (seqE (seqE (seqE (seqE (seqE (seqE (seqE (seqE (seqE (seqE (seqE (seqE (seqE (seqE (conE [68, 101, 114, 105, 118, 101, 40]) (lstE outE)) (conE [44])) (lstE inE)) (conE [44])) (lstE strE)) (conE [44])) (strE)) (conE [44])) (strE)) (conE [44])) (lstE strE)) (conE [44])) (lstE pairE)) (conE [41])) s p b (((((((((((((((), l2), ()), l4), ()), l6), ()), x8), ()), x10), ()), l12), ()), l14), ()) p15 b15) := HO.out.seq (seq_pf (seq_pf (seq_pf (seq_pf (seq_pf (seq_pf (seq_pf (seq_pf (seq_pf (seq_pf (seq_pf (seq_pf (seq_pf (con_pf _) (lst_pf outE_pf out_head)) (con_pf _)) (lst_pf inE_pf in_head)) (con_pf _)) (lst_pf strE_pf str_head)) (con_pf _)) (strE_pf)) (con_pf _)) (strE_pf)) (con_pf _)) (lst_pf strE_pf str_head)) (con_pf _)) (lst_pf pairE_pf pair_head)) ho1
  have HW15 : Hid (Row w15 w.heap.size #[.slice a2 l2.length c2, .slice a4 l4.length c4, .slice a6 l6.length c6, .string x8, .string x10, .slice a12 l12.length c12, .slice a14 l14.length c14] 27) := hg1.row HW.out HNE.out
  have HR15 : Hid (Rq w15 g s p15 b15) := hr1
  have HG15 : Hid (Gr g w w15) := HG.out.trans hg1
  have HL2_15 : Hid (OutL (g + 1) g w15 (.slice a2 l2.length c2) l2) := HL2.out.gr hg1 (Nat.lt_succ_self _)
  have HL4_15 : Hid (InL (g + 1) g w15 (.slice a4 l4.length c4) l4) := HL4.out.gr hg1 (Nat.lt_succ_self _)
  have HL6_15 : Hid (StrL (g + 1) g w15 (.slice a6 l6.length c6) l6) := HL6.out.gr hg1 (Nat.lt_succ_self _)
  have HL12_15 : Hid (StrL (g + 1) g w15 (.slice a12 l12.length c12) l12) := HL12.out.gr hg1 (Nat.lt_succ_self _)
  have HL14_15 : Hid (PairL (g + 1) g w15 (.slice a14 l14.length c14) l14) := HL14.out.gr hg1 (Nat.lt_succ_self _)
  clear HC hg1 hr1 ho1 HR HG HW HO HL2 HL4 HL6 HL12 HL14
  have HO := HO15
  have HW := HW15
  have HR := HR15
  have HG := HG15
  have HL2 := HL2_15
  have HL4 := HL4_15
  have HL6 := HL6_15
  have HL12 := HL12_15
  have HL14 := HL14_15
  clear HO15 HW15 HR15 HG15 HL2_15 HL4_15 HL6_15 HL12_15 HL14_15
  have HE : Hid (Reads2 drvE (DrvO g) g s p b w (.returned (.agg #[.slice a2 l2.length c2, .slice a4 l4.length c4, .slice a6 l6.length c6, .string x8, .string x10, .slice a12 l12.length c12, .slice a14 l14.length c14])) w15) := ⟨HG.out, _, ⟨l2, l4, l6, x8, x10, l12, l14⟩, p15, b15, rfl, ⟨_, _, _, _, _, rfl, HL2.out, HL4.out, HL6.out, HL12.out, HL14.out⟩, HR.out, HO.out.map (E := drvS) (fun t => ({ outs := t.1.1.1.1.1.1.1.1.1.1.1.1.1.2, ins := t.1.1.1.1.1.1.1.1.1.1.1.2, srcs := t.1.1.1.1.1.1.1.1.1.2, sys := t.1.1.1.1.1.1.1.2, bld := t.1.1.1.1.1.2, args := t.1.1.1.2, env := t.1.2 } : Dv)) (fun y => (((((((((((((((), y.outs), ()), y.ins), ()), y.srcs), ()), y.sys), ()), y.bld), ()), y.args), ()), y.env), ())) (fun t => (drvS_eq ((fun t => ({ outs := t.1.1.1.1.1.1.1.1.1.1.1.1.1.2, ins := t.1.1.1.1.1.1.1.1.1.1.1.2, srcs := t.1.1.1.1.1.1.1.1.1.2, sys := t.1.1.1.1.1.1.1.2, bld := t.1.1.1.1.1.2, args := t.1.1.1.2, env := t.1.2 } : Dv)) t)).symm) drvS_eq⟩
  clear HO HR HG HL2 HL4 HL6 HL12 HL14
  go_wp2_with (first
      | refine wpList_load_row rfl 27 _ rfl w.heap.size rfl 27 #[.slice a2 l2.length c2, .slice a4 l4.length c4, .slice a6 l6.length c6, .string x8, .string x10, .slice a12 l12.length c12, .slice a14 l14.length c14] (0, 0) _ HW.out Tryd.underlying27 rfl info_drv ?_
      | refine wpList_store_row rfl 27 _ _ rfl w.heap.size #[.slice a2 l2.length c2, .slice a4 l4.length c4, .slice a6 l6.length c6, .string x8, .string x10, .slice a12 l12.length c12, .slice a14 l14.length c14] rfl rfl 27 #[.slice a2 l2.length c2, .slice a4 l4.length c4, .slice a6 l6.length c6, .string x8, .string x10, .slice a12 l12.length c12, .slice a14 l14.length c14] HW.out info_drv rfl (by simp [Value.oneCell']) ?_)
  refine bodyPost_ret (results_cell_row res_drv _ _ w.heap.size 27 _ (0, 0) _ rfl (Row.setRow HW.out) Tryd.underlying27 rfl info_drv) rfl ?_
  rw [setRow_same HW.out]
  exact HRP.out _ _ HE.out
end Go.Proofs.YtmpgfepkdhjibaaDoor
