/- My own work: the reader's output, pair and input by walk. -/
import Derived.Test.YtmpgfepkdhjibaaDoorRd8f
import Derived.Test.YtmpgfepkdhjibaaDoorRd8g
import Derived.Test.YtmpgfepkdhjibaaDoorRd8h
namespace Go.Proofs.YtmpgfepkdhjibaaDoor
open Go.RowKit

theorem setRow_same {w : World} {g : Nat} {C : Array Value} {t : TypeId} (h : Row w g C t) : w.setRow g C = w := by
  have hh : (w.setRow g C).heap = w.heap := by
    apply Array.ext_getElem?
    intro k
    by_cases hk : k = g
    · subst hk
      exact (Row.setRow h).trans h.symm
    · exact setRow_other w g k C hk
  have e : w.setRow g C = { w with heap := (w.setRow g C).heap } := rfl
  rw [e, hh]
theorem own_setR {w : World} {R k B n z : Nat} {e T : TypeId} {v x : Value} {xs : List Value} {C : Array Value} (h : w.ownsRow B e z v n xs) (hR : Row w R C T) (hne : e ≠ T) : (w.setCell ⟨R, k, none⟩ x).ownsRow B e z v n xs :=
  ownsRow_keep h fun q hq _ => heap_setCell_other w ⟨R, k, none⟩ q x (fun e1 => by
    obtain ⟨_, _, c1, r1⟩ := ownsRow_lt h q hq
    exact row_apart r1 hR hne e1)
theorem Rd.set {w : World} {g R k : Nat} {s : ByteArray} {p : Nat} {er : Option Int} {x : Value} {C : Array Value} {T : TypeId} (h : Rd w g s p er) (hR : Row w R C T) (h1 : 97 ≠ T) (h2 : 94 ≠ T) : Rd (w.setCell ⟨R, k, none⟩ x) g s p er := by
  obtain ⟨ev, e1, e2⟩ := h.ex
  refine ⟨⟨ev, e1.setCell_other (row_apart e1 hR h1) _, ?_⟩, h.le, h.small⟩
  cases er with
  | none => exact e2
  | some e =>
    obtain ⟨k', q, e3, e4⟩ := e2
    exact ⟨k', q, e3, e4.setCell_other (row_apart e4 hR h2) _⟩
theorem Gr.set {g R k : Nat} {w w' : World} (h : Gr g w w') (hR : w.heap.size ≤ R) (x : Value) : Gr g w (w'.setCell ⟨R, k, none⟩ x) :=
  ⟨h.os, h.tape, h.output, by have := h.size; simp [World.setCell]; omega, fun q hq hne => (heap_setCell_other w' ⟨R, k, none⟩ q x (fun e => by
    have : q = R := e
    omega)).trans (h.block q hq hne)⟩
theorem StrL.set {B g R k : Nat} {w : World} {v x : Value} {l : List ByteArray} {C : Array Value} {T : TypeId} (h : StrL B g w v l) (hR : Row w R C T) (hne : 9 ≠ T) : StrL B g (w.setCell ⟨R, k, none⟩ x) v l := by
  obtain ⟨D, h1, h2⟩ := h
  exact ⟨D, own_setR h1 hR hne, h2⟩
theorem OutL.set {B g R k : Nat} {w : World} {v x : Value} {l : List (ByteArray × ByteArray × ByteArray)} {C : Array Value} {T : TypeId} (h : OutL B g w v l) (hR : Row w R C T) (hne : 46 ≠ T) : OutL B g (w.setCell ⟨R, k, none⟩ x) v l := by
  obtain ⟨D, h1, h2⟩ := h
  exact ⟨D, own_setR h1 hR hne, h2⟩
theorem PairL.set {B g R k : Nat} {w : World} {v x : Value} {l : List (ByteArray × ByteArray)} {C : Array Value} {T : TypeId} (h : PairL B g w v l) (hR : Row w R C T) (hne : 60 ≠ T) : PairL B g (w.setCell ⟨R, k, none⟩ x) v l := by
  obtain ⟨D, h1, h2⟩ := h
  exact ⟨D, own_setR h1 hR hne, h2⟩
theorem InL.set {B g R k : Nat} {w : World} {v x : Value} {l : List (ByteArray × List ByteArray)} {C : Array Value} {T : TypeId} (h : InL B g w v l) (hR : Row w R C T) (hne : 52 ≠ T) (h9 : 9 ≠ T) : InL B g (w.setCell ⟨R, k, none⟩ x) v l := by
  obtain ⟨D, h1, ns, e1, e2, e3⟩ := h
  exact ⟨D, own_setR h1 hR hne, ns, e1, e2, fun i a b => own_setR (e3 i a b) hR h9⟩
theorem res_output : Tryd.f61.results = #[.cell 2 46] := by kernel_rfl
theorem size_output : (Tryd.prog.info? 46).map (·.size) = some 3 := by kernel_rfl
set_option maxRecDepth 20000 in
set_option maxHeartbeats 8000000 in
theorem routput_ok (g : Nat) (s : ByteArray) (p : Nat) (b : Bool) (w : World) (h : Rq w g s p b) (hT : ETab w) (hg : 0 ≠ g) : Calls Tryd.prog 61 #[.pointer (some ⟨g, 0, none⟩)] w fun r w' => Reads2 outE (OutE1 g) g s p b w r w' := by
  obtain ⟨RP, hRP⟩ : ∃ RP, RP = Reads2 outE (OutE1 g) g s p b w := ⟨_, rfl⟩
  have HRP : Hid (∀ r w', Reads2 outE (OutE1 g) g s p b w r w' → RP r w') := fun r w' h => by rw [hRP]; exact h
  rw [← hRP]
  have hmf : ∀ (fn : Fn) (first cap : Array Value) (w : World), (Instr.makeFunc fn first cap).run Tryd.prog w = .ok (.func fn first cap) w := fun _ _ _ _ => rfl
  have hgl : g < w.heap.size := by obtain ⟨ev, h1, _⟩ := h.ex; exact h1.lt
  have HTB : Hid (∀ wx, Gr g w wx → ETab wx) := fun wx hgr => hgr.tab hg hT
  have HNE : Hid (w.heap.size ≠ g) := by show _ ≠ _; omega
  have HW : Hid (Row (w.alloc (.cells #[.string ⟨#[]⟩, .string ⟨#[]⟩, .string ⟨#[]⟩] 46)) w.heap.size #[.string ⟨#[]⟩, .string ⟨#[]⟩, .string ⟨#[]⟩] 46) := Row.new w _ _
  have HR : Hid (Rq (w.alloc (.cells #[.string ⟨#[]⟩, .string ⟨#[]⟩, .string ⟨#[]⟩] 46)) g s p b) := h.keep (below_new (Below.refl _ _) _)
  have HG : Hid (Gr g w (w.alloc (.cells #[.string ⟨#[]⟩, .string ⟨#[]⟩, .string ⟨#[]⟩] 46))) := Gr.of (below_new (Below.refl _ _) _)
  clear h hRP hT
  go_enter Tryd.func61, Tryd.ntmps61
  have HC := passq_ok g s p b ⟨#[40]⟩ (w.alloc (.cells #[.string ⟨#[]⟩, .string ⟨#[]⟩, .string ⟨#[]⟩] 46)) HR.out
  go_wp2_with fail
  refine Calls.mono HC ?_
  rintro e w1 ⟨⟨v1, rfl⟩, hg1, p1, b1, hr1, ho1⟩
  have HO1 : Hid (Oc (conE [40]) s p b () p1 b1) := ho1
  have HW1 : Hid (Row w1 w.heap.size #[.string ⟨#[]⟩, .string ⟨#[]⟩, .string ⟨#[]⟩] 46) := hg1.row HW.out HNE.out
  have HR1 : Hid (Rq w1 g s p1 b1) := hr1
  have HG1 : Hid (Gr g w w1) := HG.out.trans hg1
  clear HC hg1 hr1 ho1 HR HG HW
  have HO := HO1
  have HW := HW1
  have HR := HR1
  have HG := HG1
  clear HO1 HW1 HR1 HG1
  have HC := rtext2_ok g s p1 b1 w1 HR.out (HTB.out _ HG.out) hg
  go_wp2_with fail
  refine Calls.mono HC ?_
  rintro e w2 ⟨hg1, v2, x2, p2, b2, rfl, rfl, hr1, ho1⟩
  have HO2 : Hid (Oc (seqE (conE [40]) (strE)) s p b ((), x2) p2 b2) := HO.out.seq (con_pf _) ho1
  have HV : Hid (Row w2 w.heap.size #[.string ⟨#[]⟩, .string ⟨#[]⟩, .string ⟨#[]⟩] 46) := hg1.row HW.out HNE.out
  have cc := (HV.out.cell 0).trans (rfl : _ = some (Value.string ⟨#[]⟩))
  have zz := HV.out.frozen 0
  have HW2 : Hid (Row (w2.setCell ⟨w.heap.size, 0, none⟩ (.string x2)) w.heap.size #[.string x2, .string ⟨#[]⟩, .string ⟨#[]⟩] 46) := HV.out.setCell _
  have HR2 : Hid (Rq (w2.setCell ⟨w.heap.size, 0, none⟩ (.string x2)) g s p2 b2) := hr1.set HV.out (by decide) (by decide)
  have HG2 : Hid (Gr g w (w2.setCell ⟨w.heap.size, 0, none⟩ (.string x2))) := Gr.set (HG.out.trans hg1) (Nat.le_refl _) _
  clear HC hg1 hr1 ho1 HR HG HW HO HV
  have HO := HO2
  have HW := HW2
  have HR := HR2
  have HG := HG2
  clear HO2 HW2 HR2 HG2
  have HC := passq_ok g s p2 b2 ⟨#[44]⟩ (w2.setCell ⟨w.heap.size, 0, none⟩ (.string x2)) HR.out
  go_wp2_with fail
  refine Calls.mono HC ?_
  rintro e w3 ⟨⟨v3, rfl⟩, hg1, p3, b3, hr1, ho1⟩
  have HO3 : Hid (Oc (seqE (seqE (conE [40]) (strE)) (conE [44])) s p b (((), x2), ()) p3 b3) := HO.out.seq (seq_pf (con_pf _) (strE_pf)) ho1
  have HW3 : Hid (Row w3 w.heap.size #[.string x2, .string ⟨#[]⟩, .string ⟨#[]⟩] 46) := hg1.row HW.out HNE.out
  have HR3 : Hid (Rq w3 g s p3 b3) := hr1
  have HG3 : Hid (Gr g w w3) := HG.out.trans hg1
  clear HC hg1 hr1 ho1 HR HG HW HO
  have HO := HO3
  have HW := HW3
  have HR := HR3
  have HG := HG3
  clear HO3 HW3 HR3 HG3
  have HC := rtext2_ok g s p3 b3 w3 HR.out (HTB.out _ HG.out) hg
  go_wp2_with fail
  refine Calls.mono HC ?_
  rintro e w4 ⟨hg1, v4, x4, p4, b4, rfl, rfl, hr1, ho1⟩
  have HO4 : Hid (Oc (seqE (seqE (seqE (conE [40]) (strE)) (conE [44])) (strE)) s p b ((((), x2), ()), x4) p4 b4) := HO.out.seq (seq_pf (seq_pf (con_pf _) (strE_pf)) (con_pf _)) ho1
  have HV : Hid (Row w4 w.heap.size #[.string x2, .string ⟨#[]⟩, .string ⟨#[]⟩] 46) := hg1.row HW.out HNE.out
  have cc := (HV.out.cell 1).trans (rfl : _ = some (Value.string ⟨#[]⟩))
  have zz := HV.out.frozen 1
  have HW4 : Hid (Row (w4.setCell ⟨w.heap.size, 1, none⟩ (.string x4)) w.heap.size #[.string x2, .string x4, .string ⟨#[]⟩] 46) := HV.out.setCell _
  have HR4 : Hid (Rq (w4.setCell ⟨w.heap.size, 1, none⟩ (.string x4)) g s p4 b4) := hr1.set HV.out (by decide) (by decide)
  have HG4 : Hid (Gr g w (w4.setCell ⟨w.heap.size, 1, none⟩ (.string x4))) := Gr.set (HG.out.trans hg1) (Nat.le_refl _) _
  clear HC hg1 hr1 ho1 HR HG HW HO HV
  have HO := HO4
  have HW := HW4
  have HR := HR4
  have HG := HG4
  clear HO4 HW4 HR4 HG4
  have HC := passq_ok g s p4 b4 ⟨#[44]⟩ (w4.setCell ⟨w.heap.size, 1, none⟩ (.string x4)) HR.out
  go_wp2_with fail
  refine Calls.mono HC ?_
  rintro e w5 ⟨⟨v5, rfl⟩, hg1, p5, b5, hr1, ho1⟩
  have HO5 : Hid (Oc (seqE (seqE (seqE (seqE (conE [40]) (strE)) (conE [44])) (strE)) (conE [44])) s p b (((((), x2), ()), x4), ()) p5 b5) := HO.out.seq (seq_pf (seq_pf (seq_pf (con_pf _) (strE_pf)) (con_pf _)) (strE_pf)) ho1
  have HW5 : Hid (Row w5 w.heap.size #[.string x2, .string x4, .string ⟨#[]⟩] 46) := hg1.row HW.out HNE.out
  have HR5 : Hid (Rq w5 g s p5 b5) := hr1
  have HG5 : Hid (Gr g w w5) := HG.out.trans hg1
  clear HC hg1 hr1 ho1 HR HG HW HO
  have HO := HO5
  have HW := HW5
  have HR := HR5
  have HG := HG5
  clear HO5 HW5 HR5 HG5
  have HC := rtext2_ok g s p5 b5 w5 HR.out (HTB.out _ HG.out) hg
  go_wp2_with fail
  refine Calls.mono HC ?_
  rintro e w6 ⟨hg1, v6, x6, p6, b6, rfl, rfl, hr1, ho1⟩
  have HO6 : Hid (Oc (seqE (seqE (seqE (seqE (seqE (conE [40]) (strE)) (conE [44])) (strE)) (conE [44])) (strE)) s p b ((((((), x2), ()), x4), ()), x6) p6 b6) := HO.out.seq (seq_pf (seq_pf (seq_pf (seq_pf (con_pf _) (strE_pf)) (con_pf _)) (strE_pf)) (con_pf _)) ho1
  have HV : Hid (Row w6 w.heap.size #[.string x2, .string x4, .string ⟨#[]⟩] 46) := hg1.row HW.out HNE.out
  have cc := (HV.out.cell 2).trans (rfl : _ = some (Value.string ⟨#[]⟩))
  have zz := HV.out.frozen 2
  have HW6 : Hid (Row (w6.setCell ⟨w.heap.size, 2, none⟩ (.string x6)) w.heap.size #[.string x2, .string x4, .string x6] 46) := HV.out.setCell _
  have HR6 : Hid (Rq (w6.setCell ⟨w.heap.size, 2, none⟩ (.string x6)) g s p6 b6) := hr1.set HV.out (by decide) (by decide)
  have HG6 : Hid (Gr g w (w6.setCell ⟨w.heap.size, 2, none⟩ (.string x6))) := Gr.set (HG.out.trans hg1) (Nat.le_refl _) _
  clear HC hg1 hr1 ho1 HR HG HW HO HV
  have HO := HO6
  have HW := HW6
  have HR := HR6
  have HG := HG6
  clear HO6 HW6 HR6 HG6
  have HC := passq_ok g s p6 b6 ⟨#[41]⟩ (w6.setCell ⟨w.heap.size, 2, none⟩ (.string x6)) HR.out
  go_wp2_with fail
  refine Calls.mono HC ?_
  rintro e w7 ⟨⟨v7, rfl⟩, hg1, p7, b7, hr1, ho1⟩
  have HO7 : Hid (Oc (seqE (seqE (seqE (seqE (seqE (seqE (conE [40]) (strE)) (conE [44])) (strE)) (conE [44])) (strE)) (conE [41])) s p b (((((((), x2), ()), x4), ()), x6), ()) p7 b7) := HO.out.seq (seq_pf (seq_pf (seq_pf (seq_pf (seq_pf (con_pf _) (strE_pf)) (con_pf _)) (strE_pf)) (con_pf _)) (strE_pf)) ho1
  have HW7 : Hid (Row w7 w.heap.size #[.string x2, .string x4, .string x6] 46) := hg1.row HW.out HNE.out
  have HR7 : Hid (Rq w7 g s p7 b7) := hr1
  have HG7 : Hid (Gr g w w7) := HG.out.trans hg1
  clear HC hg1 hr1 ho1 HR HG HW HO
  have HO := HO7
  have HW := HW7
  have HR := HR7
  have HG := HG7
  clear HO7 HW7 HR7 HG7
  have HE : Hid (Reads2 outE (OutE1 g) g s p b w (.returned (.agg #[.string x2, .string x4, .string x6])) w7) := ⟨HG.out, _, (x2, x4, x6), p7, b7, rfl, rfl, HR.out, HO.out.map (E := outS) (fun t => (t.1.1.1.1.1.2, t.1.1.1.2, t.1.2)) (fun y => (((((((), y.1), ()), y.2.1), ()), y.2.2), ())) (fun t => (outS_eq ((fun t => (t.1.1.1.1.1.2, t.1.1.1.2, t.1.2)) t)).symm) outS_eq⟩
  clear HO HR HG
  go_wp2_with (first
      | refine wpList_load_row rfl 46 _ rfl w.heap.size rfl 46 #[.string x2, .string x4, .string x6] (0, 0) _ HW.out Tryd.underlying46 rfl size_output ?_
      | refine wpList_store_row rfl 46 _ _ rfl w.heap.size #[.string x2, .string x4, .string x6] rfl rfl 46 #[.string x2, .string x4, .string x6] HW.out size_output rfl (by simp [Value.oneCell']) ?_)
  refine bodyPost_ret (results_cell_row res_output _ _ w.heap.size 46 _ (0, 0) _ rfl (Row.setRow HW.out) Tryd.underlying46 rfl size_output) rfl ?_
  rw [setRow_same HW.out]
  exact HRP.out _ _ HE.out
theorem res_pair : Tryd.f67.results = #[.cell 2 60] := by kernel_rfl
theorem size_pair : (Tryd.prog.info? 60).map (·.size) = some 2 := by kernel_rfl
set_option maxRecDepth 20000 in
set_option maxHeartbeats 8000000 in
theorem rpair_ok (g : Nat) (s : ByteArray) (p : Nat) (b : Bool) (w : World) (h : Rq w g s p b) (hT : ETab w) (hg : 0 ≠ g) : Calls Tryd.prog 67 #[.pointer (some ⟨g, 0, none⟩)] w fun r w' => Reads2 pairE (PairE1 g) g s p b w r w' := by
  obtain ⟨RP, hRP⟩ : ∃ RP, RP = Reads2 pairE (PairE1 g) g s p b w := ⟨_, rfl⟩
  have HRP : Hid (∀ r w', Reads2 pairE (PairE1 g) g s p b w r w' → RP r w') := fun r w' h => by rw [hRP]; exact h
  rw [← hRP]
  have hmf : ∀ (fn : Fn) (first cap : Array Value) (w : World), (Instr.makeFunc fn first cap).run Tryd.prog w = .ok (.func fn first cap) w := fun _ _ _ _ => rfl
  have hgl : g < w.heap.size := by obtain ⟨ev, h1, _⟩ := h.ex; exact h1.lt
  have HTB : Hid (∀ wx, Gr g w wx → ETab wx) := fun wx hgr => hgr.tab hg hT
  have HNE : Hid (w.heap.size ≠ g) := by show _ ≠ _; omega
  have HW : Hid (Row (w.alloc (.cells #[.string ⟨#[]⟩, .string ⟨#[]⟩] 60)) w.heap.size #[.string ⟨#[]⟩, .string ⟨#[]⟩] 60) := Row.new w _ _
  have HR : Hid (Rq (w.alloc (.cells #[.string ⟨#[]⟩, .string ⟨#[]⟩] 60)) g s p b) := h.keep (below_new (Below.refl _ _) _)
  have HG : Hid (Gr g w (w.alloc (.cells #[.string ⟨#[]⟩, .string ⟨#[]⟩] 60))) := Gr.of (below_new (Below.refl _ _) _)
  clear h hRP hT
  go_enter Tryd.func67, Tryd.ntmps67
  have HC := passq_ok g s p b ⟨#[40]⟩ (w.alloc (.cells #[.string ⟨#[]⟩, .string ⟨#[]⟩] 60)) HR.out
  go_wp2_with fail
  refine Calls.mono HC ?_
  rintro e w1 ⟨⟨v1, rfl⟩, hg1, p1, b1, hr1, ho1⟩
  have HO1 : Hid (Oc (conE [40]) s p b () p1 b1) := ho1
  have HW1 : Hid (Row w1 w.heap.size #[.string ⟨#[]⟩, .string ⟨#[]⟩] 60) := hg1.row HW.out HNE.out
  have HR1 : Hid (Rq w1 g s p1 b1) := hr1
  have HG1 : Hid (Gr g w w1) := HG.out.trans hg1
  clear HC hg1 hr1 ho1 HR HG HW
  have HO := HO1
  have HW := HW1
  have HR := HR1
  have HG := HG1
  clear HO1 HW1 HR1 HG1
  have HC := rtext2_ok g s p1 b1 w1 HR.out (HTB.out _ HG.out) hg
  go_wp2_with fail
  refine Calls.mono HC ?_
  rintro e w2 ⟨hg1, v2, x2, p2, b2, rfl, rfl, hr1, ho1⟩
  have HO2 : Hid (Oc (seqE (conE [40]) (strE)) s p b ((), x2) p2 b2) := HO.out.seq (con_pf _) ho1
  have HV : Hid (Row w2 w.heap.size #[.string ⟨#[]⟩, .string ⟨#[]⟩] 60) := hg1.row HW.out HNE.out
  have cc := (HV.out.cell 0).trans (rfl : _ = some (Value.string ⟨#[]⟩))
  have zz := HV.out.frozen 0
  have HW2 : Hid (Row (w2.setCell ⟨w.heap.size, 0, none⟩ (.string x2)) w.heap.size #[.string x2, .string ⟨#[]⟩] 60) := HV.out.setCell _
  have HR2 : Hid (Rq (w2.setCell ⟨w.heap.size, 0, none⟩ (.string x2)) g s p2 b2) := hr1.set HV.out (by decide) (by decide)
  have HG2 : Hid (Gr g w (w2.setCell ⟨w.heap.size, 0, none⟩ (.string x2))) := Gr.set (HG.out.trans hg1) (Nat.le_refl _) _
  clear HC hg1 hr1 ho1 HR HG HW HO HV
  have HO := HO2
  have HW := HW2
  have HR := HR2
  have HG := HG2
  clear HO2 HW2 HR2 HG2
  have HC := passq_ok g s p2 b2 ⟨#[44]⟩ (w2.setCell ⟨w.heap.size, 0, none⟩ (.string x2)) HR.out
  go_wp2_with fail
  refine Calls.mono HC ?_
  rintro e w3 ⟨⟨v3, rfl⟩, hg1, p3, b3, hr1, ho1⟩
  have HO3 : Hid (Oc (seqE (seqE (conE [40]) (strE)) (conE [44])) s p b (((), x2), ()) p3 b3) := HO.out.seq (seq_pf (con_pf _) (strE_pf)) ho1
  have HW3 : Hid (Row w3 w.heap.size #[.string x2, .string ⟨#[]⟩] 60) := hg1.row HW.out HNE.out
  have HR3 : Hid (Rq w3 g s p3 b3) := hr1
  have HG3 : Hid (Gr g w w3) := HG.out.trans hg1
  clear HC hg1 hr1 ho1 HR HG HW HO
  have HO := HO3
  have HW := HW3
  have HR := HR3
  have HG := HG3
  clear HO3 HW3 HR3 HG3
  have HC := rtext2_ok g s p3 b3 w3 HR.out (HTB.out _ HG.out) hg
  go_wp2_with fail
  refine Calls.mono HC ?_
  rintro e w4 ⟨hg1, v4, x4, p4, b4, rfl, rfl, hr1, ho1⟩
  have HO4 : Hid (Oc (seqE (seqE (seqE (conE [40]) (strE)) (conE [44])) (strE)) s p b ((((), x2), ()), x4) p4 b4) := HO.out.seq (seq_pf (seq_pf (con_pf _) (strE_pf)) (con_pf _)) ho1
  have HV : Hid (Row w4 w.heap.size #[.string x2, .string ⟨#[]⟩] 60) := hg1.row HW.out HNE.out
  have cc := (HV.out.cell 1).trans (rfl : _ = some (Value.string ⟨#[]⟩))
  have zz := HV.out.frozen 1
  have HW4 : Hid (Row (w4.setCell ⟨w.heap.size, 1, none⟩ (.string x4)) w.heap.size #[.string x2, .string x4] 60) := HV.out.setCell _
  have HR4 : Hid (Rq (w4.setCell ⟨w.heap.size, 1, none⟩ (.string x4)) g s p4 b4) := hr1.set HV.out (by decide) (by decide)
  have HG4 : Hid (Gr g w (w4.setCell ⟨w.heap.size, 1, none⟩ (.string x4))) := Gr.set (HG.out.trans hg1) (Nat.le_refl _) _
  clear HC hg1 hr1 ho1 HR HG HW HO HV
  have HO := HO4
  have HW := HW4
  have HR := HR4
  have HG := HG4
  clear HO4 HW4 HR4 HG4
  have HC := passq_ok g s p4 b4 ⟨#[41]⟩ (w4.setCell ⟨w.heap.size, 1, none⟩ (.string x4)) HR.out
  go_wp2_with fail
  refine Calls.mono HC ?_
  rintro e w5 ⟨⟨v5, rfl⟩, hg1, p5, b5, hr1, ho1⟩
  have HO5 : Hid (Oc (seqE (seqE (seqE (seqE (conE [40]) (strE)) (conE [44])) (strE)) (conE [41])) s p b (((((), x2), ()), x4), ()) p5 b5) := HO.out.seq (seq_pf (seq_pf (seq_pf (con_pf _) (strE_pf)) (con_pf _)) (strE_pf)) ho1
  have HW5 : Hid (Row w5 w.heap.size #[.string x2, .string x4] 60) := hg1.row HW.out HNE.out
  have HR5 : Hid (Rq w5 g s p5 b5) := hr1
  have HG5 : Hid (Gr g w w5) := HG.out.trans hg1
  clear HC hg1 hr1 ho1 HR HG HW HO
  have HO := HO5
  have HW := HW5
  have HR := HR5
  have HG := HG5
  clear HO5 HW5 HR5 HG5
  have HE : Hid (Reads2 pairE (PairE1 g) g s p b w (.returned (.agg #[.string x2, .string x4])) w5) := ⟨HG.out, _, (x2, x4), p5, b5, rfl, rfl, HR.out, HO.out.map (E := pairS) (fun t => (t.1.1.1.2, t.1.2)) (fun y => (((((), y.1), ()), y.2), ())) (fun t => (pairS_eq ((fun t => (t.1.1.1.2, t.1.2)) t)).symm) pairS_eq⟩
  clear HO HR HG
  go_wp2_with (first
      | refine wpList_load_row rfl 60 _ rfl w.heap.size rfl 60 #[.string x2, .string x4] (0, 0) _ HW.out Tryd.underlying60 rfl size_pair ?_
      | refine wpList_store_row rfl 60 _ _ rfl w.heap.size #[.string x2, .string x4] rfl rfl 60 #[.string x2, .string x4] HW.out size_pair rfl (by simp [Value.oneCell']) ?_)
  refine bodyPost_ret (results_cell_row res_pair _ _ w.heap.size 60 _ (0, 0) _ rfl (Row.setRow HW.out) Tryd.underlying60 rfl size_pair) rfl ?_
  rw [setRow_same HW.out]
  exact HRP.out _ _ HE.out
theorem res_input : Tryd.f63.results = #[.cell 2 52] := by kernel_rfl
theorem size_input : (Tryd.prog.info? 52).map (·.size) = some 2 := by kernel_rfl
set_option maxRecDepth 20000 in
set_option maxHeartbeats 8000000 in
theorem rinput_ok (g : Nat) (s : ByteArray) (p : Nat) (b : Bool) (w : World) (h : Rq w g s p b) (hT : ETab w) (hg : 0 ≠ g) : Calls Tryd.prog 63 #[.pointer (some ⟨g, 0, none⟩)] w fun r w' => Reads2 inE (InE1 g) g s p b w r w' := by
  obtain ⟨RP, hRP⟩ : ∃ RP, RP = Reads2 inE (InE1 g) g s p b w := ⟨_, rfl⟩
  have HRP : Hid (∀ r w', Reads2 inE (InE1 g) g s p b w r w' → RP r w') := fun r w' h => by rw [hRP]; exact h
  rw [← hRP]
  have hmf : ∀ (fn : Fn) (first cap : Array Value) (w : World), (Instr.makeFunc fn first cap).run Tryd.prog w = .ok (.func fn first cap) w := fun _ _ _ _ => rfl
  have hgl : g < w.heap.size := by obtain ⟨ev, h1, _⟩ := h.ex; exact h1.lt
  have HTB : Hid (∀ wx, Gr g w wx → ETab wx) := fun wx hgr => hgr.tab hg hT
  have HNE : Hid (w.heap.size ≠ g) := by show _ ≠ _; omega
  have HW : Hid (Row (w.alloc (.cells #[.string ⟨#[]⟩, .slice none 0 0] 52)) w.heap.size #[.string ⟨#[]⟩, .slice none 0 0] 52) := Row.new w _ _
  have HR : Hid (Rq (w.alloc (.cells #[.string ⟨#[]⟩, .slice none 0 0] 52)) g s p b) := h.keep (below_new (Below.refl _ _) _)
  have HG : Hid (Gr g w (w.alloc (.cells #[.string ⟨#[]⟩, .slice none 0 0] 52))) := Gr.of (below_new (Below.refl _ _) _)
  clear h hRP hT
  go_enter Tryd.func63, Tryd.ntmps63
  have HC := passq_ok g s p b ⟨#[40]⟩ (w.alloc (.cells #[.string ⟨#[]⟩, .slice none 0 0] 52)) HR.out
  go_wp2_with fail
  refine Calls.mono HC ?_
  rintro e w1 ⟨⟨v1, rfl⟩, hg1, p1, b1, hr1, ho1⟩
  have HO1 : Hid (Oc (conE [40]) s p b () p1 b1) := ho1
  have HW1 : Hid (Row w1 w.heap.size #[.string ⟨#[]⟩, .slice none 0 0] 52) := hg1.row HW.out HNE.out
  have HR1 : Hid (Rq w1 g s p1 b1) := hr1
  have HG1 : Hid (Gr g w w1) := HG.out.trans hg1
  clear HC hg1 hr1 ho1 HR HG HW
  have HO := HO1
  have HW := HW1
  have HR := HR1
  have HG := HG1
  clear HO1 HW1 HR1 HG1
  have HC := rtext2_ok g s p1 b1 w1 HR.out (HTB.out _ HG.out) hg
  go_wp2_with fail
  refine Calls.mono HC ?_
  rintro e w2 ⟨hg1, v2, x2, p2, b2, rfl, rfl, hr1, ho1⟩
  have HO2 : Hid (Oc (seqE (conE [40]) (strE)) s p b ((), x2) p2 b2) := HO.out.seq (con_pf _) ho1
  have HV : Hid (Row w2 w.heap.size #[.string ⟨#[]⟩, .slice none 0 0] 52) := hg1.row HW.out HNE.out
  have cc := (HV.out.cell 0).trans (rfl : _ = some (Value.string ⟨#[]⟩))
  have zz := HV.out.frozen 0
  have HW2 : Hid (Row (w2.setCell ⟨w.heap.size, 0, none⟩ (.string x2)) w.heap.size #[.string x2, .slice none 0 0] 52) := HV.out.setCell _
  have HR2 : Hid (Rq (w2.setCell ⟨w.heap.size, 0, none⟩ (.string x2)) g s p2 b2) := hr1.set HV.out (by decide) (by decide)
  have HG2 : Hid (Gr g w (w2.setCell ⟨w.heap.size, 0, none⟩ (.string x2))) := Gr.set (HG.out.trans hg1) (Nat.le_refl _) _
  clear HC hg1 hr1 ho1 HR HG HW HO HV
  have HO := HO2
  have HW := HW2
  have HR := HR2
  have HG := HG2
  clear HO2 HW2 HR2 HG2
  have HC := passq_ok g s p2 b2 ⟨#[44]⟩ (w2.setCell ⟨w.heap.size, 0, none⟩ (.string x2)) HR.out
  go_wp2_with fail
  refine Calls.mono HC ?_
  rintro e w3 ⟨⟨v3, rfl⟩, hg1, p3, b3, hr1, ho1⟩
  have HO3 : Hid (Oc (seqE (seqE (conE [40]) (strE)) (conE [44])) s p b (((), x2), ()) p3 b3) := HO.out.seq (seq_pf (con_pf _) (strE_pf)) ho1
  have HW3 : Hid (Row w3 w.heap.size #[.string x2, .slice none 0 0] 52) := hg1.row HW.out HNE.out
  have HR3 : Hid (Rq w3 g s p3 b3) := hr1
  have HG3 : Hid (Gr g w w3) := HG.out.trans hg1
  clear HC hg1 hr1 ho1 HR HG HW HO
  have HO := HO3
  have HW := HW3
  have HR := HR3
  have HG := HG3
  clear HO3 HW3 HR3 HG3
  have HC := strR_ok g s p3 b3 w3 HR.out (fun p b wx hgr hr => rtext2_ok g s p b wx hr (HTB.out _ (HG.out.trans hgr)) hg)
  go_wp2_with fail
  refine Calls.mono HC ?_
  rintro e w4 ⟨hg1, v4, l4, p4, b4, rfl, hl1, hr1, ho1⟩
  obtain ⟨a4, c4, rfl⟩ := hl1.shape
  have HO4 : Hid (Oc (seqE (seqE (seqE (conE [40]) (strE)) (conE [44])) (lstE strE)) s p b ((((), x2), ()), l4) p4 b4) := HO.out.seq (seq_pf (seq_pf (con_pf _) (strE_pf)) (con_pf _)) ho1
  have HV : Hid (Row w4 w.heap.size #[.string x2, .slice none 0 0] 52) := hg1.row HW.out HNE.out
  have cc := (HV.out.cell 1).trans (rfl : _ = some (Value.slice none 0 0))
  have zz := HV.out.frozen 1
  have HW4 : Hid (Row (w4.setCell ⟨w.heap.size, 1, none⟩ (.slice a4 l4.length c4)) w.heap.size #[.string x2, .slice a4 l4.length c4] 52) := HV.out.setCell _
  have HR4 : Hid (Rq (w4.setCell ⟨w.heap.size, 1, none⟩ (.slice a4 l4.length c4)) g s p4 b4) := hr1.set HV.out (by decide) (by decide)
  have HG4 : Hid (Gr g w (w4.setCell ⟨w.heap.size, 1, none⟩ (.slice a4 l4.length c4))) := Gr.set (HG.out.trans hg1) (Nat.le_refl _) _
  have HL4 : Hid (StrL (g + 1) g (w4.setCell ⟨w.heap.size, 1, none⟩ (.slice a4 l4.length c4)) (.slice a4 l4.length c4) l4) := hl1.set HV.out (by decide)
  clear HC hg1 hr1 ho1 HR HG HW HO HV hl1
  have HO := HO4
  have HW := HW4
  have HR := HR4
  have HG := HG4
  clear HO4 HW4 HR4 HG4
  have HC := passq_ok g s p4 b4 ⟨#[41]⟩ (w4.setCell ⟨w.heap.size, 1, none⟩ (.slice a4 l4.length c4)) HR.out
  go_wp2_with fail
  refine Calls.mono HC ?_
  rintro e w5 ⟨⟨v5, rfl⟩, hg1, p5, b5, hr1, ho1⟩
  have HO5 : Hid (Oc (seqE (seqE (seqE (seqE (conE [40]) (strE)) (conE [44])) (lstE strE)) (conE [41])) s p b (((((), x2), ()), l4), ()) p5 b5) := HO.out.seq (seq_pf (seq_pf (seq_pf (con_pf _) (strE_pf)) (con_pf _)) (lst_pf strE_pf str_head)) ho1
  have HW5 : Hid (Row w5 w.heap.size #[.string x2, .slice a4 l4.length c4] 52) := hg1.row HW.out HNE.out
  have HR5 : Hid (Rq w5 g s p5 b5) := hr1
  have HG5 : Hid (Gr g w w5) := HG.out.trans hg1
  have HL4_5 : Hid (StrL (g + 1) g w5 (.slice a4 l4.length c4) l4) := HL4.out.gr hg1 (Nat.lt_succ_self _)
  clear HC hg1 hr1 ho1 HR HG HW HO HL4
  have HO := HO5
  have HW := HW5
  have HR := HR5
  have HG := HG5
  have HL4 := HL4_5
  clear HO5 HW5 HR5 HG5 HL4_5
  have HE : Hid (Reads2 inE (InE1 g) g s p b w (.returned (.agg #[.string x2, .slice a4 l4.length c4])) w5) := ⟨HG.out, _, (x2, l4), p5, b5, rfl, ⟨a4, c4, rfl, by obtain ⟨D, d1, d2⟩ := HL4.out; rw [show D = strV l4 from d2] at d1; exact d1⟩, HR.out, HO.out.map (E := inS) (fun t => (t.1.1.1.2, t.1.2)) (fun y => (((((), y.1), ()), y.2), ())) (fun t => (inS_eq ((fun t => (t.1.1.1.2, t.1.2)) t)).symm) inS_eq⟩
  clear HO HR HG HL4
  go_wp2_with (first
      | refine wpList_load_row rfl 52 _ rfl w.heap.size rfl 52 #[.string x2, .slice a4 l4.length c4] (0, 0) _ HW.out Tryd.underlying52 rfl size_input ?_
      | refine wpList_store_row rfl 52 _ _ rfl w.heap.size #[.string x2, .slice a4 l4.length c4] rfl rfl 52 #[.string x2, .slice a4 l4.length c4] HW.out size_input rfl (by simp [Value.oneCell']) ?_)
  refine bodyPost_ret (results_cell_row res_input _ _ w.heap.size 52 _ (0, 0) _ rfl (Row.setRow HW.out) Tryd.underlying52 rfl size_input) rfl ?_
  rw [setRow_same HW.out]
  exact HRP.out _ _ HE.out
end Go.Proofs.YtmpgfepkdhjibaaDoor
