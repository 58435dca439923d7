/- My own work: lists of inputs by walk. -/
import Derived.Test.YtmpgfepkdhjibaaDoorRd8e
namespace Go.Proofs.YtmpgfepkdhjibaaDoor
open Go.RowKit

theorem in_head (x : ByteArray × List ByteArray) : ∃ c t, inE x = c :: t ∧ c ≠ 93 := ⟨40, _, rfl, by decide⟩
abbrev inS := seqE (seqE (seqE (seqE (conE [40]) strE) (conE [44])) (lstE strE)) (conE [41])
theorem inS_eq (y : ByteArray × List ByteArray) : inS (((((), y.1), ()), y.2), ()) = inE y := by simp [inS, seqE, conE, inE, lstE]
theorem inE_pf : PF inE := pf_map (E := inS) (seq_pf (seq_pf (seq_pf (seq_pf (con_pf _) strE_pf) (con_pf _)) (lst_pf strE_pf str_head)) (con_pf _)) (fun y => (((((), y.1), ()), y.2), ())) (fun y z h => by
  simp only [Prod.mk.injEq, true_and, and_true] at h
  exact Prod.ext h.1 h.2) inS_eq
/-- What the cells of a list are. -/
def InC (g : Nat) (w : World) (C : List Value) (l : List (ByteArray × List ByteArray)) : Prop := ∃ ns : List Value, ns.length = l.length ∧ C = inV l ns ∧ ∀ i (_ : i < l.length) (_ : i < ns.length), w.ownsRow (g + 1) 9 1 ns[i] l[i].2.length (strV l[i].2)
def InE1 (g : Nat) (w : World) (v : Value) (x : ByteArray × List ByteArray) : Prop := ∃ a c, v = .agg #[.string x.1, .slice a x.2.length c] ∧ w.ownsRow (g + 1) 9 1 (.slice a x.2.length c) x.2.length (strV x.2)
theorem InC.gr {g : Nat} {w w' : World} {C : List Value} {l : List (ByteArray × List ByteArray)} (h : InC g w C l) (hg : Gr g w w') : InC g w' C l := by
  obtain ⟨ns, h1, h2, h3⟩ := h
  exact ⟨ns, h1, h2, fun i a b => own_gr (h3 i a b) hg (by omega)⟩
theorem InC.own {g B n z : Nat} {w w' : World} {v : Value} {xs C : List Value} {l : List (ByteArray × List ByteArray)} (h : InC g w C l) (h0 : w.ownsRow B 52 z v n xs) (hg : w.grownBy w' v.ownBlock) : InC g w' C l := by
  obtain ⟨ns, h1, h2, h3⟩ := h
  exact ⟨ns, h1, h2, fun i a b => ownsRow_grown (h3 i a b) h0 hg (by decide)⟩
theorem InC.snoc {g : Nat} {w : World} {C : List Value} {l : List (ByteArray × List ByteArray)} {x : ByteArray × List ByteArray} {na : Option Addr} {nc : Nat} (h : InC g w C l) (hn : w.ownsRow (g + 1) 9 1 (.slice na x.2.length nc) x.2.length (strV x.2)) : InC g w (C ++ [.string x.1, .slice na x.2.length nc]) (l ++ [x]) := by
  obtain ⟨ns, h1, h2, h3⟩ := h
  refine ⟨ns ++ [.slice na x.2.length nc], by simp [h1], ?_, fun i a b => ?_⟩
  · rw [h2]
    unfold inV
    rw [List.zip_append h1.symm, List.flatMap_append]
    rfl
  · by_cases hi : i < l.length
    · have hi' : i < ns.length := by omega
      simp only [List.getElem_append_left hi, List.getElem_append_left hi']
      exact h3 i hi hi'
    · have e1 : i = l.length := by simp at a; omega
      subst e1
      simp only [List.getElem_append_right (Nat.le_refl _), List.getElem_append_right (show ns.length ≤ l.length by omega), Nat.sub_self, h1, List.getElem_cons_zero]
      exact hn
theorem InC.nil (g : Nat) (w : World) : InC g w [] [] := ⟨[], rfl, rfl, fun i h => absurd h (by simp)⟩
def InL (B g : Nat) (w : World) (v : Value) (l : List (ByteArray × List ByteArray)) : Prop := ∃ C, w.ownsRow B 52 2 v l.length C ∧ InC g w C l
theorem InL.nil (B g : Nat) (w : World) : InL B g w (.slice none 0 0) [] := ⟨[], World.ownsRow_nil _ _ _ _, InC.nil g w⟩
theorem InL.gr {B g : Nat} {w w' : World} {v : Value} {l : List (ByteArray × List ByteArray)} (h : InL B g w v l) (hg : Gr g w w') (hB : g < B) : InL B g w' v l := by
  obtain ⟨C, h1, h2⟩ := h
  exact ⟨C, own_gr h1 hg hB, h2.gr hg⟩
theorem InL.base {B B' g : Nat} {w : World} {v : Value} {l : List (ByteArray × List ByteArray)} (h : InL B g w v l) (hB : B' ≤ B) : InL B' g w v l := by
  obtain ⟨C, h1, h2⟩ := h
  exact ⟨C, own_base h1 hB, h2⟩
theorem InL.shape {B g : Nat} {w : World} {v : Value} {l : List (ByteArray × List ByteArray)} (h : InL B g w v l) : ∃ a c, v = .slice a l.length c := by
  obtain ⟨C, h1, h2⟩ := h
  exact own_shape h1
set_option maxRecDepth 20000 in
set_option maxHeartbeats 8000000 in
theorem inR_ok (g : Nat) (s : ByteArray) (p : Nat) (b : Bool) (w : World) (h : Rq w g s p b)
    (HF : ∀ p b wx, Gr g w wx → Rq wx g s p b → Calls Tryd.prog 63 #[.pointer (some ⟨g, 0, none⟩)] wx fun r w' => Reads2 inE (InE1 g) g s p b wx r w') :
    Calls Tryd.prog 62 #[.pointer (some ⟨g, 0, none⟩), .func (.func 63) #[.pointer (some ⟨g, 0, none⟩)] #[]] w fun r w' => Reads2 (lstE inE) (InL (g + 1) g) g s p b w r w' := by
  obtain ⟨RP, hRP⟩ : ∃ RP, RP = Reads2 (lstE inE) (InL (g + 1) g) g s p b w := ⟨_, rfl⟩
  have HRP : Hid (∀ r w', Reads2 (lstE inE) (InL (g + 1) g) g s p b w r w' → RP r w') := fun r w' h => by rw [hRP]; exact h
  rw [← hRP]
  have HFN : Hid _ := HF
  have hgl : g < w.heap.size := by obtain ⟨ev, h1, _⟩ := h.ex; exact h1.lt
  have HP := passq_ok g s p b ⟨#[91]⟩ w h
  clear h hRP HF
  go_enter Tryd.func62, Tryd.ntmps62
  go_wp2_with fail
  refine Calls.mono HP ?_
  rintro e w1 ⟨⟨v1, rfl⟩, hg1, p1, b1, hr1, ho1⟩
  have HR1 : Hid (Rq w1 g s p1 b1) := hr1
  have HG1 : Hid (Gr g w w1) := hg1
  have HL1 : Hid (Lc inE s p b [] p1 b1) := Lc.start ho1
  clear hr1 hg1 HP ho1
  go_wp2
  go_loopw [5] (fun lv wx => ∃ (l : List (ByteArray × List ByteArray)) (p2 : Nat) (b2 : Bool), Hid (InL w.heap.size g wx lv l) ∧ Hid (Rq wx g s p2 b2) ∧ Hid (Gr g w wx) ∧ Hid (Lc inE s p b l p2 b2)) (fun _ wx => leftOf s g wx)
  case atStart => exact ⟨[], p1, b1, InL.nil _ _ _, HR1, HG1, HL1⟩
  case round =>
    clear HR1 HG1 HL1
    obtain ⟨l, p2, b2, HX, HR, HG, HL⟩ := hrel
    obtain ⟨a, c, rfl⟩ := HX.out.shape
    cases b2 with
    | true =>
      have hR := HR.out
      obtain ⟨ev, hr2, k, q, rfl, _⟩ := hR.ex
      have c2 := (hr2.cell 2).trans (rfl : _ = some (Value.iface 92 (.pointer (some ⟨k, 0, none⟩))))
      have HP := passq_ok g s p2 true ⟨#[93]⟩ wr hR
      clear hr2 hR
      go_wp2_with fail
      refine Calls.mono HP ?_
      rintro e w3 ⟨⟨v3, rfl⟩, hg3, p3, b3, hr3, ho3⟩
      have HE : Hid (Reads2 (lstE inE) (InL (g + 1) g) g s p b w (.returned (.slice a l.length c)) w3) := ⟨HG.out.trans hg3, _, l, p3, b3, rfl, (HX.out.gr hg3 hgl).base hgl, hr3, HL.out.bad ho3⟩
      clear hr3 hg3 HP HX HR HG HL c2 ho3
      go_wp2
      exact HRP.out _ _ HE.out
    | false =>
      have hR : Rd wr g s p2 none := HR.out
      have HLen : Hid (l.length ≤ 1048576) := Nat.le_trans (HL.out.len in_head) hR.small
      obtain ⟨ev, hr2, hv⟩ := hR.ex
      obtain rfl : ev = .nilIface := hv
      have c2 := (hr2.cell 2).trans (rfl : _ = some Value.nilIface)
      have HLe : Hid (p2 ≤ s.size) := hR.le
      have HS := sees_ok g s p2 none ⟨#[93]⟩ wr hR
      have hsb : seesB s p2 none (bl ⟨#[93]⟩) = decide (((bl s).drop p2).head? = some 93) := by
        show (true && preB [93] ((bl s).drop p2)) = _
        rw [Bool.true_and, pre1]
      rw [hsb] at HS
      clear hr2 hR hsb
      by_cases h93 : ((bl s).drop p2).head? = some 93
      · rw [decide_eq_true h93] at HS
        have H93 : Hid _ := h93
        clear h93
        go_wp2_with fail
        refine Calls.mono HS ?_
        rintro e w2 ⟨rfl, hb2⟩
        have HP := passq_ok g s p2 false ⟨#[93]⟩ w2 (HR.out.keep hb2)
        have HG2 : Hid (Gr g w w2) := HG.out.trans (Gr.of hb2)
        have HX2 : Hid (InL w.heap.size g w2 (.slice a l.length c) l) := HX.out.gr (Gr.of hb2) hgl
        clear hb2 HS c2
        go_wp2_with fail
        refine Calls.mono HP ?_
        rintro e w3 ⟨⟨v3, rfl⟩, hg3, p3, b3, hr3, ho3⟩
        have HE : Hid (Reads2 (lstE inE) (InL (g + 1) g) g s p b w (.returned (.slice a l.length c)) w3) := ⟨HG2.out.trans hg3, _, l, p3, b3, rfl, (HX2.out.gr hg3 hgl).base hgl, hr3, HL.out.done H93.out ho3⟩
        clear hr3 hg3 HP HX HX2 HR HG HG2 HL ho3
        go_wp2
        exact HRP.out _ _ HE.out
      · rw [decide_eq_false h93] at HS
        have H93 : Hid _ := h93
        clear h93
        by_cases hl : l = []
        · have hn : ¬ ((0 : Int) < (l.length : Int)) := by subst hl; simp
          have HNil : Hid (l = []) := hl
          clear hl
          go_wp2_with fail
          refine Calls.mono HS ?_
          rintro e w2 ⟨rfl, hb2⟩
          have HC := HFN.out p2 false w2 (HG.out.trans (Gr.of hb2)) (HR.out.keep hb2)
          have HG2 : Hid (Gr g w w2) := HG.out.trans (Gr.of hb2)
          have HX2 : Hid (InL w.heap.size g w2 (.slice a l.length c) l) := HX.out.gr (Gr.of hb2) hgl
          clear hb2 HS c2
          go_wp2_with fail
          refine Calls.mono HC ?_
          rintro e w3 ⟨hg3, v3, x, p3, b3, rfl, hv3, hr3, ho3⟩
          obtain ⟨na, nc, rfl, hn3⟩ := hv3
          have hrun := run_one_in w3 x.1 (.slice na x.2.length nc) rfl
          have HXA : Hid (InL w.heap.size g (w3.alloc (.cells #[.string x.1, .slice na x.2.length nc] 52)) (.slice a l.length c) l) := HX2.out.gr (hg3.trans (Gr.of (below_new (Below.refl _ _) _))) hgl
          have hGA : Gr g w (w3.alloc (.cells #[.string x.1, .slice na x.2.length nc] 52)) := HG2.out.trans (hg3.trans (Gr.of (below_new (Below.refl _ _) _)))
          have hszA : w.heap.size ≤ (w3.alloc (.cells #[.string x.1, .slice na x.2.length nc] 52)).heap.size := hGA.size
          have hRA : Rq (w3.alloc (.cells #[.string x.1, .slice na x.2.length nc] 52)) g s p3 b3 := hr3.keep (below_new (Below.refl _ _) _)
          have hslA : SlAt (w3.alloc (.cells #[.string x.1, .slice na x.2.length nc] 52)) (.slice (some ⟨w3.heap.size, 0, none⟩) 1 1) 1 [.string x.1, .slice na x.2.length nc] := slat_new w3 [.string x.1, .slice na x.2.length nc] 52 1 (by decide)
          have HNA : Hid ((w3.alloc (.cells #[.string x.1, .slice na x.2.length nc] 52)).ownsRow (g + 1) 9 1 (.slice na x.2.length nc) x.2.length (strV x.2)) := own_below hn3 (below_new (Below.refl _ _) _)
          obtain ⟨C, hoA, hcA⟩ := HXA.out
          have HGA : Hid _ := hGA
          have HRA : Hid _ := hRA
          have HCA : Hid _ := hcA
          have HOA : Hid _ := hoA
          have HSA : Hid _ := hslA
          have HLc : Hid (Lc inE s p b (l ++ [x]) p3 b3) := by rw [HNil.out] at HL ⊢; exact HL.out.one inE_pf in_head H93.out ho3
          have HLt : Hid (b3 = false → p2 < p3) := fun e => by subst e; exact Oc.lt in_head ho3 HLe.out hr3.le
          clear hg3 hr3 ho3 HC hGA hRA hslA hoA hcA HX2 HG2 hn3
          go_wp2_with (refine ap_sl rfl _ _ 23 rfl 52 _ 2 40 Tryd.underlying23 info_in rfl (by decide) (by decide) w.heap.size _ l.length C rfl HOA.out _ 1 [.string x.1, .slice na x.2.length nc] rfl HSA.out rfl (fun u hu => by simp at hu; rcases hu with rfl | rfl <;> rfl) (by have := HLen.out; omega) hszA ?_)
          intro v5 w5 ho5 hg5
          have HX5 : Hid (InL w.heap.size g w5 v5 (l ++ [x])) := ⟨C ++ [.string x.1, .slice na x.2.length nc], by rw [List.length_append]; exact ho5, (InC.own HCA.out HOA.out hg5).snoc (ownsRow_grown HNA.out HOA.out hg5 (by decide))⟩
          have HR5 : Hid (Rq w5 g s p3 b3) := HRA.out.own HOA.out hg5 (by decide) (by decide)
          have HG5 : Hid (Gr g w w5) := Gr.own HGA.out HOA.out (Nat.le_refl _) hg5
          have HM5 : Hid (leftOf s g w5 < leftOf s g wr) := left_lt HR.out HR5.out HLt.out
          clear ho5 hg5 HOA HGA HRA HCA HSA hrun hszA HXA HNA
          go_wp2
          go_roundw
          case rel => exact ⟨l ++ [x], p3, b3, HX5, HR5, HG5, HLc⟩
          case measure => exact HM5.out
        · have hn : ((0 : Int) < (l.length : Int)) := by have := List.length_pos_iff.2 hl; omega
          have HNil : Hid (l ≠ []) := hl
          clear hl
          go_wp2_with fail
          refine Calls.mono HS ?_
          rintro e w0 ⟨rfl, hb2⟩
          have HP := passq_ok g s p2 false ⟨#[44]⟩ w0 (HR.out.keep hb2)
          have HG0 : Hid (Gr g w w0) := HG.out.trans (Gr.of hb2)
          have HX0 : Hid (InL w.heap.size g w0 (.slice a l.length c) l) := HX.out.gr (Gr.of hb2) hgl
          clear hb2 HS c2
          go_wp2_with fail
          refine Calls.mono HP ?_
          rintro e w2 ⟨⟨v2, rfl⟩, hg2, p1, b1, hr2, ho1⟩
          have HG2 : Hid (Gr g w w2) := HG0.out.trans hg2
          have HX2 : Hid (InL w.heap.size g w2 (.slice a l.length c) l) := HX0.out.gr hg2 hgl
          have HC := HFN.out p1 b1 w2 HG2.out hr2
          have HO1 : Hid (Oc (conE [44]) s p2 false () p1 b1) := ho1
          have HLe1 : Hid (p1 ≤ s.size) := hr2.le
          clear hg2 hr2 ho1 HP HG0 HX0
          go_wp2_with fail
          refine Calls.mono HC ?_
          rintro e w3 ⟨hg3, v3, x, p3, b3, rfl, hv3, hr3, ho3⟩
          obtain ⟨na, nc, rfl, hn3⟩ := hv3
          have hrun := run_one_in w3 x.1 (.slice na x.2.length nc) rfl
          have HXA : Hid (InL w.heap.size g (w3.alloc (.cells #[.string x.1, .slice na x.2.length nc] 52)) (.slice a l.length c) l) := HX2.out.gr (hg3.trans (Gr.of (below_new (Below.refl _ _) _))) hgl
          have hGA : Gr g w (w3.alloc (.cells #[.string x.1, .slice na x.2.length nc] 52)) := HG2.out.trans (hg3.trans (Gr.of (below_new (Below.refl _ _) _)))
          have hszA : w.heap.size ≤ (w3.alloc (.cells #[.string x.1, .slice na x.2.length nc] 52)).heap.size := hGA.size
          have hRA : Rq (w3.alloc (.cells #[.string x.1, .slice na x.2.length nc] 52)) g s p3 b3 := hr3.keep (below_new (Below.refl _ _) _)
          have hslA : SlAt (w3.alloc (.cells #[.string x.1, .slice na x.2.length nc] 52)) (.slice (some ⟨w3.heap.size, 0, none⟩) 1 1) 1 [.string x.1, .slice na x.2.length nc] := slat_new w3 [.string x.1, .slice na x.2.length nc] 52 1 (by decide)
          have HNA : Hid ((w3.alloc (.cells #[.string x.1, .slice na x.2.length nc] 52)).ownsRow (g + 1) 9 1 (.slice na x.2.length nc) x.2.length (strV x.2)) := own_below hn3 (below_new (Below.refl _ _) _)
          obtain ⟨C, hoA, hcA⟩ := HXA.out
          have HGA : Hid _ := hGA
          have HRA : Hid _ := hRA
          have HCA : Hid _ := hcA
          have HOA : Hid _ := hoA
          have HSA : Hid _ := hslA
          have HLc : Hid (Lc inE s p b (l ++ [x]) p3 b3) := Lc.more inE_pf in_head HNil.out HL.out H93.out HO1.out ho3
          have HLt : Hid (b3 = false → p2 < p3) := fun e => step_lt in_head HO1.out ho3 HLe.out HLe1.out hr3.le e
          clear hg3 hr3 ho3 HC HO1 hGA hRA hslA hoA hcA HX2 HG2 hn3
          go_wp2_with (refine ap_sl rfl _ _ 23 rfl 52 _ 2 40 Tryd.underlying23 info_in rfl (by decide) (by decide) w.heap.size _ l.length C rfl HOA.out _ 1 [.string x.1, .slice na x.2.length nc] rfl HSA.out rfl (fun u hu => by simp at hu; rcases hu with rfl | rfl <;> rfl) (by have := HLen.out; omega) hszA ?_)
          intro v5 w5 ho5 hg5
          have HX5 : Hid (InL w.heap.size g w5 v5 (l ++ [x])) := ⟨C ++ [.string x.1, .slice na x.2.length nc], by rw [List.length_append]; exact ho5, (InC.own HCA.out HOA.out hg5).snoc (ownsRow_grown HNA.out HOA.out hg5 (by decide))⟩
          have HR5 : Hid (Rq w5 g s p3 b3) := HRA.out.own HOA.out hg5 (by decide) (by decide)
          have HG5 : Hid (Gr g w w5) := Gr.own HGA.out HOA.out (Nat.le_refl _) hg5
          have HM5 : Hid (leftOf s g w5 < leftOf s g wr) := left_lt HR.out HR5.out HLt.out
          clear ho5 hg5 HOA HGA HRA HCA HSA hrun hszA HXA HNA
          go_wp2
          go_roundw
          case rel => exact ⟨l ++ [x], p3, b3, HX5, HR5, HG5, HLc⟩
          case measure => exact HM5.out
end Go.Proofs.YtmpgfepkdhjibaaDoor
