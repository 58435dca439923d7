/- My own work: lists that the reader reads: what is kept. -/
import Derived.Test.YtmpgfepkdhjibaaDoorRd8d
import Derived.Test.YtmpgfepkdhjibaaDoorOwnD
namespace Go.Proofs.YtmpgfepkdhjibaaDoor
open Go.RowKit

theorem Gr.own {g B n z : Nat} {e : TypeId} {w wx w' : World} {v : Value} {xs : List Value} (h : Gr g w wx) (h0 : wx.ownsRow B e z v n xs) (hB : w.heap.size ≤ B) (hm : wx.grownBy w' v.ownBlock) : Gr g w w' :=
  ⟨hm.os.trans h.os, hm.tape.trans h.tape, hm.output.trans h.output, Nat.le_trans h.size hm.size, fun k hk hne => (hm.block k (by have := h.size; omega) (fun e => by
    have := (ownsRow_lt h0 k e.symm).2.1
    omega)).trans (h.block k hk hne)⟩
theorem own_gr {g B n z : Nat} {e : TypeId} {w w' : World} {v : Value} {xs : List Value} (h : w.ownsRow B e z v n xs) (hg : Gr g w w') (hB : g < B) : w'.ownsRow B e z v n xs :=
  ownsRow_keep h fun k hk hlt => hg.block k hlt (fun e => by
    have h1 := (ownsRow_lt h k hk).2.1
    have := Option.some.inj e
    omega)
theorem Rd.own {g B n z : Nat} {e : TypeId} {w w' : World} {v : Value} {xs : List Value} {s : ByteArray} {p : Nat} {er : Option Int} (h : Rd w g s p er) (h0 : w.ownsRow B e z v n xs) (hg : w.grownBy w' v.ownBlock) (h1 : 97 ≠ e) (h2 : 94 ≠ e) : Rd w' g s p er := by
  obtain ⟨ev, e1, e2⟩ := h.ex
  refine ⟨⟨ev, row_grown h0 hg e1 h1, ?_⟩, h.le, h.small⟩
  cases er with
  | none => exact e2
  | some e =>
    obtain ⟨k, q, e3, e4⟩ := e2
    exact ⟨k, q, e3, row_grown h0 hg e4 h2⟩
theorem step_lt {α : Type} {E : α → List UInt8} (hh : ∀ x, ∃ c t, E x = c :: t ∧ c ≠ 93) {X : List UInt8} {s : ByteArray} {p p1 p3 : Nat} {b1 b3 : Bool} {x : α} (h1 : Oc (conE X) s p false () p1 b1) (h2 : Oc E s p1 b1 x p3 b3) (hp : p ≤ s.size) (hp1 : p1 ≤ s.size) (hp3 : p3 ≤ s.size) (hb : b3 = false) : p < p3 := by
  subst hb
  cases b1 with
  | true => exact absurd (h2.1 rfl) (by decide)
  | false =>
    have := h1.le hp hp1
    have := h2.lt hh hp1 hp3
    omega
theorem left_lt {g : Nat} {w w' : World} {s : ByteArray} {p p' : Nat} {b : Bool} (h : Rq w g s p false) (h' : Rq w' g s p' b) (hl : b = false → p < p') : leftOf s g w' < leftOf s g w := by
  rw [left_ok h]
  have h1 := h.le
  cases b with
  | true =>
    rw [left_bad h']
    omega
  | false =>
    rw [left_ok h']
    have := hl rfl
    have := h'.le
    omega
theorem Gr.tab {g : Nat} {w wx : World} (h : Gr g w wx) (hg : 0 ≠ g) (hT : ETab w) : ETab wx := by
  obtain ⟨t, fr, ht⟩ := hT
  exact ⟨t, fr, (h.block 0 (ETab.pos ⟨t, fr, ht⟩) (fun e => hg (Option.some.inj e))).trans ht⟩
theorem str_head (x : ByteArray) : ∃ c t, strE x = c :: t ∧ c ≠ 93 := ⟨34, _, rfl, by decide⟩
/-- What the cells of a list are. -/
def StrC (_g : Nat) (_w : World) (C : List Value) (l : List ByteArray) : Prop := C = strV l
def StrE1 (_g : Nat) (_w : World) (v : Value) (x : ByteArray) : Prop := v = .string x
theorem StrC.gr {g : Nat} {w w' : World} {C : List Value} {l : List ByteArray} (h : StrC g w C l) (_ : Gr g w w') : StrC g w' C l := h
theorem StrC.own {g B n z : Nat} {w w' : World} {v : Value} {xs C : List Value} {l : List ByteArray} (h : StrC g w C l) (_ : w.ownsRow B 9 z v n xs) (_ : w.grownBy w' v.ownBlock) : StrC g w' C l := h
theorem StrC.snoc {g : Nat} {w : World} {C : List Value} {l : List ByteArray} {x : ByteArray} (h : StrC g w C l) : StrC g w (C ++ [.string x]) (l ++ [x]) := by
  unfold StrC at h ⊢
  rw [h]
  simp [strV]
theorem StrC.nil (g : Nat) (w : World) : StrC g w [] [] := rfl
def StrL (B g : Nat) (w : World) (v : Value) (l : List ByteArray) : Prop := ∃ C, w.ownsRow B 9 1 v l.length C ∧ StrC g w C l
theorem StrL.nil (B g : Nat) (w : World) : StrL B g w (.slice none 0 0) [] := ⟨[], World.ownsRow_nil _ _ _ _, StrC.nil g w⟩
theorem StrL.gr {B g : Nat} {w w' : World} {v : Value} {l : List ByteArray} (h : StrL B g w v l) (hg : Gr g w w') (hB : g < B) : StrL B g w' v l := by
  obtain ⟨C, h1, h2⟩ := h
  exact ⟨C, own_gr h1 hg hB, h2.gr hg⟩
theorem StrL.base {B B' g : Nat} {w : World} {v : Value} {l : List ByteArray} (h : StrL B g w v l) (hB : B' ≤ B) : StrL B' g w v l := by
  obtain ⟨C, h1, h2⟩ := h
  exact ⟨C, own_base h1 hB, h2⟩
theorem StrL.shape {B g : Nat} {w : World} {v : Value} {l : List ByteArray} (h : StrL B g w v l) : ∃ a c, v = .slice a l.length c := by
  obtain ⟨C, h1, h2⟩ := h
  exact own_shape h1
theorem run_one_str (w : World) (x : ByteArray) : (Instr.buildSlice 24 1 #[(0, .string x)]).run Tryd.prog w = .ok (.slice (some ⟨w.heap.size, 0, none⟩) 1 1) (w.alloc (.cells #[.string x] 9)) := by
  obtain ⟨i0, hi, hz0, hz1, hz2⟩ := info_parts info_str
  refine run_buildSlice w 24 9 1 _ _ i0 _ Tryd.underlying24 hi hz0 (by rw [hz1]; decide) (by rw [hz1]; decide) ?_
  have h := Great.fill_whole (s := 1) (by decide) [.string x] ((Array.range (1 * i0.size)).map ((Value.string ⟨#[]⟩).cells[· % (Value.string ⟨#[]⟩).cells.size]!)) (fun x hx => by simp at hx; subst hx; rfl) (by simp [hz1])
  rw [hz1] at h ⊢
  simpa [Value.cells] using h
set_option maxRecDepth 20000 in
set_option maxHeartbeats 8000000 in
theorem strR_ok (g : Nat) (s : ByteArray) (p : Nat) (b : Bool) (w : World) (h : Rq w g s p b)
    (HF : ∀ p b wx, Gr g w wx → Rq wx g s p b → Calls Tryd.prog 65 #[.pointer (some ⟨g, 0, none⟩)] wx fun r w' => Reads2 strE (StrE1 g) g s p b wx r w') :
    Calls Tryd.prog 64 #[.pointer (some ⟨g, 0, none⟩), .func (.func 65) #[.pointer (some ⟨g, 0, none⟩)] #[]] w fun r w' => Reads2 (lstE strE) (StrL (g + 1) g) g s p b w r w' := by
  obtain ⟨RP, hRP⟩ : ∃ RP, RP = Reads2 (lstE strE) (StrL (g + 1) g) g s p b w := ⟨_, rfl⟩
  have HRP : Hid (∀ r w', Reads2 (lstE strE) (StrL (g + 1) g) g s p b w r w' → RP r w') := fun r w' h => by rw [hRP]; exact h
  rw [← hRP]
  have HFN : Hid _ := HF
  have hgl : g < w.heap.size := by obtain ⟨ev, h1, _⟩ := h.ex; exact h1.lt
  have HP := passq_ok g s p b ⟨#[91]⟩ w h
  clear h hRP HF
  go_enter Tryd.func64, Tryd.ntmps64
  go_wp2_with fail
  refine Calls.mono HP ?_
  rintro e w1 ⟨⟨v1, rfl⟩, hg1, p1, b1, hr1, ho1⟩
  have HR1 : Hid (Rq w1 g s p1 b1) := hr1
  have HG1 : Hid (Gr g w w1) := hg1
  have HL1 : Hid (Lc strE s p b [] p1 b1) := Lc.start ho1
  clear hr1 hg1 HP ho1
  go_wp2
  go_loopw [5] (fun lv wx => ∃ (l : List ByteArray) (p2 : Nat) (b2 : Bool), Hid (StrL w.heap.size g wx lv l) ∧ Hid (Rq wx g s p2 b2) ∧ Hid (Gr g w wx) ∧ Hid (Lc strE s p b l p2 b2)) (fun _ wx => leftOf s g wx)
  case atStart => exact ⟨[], p1, b1, StrL.nil _ _ _, HR1, HG1, HL1⟩
  case round =>
    clear HR1 HG1 HL1
    obtain ⟨l, p2, b2, HX, HR, HG, HL⟩ := hrel
    obtain ⟨a, c, rfl⟩ := HX.out.shape
    cases b2 with
    | true =>
      have hR := HR.out
      obtain ⟨ev, hr2, k, q, rfl, _⟩ := hR.ex
      have c2 := (hr2.cell 2).trans (rfl : _ = some (Value.iface 92 (.pointer (some ⟨k, 0, none⟩))))
      have HP := passq_ok g s p2 true ⟨#[93]⟩ wr hR
      clear hr2 hR
      go_wp2_with fail
      refine Calls.mono HP ?_
      rintro e w3 ⟨⟨v3, rfl⟩, hg3, p3, b3, hr3, ho3⟩
      have HE : Hid (Reads2 (lstE strE) (StrL (g + 1) g) g s p b w (.returned (.slice a l.length c)) w3) := ⟨HG.out.trans hg3, _, l, p3, b3, rfl, (HX.out.gr hg3 hgl).base hgl, hr3, HL.out.bad ho3⟩
      clear hr3 hg3 HP HX HR HG HL c2 ho3
      go_wp2
      exact HRP.out _ _ HE.out
    | false =>
      have hR : Rd wr g s p2 none := HR.out
      have HLen : Hid (l.length ≤ 1048576) := Nat.le_trans (HL.out.len str_head) hR.small
      obtain ⟨ev, hr2, hv⟩ := hR.ex
      obtain rfl : ev = .nilIface := hv
      have c2 := (hr2.cell 2).trans (rfl : _ = some Value.nilIface)
      have HLe : Hid (p2 ≤ s.size) := hR.le
      have HS := sees_ok g s p2 none ⟨#[93]⟩ wr hR
      have hsb : seesB s p2 none (bl ⟨#[93]⟩) = decide (((bl s).drop p2).head? = some 93) := by
        show (true && preB [93] ((bl s).drop p2)) = _
        rw [Bool.true_and, pre1]
      rw [hsb] at HS
      clear hr2 hR hsb
      by_cases h93 : ((bl s).drop p2).head? = some 93
      · rw [decide_eq_true h93] at HS
        have H93 : Hid _ := h93
        clear h93
        go_wp2_with fail
        refine Calls.mono HS ?_
        rintro e w2 ⟨rfl, hb2⟩
        have HP := passq_ok g s p2 false ⟨#[93]⟩ w2 (HR.out.keep hb2)
        have HG2 : Hid (Gr g w w2) := HG.out.trans (Gr.of hb2)
        have HX2 : Hid (StrL w.heap.size g w2 (.slice a l.length c) l) := HX.out.gr (Gr.of hb2) hgl
        clear hb2 HS c2
        go_wp2_with fail
        refine Calls.mono HP ?_
        rintro e w3 ⟨⟨v3, rfl⟩, hg3, p3, b3, hr3, ho3⟩
        have HE : Hid (Reads2 (lstE strE) (StrL (g + 1) g) g s p b w (.returned (.slice a l.length c)) w3) := ⟨HG2.out.trans hg3, _, l, p3, b3, rfl, (HX2.out.gr hg3 hgl).base hgl, hr3, HL.out.done H93.out ho3⟩
        clear hr3 hg3 HP HX HX2 HR HG HG2 HL ho3
        go_wp2
        exact HRP.out _ _ HE.out
      · rw [decide_eq_false h93] at HS
        have H93 : Hid _ := h93
        clear h93
        by_cases hl : l = []
        · have hn : ¬ ((0 : Int) < (l.length : Int)) := by subst hl; simp
          have HNil : Hid (l = []) := hl
          clear hl
          go_wp2_with fail
          refine Calls.mono HS ?_
          rintro e w2 ⟨rfl, hb2⟩
          have HC := HFN.out p2 false w2 (HG.out.trans (Gr.of hb2)) (HR.out.keep hb2)
          have HG2 : Hid (Gr g w w2) := HG.out.trans (Gr.of hb2)
          have HX2 : Hid (StrL w.heap.size g w2 (.slice a l.length c) l) := HX.out.gr (Gr.of hb2) hgl
          clear hb2 HS c2
          go_wp2_with fail
          refine Calls.mono HC ?_
          rintro e w3 ⟨hg3, v3, x, p3, b3, rfl, hv3, hr3, ho3⟩
          obtain rfl := hv3
          have hrun := run_one_str w3 x
          have HXA : Hid (StrL w.heap.size g (w3.alloc (.cells #[.string x] 9)) (.slice a l.length c) l) := HX2.out.gr (hg3.trans (Gr.of (below_new (Below.refl _ _) _))) hgl
          have hGA : Gr g w (w3.alloc (.cells #[.string x] 9)) := HG2.out.trans (hg3.trans (Gr.of (below_new (Below.refl _ _) _)))
          have hszA : w.heap.size ≤ (w3.alloc (.cells #[.string x] 9)).heap.size := hGA.size
          have hRA : Rq (w3.alloc (.cells #[.string x] 9)) g s p3 b3 := hr3.keep (below_new (Below.refl _ _) _)
          have hslA : SlAt (w3.alloc (.cells #[.string x] 9)) (.slice (some ⟨w3.heap.size, 0, none⟩) 1 1) 1 [.string x] := slat_new w3 [.string x] 9 1 (by decide)
          obtain ⟨C, hoA, hcA⟩ := HXA.out
          have HGA : Hid _ := hGA
          have HRA : Hid _ := hRA
          have HCA : Hid _ := hcA
          have HOA : Hid _ := hoA
          have HSA : Hid _ := hslA
          have HLc : Hid (Lc strE s p b (l ++ [x]) p3 b3) := by rw [HNil.out] at HL ⊢; exact HL.out.one strE_pf str_head H93.out ho3
          have HLt : Hid (b3 = false → p2 < p3) := fun e => by subst e; exact Oc.lt str_head ho3 HLe.out hr3.le
          clear hg3 hr3 ho3 HC hGA hRA hslA hoA hcA HX2 HG2
          go_wp2_with (refine ap_sl rfl _ _ 24 rfl 9 _ 1 16 Tryd.underlying24 info_str rfl (by decide) (by decide) w.heap.size _ l.length C rfl HOA.out _ 1 [.string x] rfl HSA.out rfl (fun u hu => by simp at hu; subst hu; rfl) (by have := HLen.out; omega) hszA ?_)
          intro v5 w5 ho5 hg5
          have HX5 : Hid (StrL w.heap.size g w5 v5 (l ++ [x])) := ⟨C ++ [.string x], by rw [List.length_append]; exact ho5, (StrC.own HCA.out HOA.out hg5).snoc⟩
          have HR5 : Hid (Rq w5 g s p3 b3) := HRA.out.own HOA.out hg5 (by decide) (by decide)
          have HG5 : Hid (Gr g w w5) := Gr.own HGA.out HOA.out (Nat.le_refl _) hg5
          have HM5 : Hid (leftOf s g w5 < leftOf s g wr) := left_lt HR.out HR5.out HLt.out
          clear ho5 hg5 HOA HGA HRA HCA HSA hrun hszA HXA
          go_wp2
          go_roundw
          case rel => exact ⟨l ++ [x], p3, b3, HX5, HR5, HG5, HLc⟩
          case measure => exact HM5.out
        · have hn : ((0 : Int) < (l.length : Int)) := by have := List.length_pos_iff.2 hl; omega
          have HNil : Hid (l ≠ []) := hl
          clear hl
          go_wp2_with fail
          refine Calls.mono HS ?_
          rintro e w0 ⟨rfl, hb2⟩
          have HP := passq_ok g s p2 false ⟨#[44]⟩ w0 (HR.out.keep hb2)
          have HG0 : Hid (Gr g w w0) := HG.out.trans (Gr.of hb2)
          have HX0 : Hid (StrL w.heap.size g w0 (.slice a l.length c) l) := HX.out.gr (Gr.of hb2) hgl
          clear hb2 HS c2
          go_wp2_with fail
          refine Calls.mono HP ?_
          rintro e w2 ⟨⟨v2, rfl⟩, hg2, p1, b1, hr2, ho1⟩
          have HG2 : Hid (Gr g w w2) := HG0.out.trans hg2
          have HX2 : Hid (StrL w.heap.size g w2 (.slice a l.length c) l) := HX0.out.gr hg2 hgl
          have HC := HFN.out p1 b1 w2 HG2.out hr2
          have HO1 : Hid (Oc (conE [44]) s p2 false () p1 b1) := ho1
          have HLe1 : Hid (p1 ≤ s.size) := hr2.le
          clear hg2 hr2 ho1 HP HG0 HX0
          go_wp2_with fail
          refine Calls.mono HC ?_
          rintro e w3 ⟨hg3, v3, x, p3, b3, rfl, hv3, hr3, ho3⟩
          obtain rfl := hv3
          have hrun := run_one_str w3 x
          have HXA : Hid (StrL w.heap.size g (w3.alloc (.cells #[.string x] 9)) (.slice a l.length c) l) := HX2.out.gr (hg3.trans (Gr.of (below_new (Below.refl _ _) _))) hgl
          have hGA : Gr g w (w3.alloc (.cells #[.string x] 9)) := HG2.out.trans (hg3.trans (Gr.of (below_new (Below.refl _ _) _)))
          have hszA : w.heap.size ≤ (w3.alloc (.cells #[.string x] 9)).heap.size := hGA.size
          have hRA : Rq (w3.alloc (.cells #[.string x] 9)) g s p3 b3 := hr3.keep (below_new (Below.refl _ _) _)
          have hslA : SlAt (w3.alloc (.cells #[.string x] 9)) (.slice (some ⟨w3.heap.size, 0, none⟩) 1 1) 1 [.string x] := slat_new w3 [.string x] 9 1 (by decide)
          obtain ⟨C, hoA, hcA⟩ := HXA.out
          have HGA : Hid _ := hGA
          have HRA : Hid _ := hRA
          have HCA : Hid _ := hcA
          have HOA : Hid _ := hoA
          have HSA : Hid _ := hslA
          have HLc : Hid (Lc strE s p b (l ++ [x]) p3 b3) := Lc.more strE_pf str_head HNil.out HL.out H93.out HO1.out ho3
          have HLt : Hid (b3 = false → p2 < p3) := fun e => step_lt str_head HO1.out ho3 HLe.out HLe1.out hr3.le e
          clear hg3 hr3 ho3 HC HO1 hGA hRA hslA hoA hcA HX2 HG2
          go_wp2_with (refine ap_sl rfl _ _ 24 rfl 9 _ 1 16 Tryd.underlying24 info_str rfl (by decide) (by decide) w.heap.size _ l.length C rfl HOA.out _ 1 [.string x] rfl HSA.out rfl (fun u hu => by simp at hu; subst hu; rfl) (by have := HLen.out; omega) hszA ?_)
          intro v5 w5 ho5 hg5
          have HX5 : Hid (StrL w.heap.size g w5 v5 (l ++ [x])) := ⟨C ++ [.string x], by rw [List.length_append]; exact ho5, (StrC.own HCA.out HOA.out hg5).snoc⟩
          have HR5 : Hid (Rq w5 g s p3 b3) := HRA.out.own HOA.out hg5 (by decide) (by decide)
          have HG5 : Hid (Gr g w w5) := Gr.own HGA.out HOA.out (Nat.le_refl _) hg5
          have HM5 : Hid (leftOf s g w5 < leftOf s g wr) := left_lt HR.out HR5.out HLt.out
          clear ho5 hg5 HOA HGA HRA HCA HSA hrun hszA HXA
          go_wp2
          go_roundw
          case rel => exact ⟨l ++ [x], p3, b3, HX5, HR5, HG5, HLc⟩
          case measure => exact HM5.out
end Go.Proofs.YtmpgfepkdhjibaaDoor
