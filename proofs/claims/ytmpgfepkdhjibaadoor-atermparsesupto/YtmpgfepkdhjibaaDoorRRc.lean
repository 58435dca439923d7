/- My own work: the document's own reader of derivations: lists; a list of texts. -/
import Derived.Test.YtmpgfepkdhjibaaDoorRRb
import Derived.Test.YtmpgfepkdhjibaaDoorRd8j
namespace Go.Proofs.YtmpgfepkdhjibaaDoor
open Go.RowKit

theorem Lc.badly {α : Type} {E : α → List UInt8} {s : ByteArray} {p p' : Nat} {b : Bool} {l' l : List α} (h : Lc E s p b l' p' true) : Oc (lstE E) s p b l p' true := by
  refine ⟨fun _ => rfl, fun hb => ?_⟩
  rcases h.2 hb with ⟨e, _⟩ | ⟨_, e⟩
  · cases e
  · exact .inr ⟨rfl, e⟩
/-- How 'does another element come' ends, while a list is read. -/
def NextL {α : Type} (E : α → List UInt8) (g : Nat) (s : ByteArray) (p : Nat) (b : Bool) (l : List α) (p2 : Nat) (b2 : Bool) (r : Ending) (w' : World) : Prop :=
  (r = .returned (.bool false) ∧ ∃ p' b', Rr w' g s p' b' ∧ Oc (lstE E) s p b l p' b') ∨
  (r = .returned (.bool true) ∧ b2 = false ∧ ∃ p1, Rr w' g s p1 false ∧ p2 ≤ p1 ∧ ∀ x p3 b3, Oc E s p1 false x p3 b3 → Lc E s p b (l ++ [x]) p3 b3)
theorem more_list {α : Type} {E : α → List UInt8} (hp : PF E) (hh : ∀ x, ∃ c t, E x = c :: t ∧ c ≠ 93) {g : Nat} {s : ByteArray} {p p2 : Nat} {b b2 : Bool} {l : List α} {r : Ending} {w' : World} (hL : Lc E s p b l p2 b2) (hle : p2 ≤ s.size) (h : MoreP g s p2 b2 l.length r w') : NextL E g s p b l p2 b2 r w' := by
  rcases h with ⟨rfl, rfl, p', hr⟩ | ⟨rfl, h93, rfl, p', b', hr, ho⟩ | ⟨rfl, h93, hn, rfl, hr⟩ | ⟨rfl, h93, hn, p', b', rfl, hr, ho⟩
  · exact .inl ⟨rfl, p', true, hr, hL.bad Oc.stay⟩
  · exact .inl ⟨rfl, p', b', hr, hL.done h93 ho⟩
  · have hl : l = [] := List.length_eq_zero_iff.1 hn
    subst hl
    exact .inr ⟨rfl, rfl, p2, hr, Nat.le_refl _, fun x p3 b3 h => hL.one hp hh h93 h⟩
  · have hl : l ≠ [] := List.length_pos_iff.1 hn
    cases b' with
    | false => exact .inr ⟨rfl, rfl, p', hr, Oc.le ho hle hr.le, fun x p3 b3 h => hL.more hp hh hl h93 ho h⟩
    | true => exact .inl ⟨rfl, p', true, hr, (hL.more hp hh hl h93 ho (x := l.head hl) (p'' := p') (b'' := true) Oc.stay).badly⟩
theorem leftR_lt {g : Nat} {w w' : World} {s : ByteArray} {p p' : Nat} {b : Bool} (h : Rr w g s p false) (h' : Rr w' g s p' b) (hl : b = false → p < p') : leftR s g w' < leftR s g w := by
  rw [leftR_ok h]
  have h1 := h.le
  cases b with
  | true => rw [leftR_bad h']; omega
  | false => rw [leftR_ok h']; have := hl rfl; have := h'.le; omega
theorem Rr.own {g B n z : Nat} {e : TypeId} {w w' : World} {v : Value} {xs : List Value} {s : ByteArray} {p : Nat} {b : Bool} (h : Rr w g s p b) (h0 : w.ownsRow B e z v n xs) (hg : w.grownBy w' v.ownBlock) (h1 : 69 ≠ e) : Rr w' g s p b := by
  refine ⟨?_, h.le, h.small⟩
  refine (hg.block g h.row.lt (fun e2 => ?_)).trans h.row
  obtain ⟨k1, k2, cur, k3⟩ := ownsRow_lt h0 g e2.symm
  have k4 := k3.symm.trans h.row
  simp only [Option.some.injEq, Obj.cells.injEq] at k4
  exact h1 k4.2.1.symm
set_option maxRecDepth 20000 in
set_option maxHeartbeats 8000000 in
theorem textsR_ok (g : Nat) (s : ByteArray) (p : Nat) (b : Bool) (w : World) (h : Rr w g s p b) : Calls Tryd.prog 30 #[.pointer (some ⟨g, 0, none⟩)] w fun r w' => ReadsR (lstE strE) (StrL (g + 1) g) g s p b w r w' := by
  obtain ⟨RP, hRP⟩ : ∃ RP, RP = ReadsR (lstE strE) (StrL (g + 1) g) g s p b w := ⟨_, rfl⟩
  have HRP : Hid (∀ r w', ReadsR (lstE strE) (StrL (g + 1) g) g s p b w r w' → RP r w') := fun r w' h => by rw [hRP]; exact h
  rw [← hRP]
  have hgl : g < w.heap.size := h.row.lt
  have HP := take_ok g s p b ⟨#[91]⟩ w h
  clear h hRP
  go_enter Tryd.func30, Tryd.ntmps30
  go_wp2_with fail
  refine Calls.mono HP ?_
  rintro e w1 ⟨⟨v1, rfl⟩, hg1, p1, b1, hr1, ho1⟩
  have HR1 : Hid (Rr w1 g s p1 b1) := hr1
  have HG1 : Hid (Gr g w w1) := hg1
  have HL1 : Hid (Lc strE s p b [] p1 b1) := Lc.start ho1
  clear hr1 hg1 HP ho1
  go_wp2
  go_loopw [3] (fun lv wx => ∃ (l : List ByteArray) (p2 : Nat) (b2 : Bool), Hid (StrL w.heap.size g wx lv l) ∧ Hid (Rr wx g s p2 b2) ∧ Hid (Gr g w wx) ∧ Hid (Lc strE s p b l p2 b2) ∧ Hid ((b2 = false → l.length ≤ p2) ∧ l.length ≤ s.size + 1)) (fun _ wx => leftR s g wx)
  case atStart => exact ⟨[], p1, b1, StrL.nil _ _ _, HR1, HG1, HL1, fun _ => Nat.zero_le _, Nat.zero_le _⟩
  case round =>
    clear HR1 HG1 HL1
    obtain ⟨l, p2, b2, HX, HR, HG, HL, HLl⟩ := hrel
    obtain ⟨a, c, rfl⟩ := HX.out.shape
    have HLen : Hid (l.length ≤ 1048577) := Nat.le_trans HLl.out.2 (Nat.add_le_add_right HR.out.small 1)
    have HMo := more_ok g s p2 b2 l.length wr HR.out (Nat.le_trans HLen.out (by decide))
    go_wp2_with fail
    refine Calls.mono HMo ?_
    rintro r w2 ⟨hmo, hg2⟩
    have hnx := more_list strE_pf str_head HL.out HR.out.le hmo
    have HG2 : Hid (Gr g w w2) := HG.out.trans hg2
    have HX2 : Hid (StrL w.heap.size g w2 (.slice a l.length c) l) := HX.out.gr hg2 hgl
    clear HMo hmo hg2 HX HG HL
    rcases hnx with ⟨rfl, p3, b3, hr3, ho3⟩ | ⟨rfl, rfl, p1, hr1, hle1, hnext⟩
    · have HE : Hid (ReadsR (lstE strE) (StrL (g + 1) g) g s p b w (.returned (.slice a l.length c)) w2) := ⟨HG2.out, _, l, p3, b3, rfl, HX2.out.base hgl, hr3, ho3⟩
      clear hr3 ho3 HR HX2 HG2
      go_wp2
      exact HRP.out _ _ HE.out
    · have HC := quotedR_ok g s p1 false w2 hr1
      have HNx : Hid _ := hnext
      have HR1 : Hid (Rr w2 g s p1 false) := hr1
      clear hr1 hnext
      go_wp2_with fail
      refine Calls.mono HC ?_
      rintro e w3 ⟨hg3, v3, x, p3, b3, rfl, hv3, hr3, ho3⟩
      obtain rfl := hv3
      have hrun := run_one_str w3 x
      have HXA : Hid (StrL w.heap.size g (w3.alloc (.cells #[.string x] 9)) (.slice a l.length c) l) := HX2.out.gr (hg3.trans (Gr.of (below_new (Below.refl _ _) _))) hgl
      have hGA : Gr g w (w3.alloc (.cells #[.string x] 9)) := HG2.out.trans (hg3.trans (Gr.of (below_new (Below.refl _ _) _)))
      have hszA : w.heap.size ≤ (w3.alloc (.cells #[.string x] 9)).heap.size := hGA.size
      have hRA : Rr (w3.alloc (.cells #[.string x] 9)) g s p3 b3 := hr3.keep (below_new (Below.refl _ _) _)
      have hslA : SlAt (w3.alloc (.cells #[.string x] 9)) (.slice (some ⟨w3.heap.size, 0, none⟩) 1 1) 1 [.string x] := slat_new w3 [.string x] 9 1 (by decide)
      obtain ⟨C, hoA, hcA⟩ := HXA.out
      have HGA : Hid _ := hGA
      have HRA : Hid _ := hRA
      have HCA : Hid _ := hcA
      have HOA : Hid _ := hoA
      have HSA : Hid _ := hslA
      have HLc : Hid (Lc strE s p b (l ++ [x]) p3 b3) := HNx.out x p3 b3 ho3
      have HLt : Hid (b3 = false → p2 < p3) := fun e => by subst e; have := Oc.lt str_head ho3 HR1.out.le hr3.le; omega
      clear hg3 hr3 ho3 HC hGA hRA hslA hoA hcA HX2 HG2
      go_wp2_with (refine ap_sl rfl _ _ 24 rfl 9 _ 1 16 Tryd.underlying24 info_str rfl (by decide) (by decide) w.heap.size _ l.length C rfl HOA.out _ 1 [.string x] rfl HSA.out rfl (fun u hu => by simp at hu; subst hu; rfl) (by have := HLen.out; omega) hszA ?_)
      intro v5 w5 ho5 hg5
      have HX5 : Hid (StrL w.heap.size g w5 v5 (l ++ [x])) := ⟨C ++ [.string x], by rw [List.length_append]; exact ho5, (StrC.own HCA.out HOA.out hg5).snoc⟩
      have HR5 : Hid (Rr w5 g s p3 b3) := HRA.out.own HOA.out hg5 (by decide)
      have HG5 : Hid (Gr g w w5) := Gr.own HGA.out HOA.out (Nat.le_refl _) hg5
      have HM5 : Hid (leftR s g w5 < leftR s g wr) := leftR_lt HR.out HR5.out HLt.out
      have HLl5 : Hid ((b3 = false → (l ++ [x]).length ≤ p3) ∧ (l ++ [x]).length ≤ s.size + 1) := by
        have h1 := HLl.out.1 trivial
        have h2 := HR.out.le
        rw [List.length_append, List.length_singleton]
        exact ⟨fun e => by have := HLt.out e; omega, by omega⟩
      clear ho5 hg5 HOA HGA HRA HCA HSA hrun hszA HXA HNx HR1 HR
      go_wp2
      go_roundw
      case rel => exact ⟨l ++ [x], p3, b3, HX5, HR5, HG5, HLc, HLl5⟩
      case measure => exact HM5.out
end Go.Proofs.YtmpgfepkdhjibaaDoor
