/- My own work: which infos may be, by the document's own May. -/
import Derived.Test.YthidlckipiamkaaDoorOT3
import Derived.Deep.DeepCutAuto
namespace Go.Proofs.YthidlckipiamkaaDoor
open Go.RowKit
open S2 (bl bl_len bl_inj splitB splitV Tab NTab arr)

set_option maxRecDepth 20000 in
set_option maxHeartbeats 8000000 in
theorem rmay_ok (w0 : World) (D : ByteArray → Int) (hD : DP w0 D) (i : Inf) (a : Option Addr) (c : Nat) (w : World) (hw : Below w0.heap.size w0 w) (h : InfAt w i a c) : Calls Tryd.prog 12 #[.agg (infV i a c)] w fun r w' => r = .returned (.bool (may D i)) ∧ Below w.heap.size w w' := by
  obtain ⟨p, hs, d, rs⟩ := i
  have hb0 : Below w.heap.size w (w.alloc (.cells (infV ⟨p, hs, d, rs⟩ a c) 24)) := (Below.refl _ _).alloc (Nat.le_refl _) _
  have hR : Row (w.alloc (.cells (infV ⟨p, hs, d, rs⟩ a c) 24)) w.heap.size (infV ⟨p, hs, d, rs⟩ a c) 24 := Row.new w _ _
  generalize hwB : w.alloc (.cells (infV ⟨p, hs, d, rs⟩ a c) 24) = wB at *
  obtain ⟨g, hpa⟩ := hD.ref hs h.hash wB (hw.trans (hb0.mono hw.size))
  have c1 := (hR.cell 1).trans (rfl : _ = some (Value.string hs))
  have HC : Hid (∀ wx, Below wB.heap.size wB wx → wx.cell? ⟨w.heap.size, 0, none⟩ = some (.string p) ∧ wx.cell? ⟨w.heap.size, 2, none⟩ = some (.string d) ∧ wx.cell? ⟨w.heap.size, 3, none⟩ = some (.slice a rs.length c)) := fun wx hb => ⟨((Row.below hR hb (Row.lt hR)).cell 0).trans rfl, ((Row.below hR hb (Row.lt hR)).cell 2).trans rfl, ((Row.below hR hb (Row.lt hR)).cell 3).trans rfl⟩
  have HX : Hid (∀ wx, Below wB.heap.size wB wx → Below w.heap.size w wx) := fun wx hb => hb0.trans (hb.mono hb0.size)
  obtain ⟨G, hG⟩ : ∃ G, G = arr g 32 := ⟨_, rfl⟩
  have hGs : G.size = 32 := by rw [hG, S2.arr_size]
  have hG1 : G.all (·.oneCell') = true := by rw [hG]; exact S2.arr_one _ _
  have hiG : (Tryd.prog.info? 51).map (·.size) = some G.size := by rw [hGs]; kernel_rfl
  rw [← hG] at hpa
  have HV : Hid (may D ⟨p, hs, d, rs⟩ = (decide (D hs = 0) && risR rs && (isP p && ((d.toList == []) || isP d) && rs.all isP))) := rfl
  obtain ⟨x, hx⟩ : ∃ x, x = D hs := ⟨_, rfl⟩
  rw [← hx] at hpa HV
  have HPP : Hid (∀ wx, Below w.heap.size w wx → Calls Tryd.prog 25 #[.string p] wx fun e w' => e = .returned (.bool (isP p)) ∧ Below wx.heap.size wx w') := fun wx _ => rpath_ok p wx (by have := h.path; simp only [big] at this; omega)
  have HPD : Hid (∀ wx, Below w.heap.size w wx → Calls Tryd.prog 25 #[.string d] wx fun e w' => e = .returned (.bool (isP d)) ∧ Below wx.heap.size wx w') := fun wx _ => rpath_ok d wx (by have := h.der; simp only [big] at this; omega)
  have HRR : Hid (∀ wx, Below w.heap.size w wx → Calls Tryd.prog 26 #[.slice a rs.length c] wx fun r w' => r = .returned (.bool (risR rs)) ∧ Below wx.heap.size wx w') := fun wx hb => rrises_ok a rs c wx (h.refs.keep hb)
  have HPR : Hid (∀ s ∈ rs, ∀ wx, Calls Tryd.prog 25 #[.string s] wx fun e w' => e = .returned (.bool (isP s)) ∧ Below wx.heap.size wx w') := fun s hs wx => rpath_ok s wx (by have := h.refs.each s hs; simp only [big] at this; omega)
  obtain ⟨b, o, hat, hcell⟩ := h.refs.ex
  have HCe : Hid (∀ wx, Below w.heap.size w wx → ∀ i (hi : i < rs.length), wx.cell? ⟨b, o + i, none⟩ = some (.string rs[i])) := fun wx hb i hi => (World.cell?_of_block (w := w) (hb.block b (World.block_lt_of_cell? w _ (hcell i hi)))).trans (hcell i hi)
  have hm := h.refs.le
  have hc := h.refs.cap
  unfold maxLen at hc
  obtain ⟨bp, hbp⟩ : ∃ b, b = isP p := ⟨_, rfl⟩
  obtain ⟨bd, hbd⟩ : ∃ b, b = isP d := ⟨_, rfl⟩
  obtain ⟨br, hbr⟩ : ∃ b, b = risR rs := ⟨_, rfl⟩
  rw [← hbp] at HPP HV
  rw [← hbd] at HPD HV
  rw [← hbr] at HRR HV
  obtain ⟨m, hmm⟩ : ∃ m, m = rs.length := ⟨_, rfl⟩
  have HM : Hid _ := hmm
  rw [← hmm] at HC HRR hat hm
  have hmm' := hmm.symm
  clear h hb0 hR hG hx hw hD hbp hbd hbr hcell hmm
  by_cases h0 : x = 0
  · subst h0
    cases bp with
    | false =>
      go_enter Tryd.func12, Tryd.ntmps12
      go_wp2_with fail
      refine hpa.mono ?_
      rintro e w1 ⟨rfl, hb1⟩
      have hx1 : Below w1.heap.size w1 (w1.alloc (.cells G 51)) := (Below.refl _ _).alloc (Nat.le_refl _) _
      have hb2 := hb1.trans (hx1.mono hb1.size)
      have HBb : Hid (Below wB.heap.size wB (w1.alloc (.cells G 51))) := hb2
      clear hpa hb1 hx1 hb2 c1
      have HW1 : Hid _ := HX.out _ HBb.out
      obtain ⟨d0, d2, d3⟩ := HC.out _ HBb.out
      have hc1 := HPP.out _ HW1.out
      go_wp2_with (refine wpList_store_new rfl 51 _ _ rfl w1 S2.zeros32 G 51 rfl w1.heap.size rfl rfl rfl hiG (by rw [hGs]; rfl) hG1 ?_)
      refine hc1.mono ?_
      rintro e w2 ⟨rfl, hbn⟩
      have HBw2 : Hid (Below wB.heap.size wB w2) := HBb.out.trans (hbn.mono HBb.out.size)
      clear hc1 hbn d0 d2 d3 HW1
      go_wp2
      go_ret
      exact ⟨by rw [HV.out]; simp, HX.out _ HBw2.out⟩
    | true =>
      cases hd : (d.toList == []) with
      | true =>
        rw [hd] at HV
        go_enter Tryd.func12, Tryd.ntmps12
        go_wp2_with fail
        refine hpa.mono ?_
        rintro e w1 ⟨rfl, hb1⟩
        have hx1 : Below w1.heap.size w1 (w1.alloc (.cells G 51)) := (Below.refl _ _).alloc (Nat.le_refl _) _
        have hb2 := hb1.trans (hx1.mono hb1.size)
        have HBb : Hid (Below wB.heap.size wB (w1.alloc (.cells G 51))) := hb2
        clear hpa hb1 hx1 hb2 c1
        have HW1 : Hid _ := HX.out _ HBb.out
        obtain ⟨d0, d2, d3⟩ := HC.out _ HBb.out
        have hc1 := HPP.out _ HW1.out
        go_wp2_with (refine wpList_store_new rfl 51 _ _ rfl w1 S2.zeros32 G 51 rfl w1.heap.size rfl rfl rfl hiG (by rw [hGs]; rfl) hG1 ?_)
        refine hc1.mono ?_
        rintro e w2 ⟨rfl, hbn⟩
        have HBw2 : Hid (Below wB.heap.size wB w2) := HBb.out.trans (hbn.mono HBb.out.size)
        clear hc1 hbn d0 d2 d3 HW1
        cases br with
        | false =>
          have HW2 : Hid _ := HX.out _ HBw2.out
          obtain ⟨d0, d2, d3⟩ := HC.out _ HBw2.out
          have hc2 := HRR.out _ HW2.out
          go_wp2_with (fail)
          refine hc2.mono ?_
          rintro e w8 ⟨rfl, hbn⟩
          have HBw8 : Hid (Below wB.heap.size wB w8) := HBw2.out.trans (hbn.mono HBw2.out.size)
          clear hc2 hbn d0 d2 d3 HW2
          go_wp2
          go_ret
          exact ⟨by rw [HV.out]; simp, HX.out _ HBw8.out⟩
        | true =>
          have HW2 : Hid _ := HX.out _ HBw2.out
          obtain ⟨d0, d2, d3⟩ := HC.out _ HBw2.out
          have hc2 := HRR.out _ HW2.out
          go_wp2_with (fail)
          refine hc2.mono ?_
          rintro e w8 ⟨rfl, hbn⟩
          have HBw8 : Hid (Below wB.heap.size wB w8) := HBw2.out.trans (hbn.mono HBw2.out.size)
          clear hc2 hbn d0 d2 d3 HW2
          go_wp2
          go_loopw [5] (fun iv wx => ∃ j : Nat, iv = .int .i64 j ∧ j ≤ m ∧ Hid (Below wB.heap.size wB wx) ∧ Hid (∀ q (hq : q < rs.length), q < j → isP rs[q] = true)) (fun iv _ => m - (intOf iv).toNat)
          case atStart => exact ⟨0, rfl, Nat.zero_le _, HBw8, fun q _ hq => absurd hq (by omega)⟩
          case round =>
            obtain ⟨j, rfl, hj, HBr, HZ⟩ := hrel
            obtain ⟨d0, d2, d3⟩ := HC.out wr HBr.out
            by_cases hlt : j < m
            · have hlt' : (j : Int) < (m : Int) := by omega
              obtain rfl := hat (by omega)
              have hin : j < rs.length := by rw [← HM.out]; exact hlt
              have c0 := HCe.out wr (HX.out wr HBr.out) j hin
              have hp := HPR.out rs[j] (List.getElem_mem _) wr
              obtain ⟨s, hs⟩ : ∃ s, s = rs[j] := ⟨_, rfl⟩
              rw [← hs] at c0 hp
              have HS : Hid _ := hs
              clear hs
              obtain ⟨bs, hbs⟩ : ∃ b, b = isP s := ⟨_, rfl⟩
              rw [← hbs] at hp
              have HBS : Hid _ := hbs
              clear hbs
              cases bs with
              | true =>
                go_wp2_with fail
                refine Calls.mono hp ?_
                rintro r w9 ⟨rfl, hb9⟩
                have HB9 : Hid (Below wB.heap.size wB w9) := HBr.out.trans (hb9.mono HBr.out.size)
                clear hp hb9
                go_wp2
                go_roundw
                case rel => exact ⟨j + 1, by go_num, by omega, HB9, fun q hq hqj => by
                  rcases Nat.lt_succ_iff_lt_or_eq.1 hqj with h | h
                  · exact HZ.out q hq h
                  · subst h; rw [← HS.out]; exact HBS.out.symm⟩
                case measure => simp [intOf]; omega
              | false =>
                go_wp2_with fail
                refine Calls.mono hp ?_
                rintro r w9 ⟨rfl, hb9⟩
                have HB9 : Hid (Below wB.heap.size wB w9) := HBr.out.trans (hb9.mono HBr.out.size)
                clear hp hb9
                go_wp2
                go_ret
                have hall : rs.all isP = false := by
                  cases h : rs.all isP with
                  | false => rfl
                  | true =>
                    have := List.all_eq_true.1 h _ (List.getElem_mem hin)
                    rw [← HS.out, ← HBS.out] at this
                    cases this
                exact ⟨by rw [HV.out, hall]; simp, HX.out _ HB9.out⟩
            · have hlt' : ¬ (j : Int) < (m : Int) := by omega
              have HAll : Hid (rs.all isP = true) := List.all_eq_true.2 fun s hs => by
                obtain ⟨q, hq, rfl⟩ := List.getElem_of_mem hs
                exact HZ.out q hq (by have := HM.out; omega)
              go_wp2
              go_ret
              exact ⟨by rw [HV.out, HAll.out]; simp, HX.out _ HBr.out⟩
      | false =>
        rw [hd] at HV
        cases bd with
        | false =>
          go_enter Tryd.func12, Tryd.ntmps12
          go_wp2_with fail
          refine hpa.mono ?_
          rintro e w1 ⟨rfl, hb1⟩
          have hx1 : Below w1.heap.size w1 (w1.alloc (.cells G 51)) := (Below.refl _ _).alloc (Nat.le_refl _) _
          have hb2 := hb1.trans (hx1.mono hb1.size)
          have HBb : Hid (Below wB.heap.size wB (w1.alloc (.cells G 51))) := hb2
          clear hpa hb1 hx1 hb2 c1
          have HW1 : Hid _ := HX.out _ HBb.out
          obtain ⟨d0, d2, d3⟩ := HC.out _ HBb.out
          have hc1 := HPP.out _ HW1.out
          go_wp2_with (refine wpList_store_new rfl 51 _ _ rfl w1 S2.zeros32 G 51 rfl w1.heap.size rfl rfl rfl hiG (by rw [hGs]; rfl) hG1 ?_)
          refine hc1.mono ?_
          rintro e w2 ⟨rfl, hbn⟩
          have HBw2 : Hid (Below wB.heap.size wB w2) := HBb.out.trans (hbn.mono HBb.out.size)
          clear hc1 hbn d0 d2 d3 HW1
          have HW2 : Hid _ := HX.out _ HBw2.out
          obtain ⟨d0, d2, d3⟩ := HC.out _ HBw2.out
          have hc2 := HPD.out _ HW2.out
          go_wp2_with (fail)
          refine hc2.mono ?_
          rintro e w3 ⟨rfl, hbn⟩
          have HBw3 : Hid (Below wB.heap.size wB w3) := HBw2.out.trans (hbn.mono HBw2.out.size)
          clear hc2 hbn d0 d2 d3 HW2
          go_wp2
          go_ret
          exact ⟨by rw [HV.out]; simp, HX.out _ HBw3.out⟩
        | true =>
          go_enter Tryd.func12, Tryd.ntmps12
          go_wp2_with fail
          refine hpa.mono ?_
          rintro e w1 ⟨rfl, hb1⟩
          have hx1 : Below w1.heap.size w1 (w1.alloc (.cells G 51)) := (Below.refl _ _).alloc (Nat.le_refl _) _
          have hb2 := hb1.trans (hx1.mono hb1.size)
          have HBb : Hid (Below wB.heap.size wB (w1.alloc (.cells G 51))) := hb2
          clear hpa hb1 hx1 hb2 c1
          have HW1 : Hid _ := HX.out _ HBb.out
          obtain ⟨d0, d2, d3⟩ := HC.out _ HBb.out
          have hc1 := HPP.out _ HW1.out
          go_wp2_with (refine wpList_store_new rfl 51 _ _ rfl w1 S2.zeros32 G 51 rfl w1.heap.size rfl rfl rfl hiG (by rw [hGs]; rfl) hG1 ?_)
          refine hc1.mono ?_
          rintro e w2 ⟨rfl, hbn⟩
          have HBw2 : Hid (Below wB.heap.size wB w2) := HBb.out.trans (hbn.mono HBb.out.size)
          clear hc1 hbn d0 d2 d3 HW1
          have HW2 : Hid _ := HX.out _ HBw2.out
          obtain ⟨d0, d2, d3⟩ := HC.out _ HBw2.out
          have hc2 := HPD.out _ HW2.out
          go_wp2_with (fail)
          refine hc2.mono ?_
          rintro e w3 ⟨rfl, hbn⟩
          have HBw3 : Hid (Below wB.heap.size wB w3) := HBw2.out.trans (hbn.mono HBw2.out.size)
          clear hc2 hbn d0 d2 d3 HW2
          cases br with
          | false =>
            have HW3 : Hid _ := HX.out _ HBw3.out
            obtain ⟨d0, d2, d3⟩ := HC.out _ HBw3.out
            have hc3 := HRR.out _ HW3.out
            go_wp2_with (fail)
            refine hc3.mono ?_
            rintro e w8 ⟨rfl, hbn⟩
            have HBw8 : Hid (Below wB.heap.size wB w8) := HBw3.out.trans (hbn.mono HBw3.out.size)
            clear hc3 hbn d0 d2 d3 HW3
            go_wp2
            go_ret
            exact ⟨by rw [HV.out]; simp, HX.out _ HBw8.out⟩
          | true =>
            have HW3 : Hid _ := HX.out _ HBw3.out
            obtain ⟨d0, d2, d3⟩ := HC.out _ HBw3.out
            have hc3 := HRR.out _ HW3.out
            go_wp2_with (fail)
            refine hc3.mono ?_
            rintro e w8 ⟨rfl, hbn⟩
            have HBw8 : Hid (Below wB.heap.size wB w8) := HBw3.out.trans (hbn.mono HBw3.out.size)
            clear hc3 hbn d0 d2 d3 HW3
            go_wp2
            go_loopw [5] (fun iv wx => ∃ j : Nat, iv = .int .i64 j ∧ j ≤ m ∧ Hid (Below wB.heap.size wB wx) ∧ Hid (∀ q (hq : q < rs.length), q < j → isP rs[q] = true)) (fun iv _ => m - (intOf iv).toNat)
            case atStart => exact ⟨0, rfl, Nat.zero_le _, HBw8, fun q _ hq => absurd hq (by omega)⟩
            case round =>
              obtain ⟨j, rfl, hj, HBr, HZ⟩ := hrel
              obtain ⟨d0, d2, d3⟩ := HC.out wr HBr.out
              by_cases hlt : j < m
              · have hlt' : (j : Int) < (m : Int) := by omega
                obtain rfl := hat (by omega)
                have hin : j < rs.length := by rw [← HM.out]; exact hlt
                have c0 := HCe.out wr (HX.out wr HBr.out) j hin
                have hp := HPR.out rs[j] (List.getElem_mem _) wr
                obtain ⟨s, hs⟩ : ∃ s, s = rs[j] := ⟨_, rfl⟩
                rw [← hs] at c0 hp
                have HS : Hid _ := hs
                clear hs
                obtain ⟨bs, hbs⟩ : ∃ b, b = isP s := ⟨_, rfl⟩
                rw [← hbs] at hp
                have HBS : Hid _ := hbs
                clear hbs
                cases bs with
                | true =>
                  go_wp2_with fail
                  refine Calls.mono hp ?_
                  rintro r w9 ⟨rfl, hb9⟩
                  have HB9 : Hid (Below wB.heap.size wB w9) := HBr.out.trans (hb9.mono HBr.out.size)
                  clear hp hb9
                  go_wp2
                  go_roundw
                  case rel => exact ⟨j + 1, by go_num, by omega, HB9, fun q hq hqj => by
                    rcases Nat.lt_succ_iff_lt_or_eq.1 hqj with h | h
                    · exact HZ.out q hq h
                    · subst h; rw [← HS.out]; exact HBS.out.symm⟩
                  case measure => simp [intOf]; omega
                | false =>
                  go_wp2_with fail
                  refine Calls.mono hp ?_
                  rintro r w9 ⟨rfl, hb9⟩
                  have HB9 : Hid (Below wB.heap.size wB w9) := HBr.out.trans (hb9.mono HBr.out.size)
                  clear hp hb9
                  go_wp2
                  go_ret
                  have hall : rs.all isP = false := by
                    cases h : rs.all isP with
                    | false => rfl
                    | true =>
                      have := List.all_eq_true.1 h _ (List.getElem_mem hin)
                      rw [← HS.out, ← HBS.out] at this
                      cases this
                  exact ⟨by rw [HV.out, hall]; simp, HX.out _ HB9.out⟩
              · have hlt' : ¬ (j : Int) < (m : Int) := by omega
                have HAll : Hid (rs.all isP = true) := List.all_eq_true.2 fun s hs => by
                  obtain ⟨q, hq, rfl⟩ := List.getElem_of_mem hs
                  exact HZ.out q hq (by have := HM.out; omega)
                go_wp2
                go_ret
                exact ⟨by rw [HV.out, HAll.out]; simp, HX.out _ HBr.out⟩
  · have hx0 : (x == 0) = false := by simpa using h0
    have hx1 : decide (x = 0) = false := decide_eq_false h0
    have hx2 : (x != 0) = true := by simpa using h0
    rw [hx1] at HV
    go_enter Tryd.func12, Tryd.ntmps12
    go_wp2_with fail
    refine hpa.mono ?_
    rintro e w1 ⟨rfl, hb1⟩
    have hx1 : Below w1.heap.size w1 (w1.alloc (.cells G 51)) := (Below.refl _ _).alloc (Nat.le_refl _) _
    have hb2 := hb1.trans (hx1.mono hb1.size)
    have HBb : Hid (Below wB.heap.size wB (w1.alloc (.cells G 51))) := hb2
    clear hpa hb1 hx1 hb2 c1
    go_upto_region 2 with (refine wpList_store_new rfl 51 _ _ rfl w1 S2.zeros32 G 51 rfl w1.heap.size rfl rfl rfl hiG (by rw [hGs]; rfl) hG1 ?_)
    go_wp2
    go_ret
    exact ⟨by rw [HV.out]; rfl, HX.out _ HBb.out⟩
end Go.Proofs.YthidlckipiamkaaDoor
