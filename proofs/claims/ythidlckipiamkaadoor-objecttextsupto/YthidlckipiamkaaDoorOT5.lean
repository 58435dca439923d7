/- My own work: an info's text, by the document's own words. -/
import Derived.Test.YthidlckipiamkaaDoorOT4
namespace Go.Proofs.YthidlckipiamkaaDoor
open Go.RowKit
open S2 (bl bl_len bl_inj splitB splitV Tab NTab arr)

theorem cat_bl4 (a b c d : ByteArray) : bl (a ++ b ++ c ++ d) = bl a ++ bl b ++ bl c ++ bl d := by simp [bl, ByteArray.data_append]
theorem cat_bl3 (a b c : ByteArray) : bl (a ++ b ++ c) = bl a ++ bl b ++ bl c := by simp [bl, ByteArray.data_append]
set_option maxRecDepth 20000 in
set_option maxHeartbeats 8000000 in
theorem rtext_ok (w0 : World) (D : ByteArray → Int) (hD : DP w0 D) (i : Inf) (a : Option Addr) (c : Nat) (w : World) (hw : Below w0.heap.size w0 w) (h : InfAt w i a c) : Calls Tryd.prog 5 #[.agg (infV i a c)] w (TextPost D i w) := by
  have hb0 : Below w.heap.size w (w.alloc (.cells (infV i a c) 24)) := (Below.refl _ _).alloc (Nat.le_refl _) _
  have HR : Hid (Row (w.alloc (.cells (infV i a c) 24)) w.heap.size (infV i a c) 24) := Row.new w _ _
  have hmb := rmay_ok w0 D hD i a c _ (hw.trans (hb0.mono hw.size)) (h.keep hb0)
  have HMF : Hid (may D i = true → _) := fun hm => may_facts hD h.hash hm
  generalize hwB : w.alloc (.cells (infV i a c) 24) = wB at *
  have HB : Hid _ := hb0
  have HInf : Hid (InfAt w i a c) := h
  clear h hb0 hw hD
  cases hm : may D i with
  | false =>
    rw [hm] at hmb
    have HV : Hid (may D i = false) := hm
    clear hm
    go_enter Tryd.func5, Tryd.ntmps5
    go_wp2_with (refine wpList_load_row rfl 24 _ rfl w.heap.size rfl 24 (infV i a c) (0, 0) _ HR.out Tryd.underlying24 rfl (infV_size i a c) ?_)
    refine hmb.mono ?_
    rintro e w1 ⟨rfl, hb1⟩
    have HB1 : Hid (Below w.heap.size w w1) := HB.out.trans (hb1.mono HB.out.size)
    clear hmb hb1
    go_wp2
    go_ret2
    exact ⟨by rw [HV.out]; rfl, HB1.out⟩
  | true =>
    rw [hm] at hmb
    obtain ⟨f1, f2, f3, f4, f5, f6⟩ := HMF.out hm
    have HV : Hid (may D i = true) := hm
    have HF6 : Hid _ := f6
    obtain ⟨p, hs, d, rs⟩ := i
    simp only at f2 f3 f5
    obtain ⟨b, o, hat, hcell⟩ := HInf.out.refs.ex
    have hc := HInf.out.refs.cap
    have hle := HInf.out.refs.le
    simp only at hat hle
    unfold maxLen at hc
    have HCe : Hid (∀ wx, Below w.heap.size w wx → ∀ j (hj : j < rs.length), wx.cell? ⟨b, o + j, none⟩ = some (.string rs[j])) := fun wx hb j hj => (World.cell?_of_block (w := w) (hb.block b (World.block_lt_of_cell? w _ (hcell j hj)))).trans (hcell j hj)
    have HC : Hid (∀ wx, Below wB.heap.size wB wx → wx.cell? ⟨w.heap.size, 1, none⟩ = some (.string hs) ∧ wx.cell? ⟨w.heap.size, 2, none⟩ = some (.string d) ∧ wx.cell? ⟨w.heap.size, 3, none⟩ = some (.slice a rs.length c)) := fun wx hb => ⟨((Row.below HR.out hb (Row.lt HR.out)).cell 1).trans rfl, ((Row.below HR.out hb (Row.lt HR.out)).cell 2).trans rfl, ((Row.below HR.out hb (Row.lt HR.out)).cell 3).trans rfl⟩
    have hd67 : d.size ≤ 67 := by
      rcases f5 with h | h
      · rw [beq_nil] at h
        have := of_decide_eq_true h
        omega
      · exact isP_len h
    obtain ⟨m, hmm⟩ : ∃ m, m = rs.length := ⟨_, rfl⟩
    have HM : Hid _ := hmm
    have hm1024 : m ≤ 1024 := by omega
    rw [← hmm] at hat hle
    have HMM : Hid _ := hmm.symm
    have HLen : Hid (∀ j, (refsL (rs.take j)).length ≤ j * 72) := refsL_len HF6.out
    clear hm f1 f3 f4 f5 f6 hcell hmm HMF
    cases hd : (d.toList == []) with
    | true =>
      have HX : Hid (txt ⟨p, hs, d, rs⟩ = lineL WH (bl hs) ++ refsL rs) := by show _ = _; unfold txt; simp only [hd, if_true, List.append_nil]
      obtain ⟨T0, hT0⟩ : ∃ T, T = (⟨#[104, 97, 115, 104, 32]⟩ : ByteArray) ++ hs ++ ⟨#[10]⟩ := ⟨_, rfl⟩
      have hb_0 : bl T0 = lineL WH (bl hs) := by rw [hT0, cat_bl3]; simp [lineL, bl]
      have hs_0 : T0.size = 58 := by rw [← bl_len, hb_0, lineL_len, bl_len, f2]; rfl
      have hT0' := hT0.symm
      have HS0 : Hid (T0.size ≤ 134) := by show _ ≤ _; omega
      have HB0 : Hid (bl T0 = lineL WH (bl hs)) := hb_0
      have hsz0 : hs.size ≤ 100 := by omega
      clear hT0 hb_0 f2
      go_enter Tryd.func5, Tryd.ntmps5
      go_wp2_with (refine wpList_load_row rfl 24 _ rfl w.heap.size rfl 24 (infV ⟨p, hs, d, rs⟩ a c) (0, 0) _ HR.out Tryd.underlying24 rfl (infV_size ⟨p, hs, d, rs⟩ a c) ?_)
      refine hmb.mono ?_
      rintro e w1 ⟨rfl, hb1⟩
      obtain ⟨c1, c2, c3⟩ := HC.out w1 hb1
      have HB1 : Hid _ := hb1
      clear hmb hb1 c3
      go_wp2
      clear c1 c2
      go_loopw [4, 5] (fun v iv wx => ∃ (j : Nat) (S : ByteArray), v = .string S ∧ iv = .int .i64 j ∧ j ≤ m ∧ Hid (bl S = lineL WH (bl hs) ++ refsL (rs.take j)) ∧ Hid (wx = w1)) (fun _ iv _ => m - (intOf iv).toNat)
      case atStart => exact ⟨0, T0, rfl, rfl, Nat.zero_le _, by show _ = _; rw [HB0.out]; simp [refsL], rfl⟩
      case round =>
        obtain ⟨j, S, rfl, rfl, hj, HXe, HWe⟩ := hrel
        obtain ⟨d1, d2, d3⟩ := HC.out w1 HB1.out
        rw [HMM.out] at d3
        rw [← HWe.out] at d3
        by_cases hlt : j < m
        · have hlt' : (j : Int) < (m : Int) := by omega
          obtain rfl := hat (by omega)
          have hin : j < rs.length := by rw [← HM.out]; exact hlt
          have hbw := HB.out.trans (HB1.out.mono HB.out.size)
          have c0 := HCe.out w1 hbw j hin
          rw [← HWe.out] at c0
          have hsz := isP_len (List.all_eq_true.1 HF6.out _ (List.getElem_mem hin))
          have hsl : S.size ≤ 134 + j * 72 := by
            have e1 := bl_len S
            rw [HXe.out, ← HB0.out, List.length_append, bl_len] at e1
            have := HLen.out j
            have := HS0.out
            omega
          obtain ⟨s, hs'⟩ : ∃ s, s = rs[j] := ⟨_, rfl⟩
          rw [← hs'] at c0 hsz
          obtain ⟨T, hT⟩ : ∃ T, T = S ++ ⟨#[114, 101, 102, 32]⟩ ++ s ++ ⟨#[10]⟩ := ⟨_, rfl⟩
          have HTk : Hid (bl T = lineL WH (bl hs) ++ refsL (rs.take (j + 1))) := by
            show _ = _
            rw [hT, cat_bl4, refsL_take rs j hin, HXe.out, hs']
            simp [lineL, bl]
          have hT' := hT.symm
          clear hs' hbw hT d1 d2
          go_wp2
          go_roundw
          case rel => exact ⟨j + 1, T, rfl, by go_num, by omega, HTk, HWe⟩
          case measure => simp [intOf]; omega
        · have hlt' : ¬ (j : Int) < (m : Int) := by omega
          have HE : Hid (S = ⟨(txt ⟨p, hs, d, rs⟩).toArray⟩) := by
            refine bl_inj ?_
            rw [HXe.out, List.take_of_length_le (by have := HM.out; omega), ← HX.out]
          have HBE : Hid (Below w.heap.size w wr) := by
            show Below _ _ _
            rw [HWe.out]
            exact HB.out.trans (HB1.out.mono HB.out.size)
          clear d1 d2
          go_wp2
          go_ret2
          exact ⟨by rw [HV.out, ← HE.out]; rfl, HBE.out⟩
    | false =>
      have HX : Hid (txt ⟨p, hs, d, rs⟩ = lineL WH (bl hs) ++ lineL WD (bl d) ++ refsL rs) := by show _ = _; unfold txt; simp only [hd, Bool.false_eq_true, if_false]
      obtain ⟨T0, hT0⟩ : ∃ T, T = (⟨#[104, 97, 115, 104, 32]⟩ : ByteArray) ++ hs ++ ⟨#[10]⟩ := ⟨_, rfl⟩
      have hb_0 : bl T0 = lineL WH (bl hs) := by rw [hT0, cat_bl3]; simp [lineL, bl]
      have hs_0 : T0.size = 58 := by rw [← bl_len, hb_0, lineL_len, bl_len, f2]; rfl
      have hT0' := hT0.symm
      obtain ⟨T1, hT1⟩ : ∃ T, T = T0 ++ ⟨#[100, 101, 114, 105, 118, 101, 114, 32]⟩ ++ d ++ ⟨#[10]⟩ := ⟨_, rfl⟩
      have hb_1 : bl T1 = lineL WH (bl hs) ++ lineL WD (bl d) := by rw [hT1, cat_bl4, hb_0]; simp [lineL, bl]
      have hs_1 : T1.size ≤ 134 := by rw [← bl_len, hb_1, List.length_append, lineL_len, lineL_len, bl_len, bl_len, f2]; have e1 : WH.length = 4 := rfl; have e2 : WD.length = 7 := rfl; omega
      have hT1' := hT1.symm
      have HS0 : Hid (T1.size ≤ 134) := by show _ ≤ _; omega
      have HB0 : Hid (bl T1 = lineL WH (bl hs) ++ lineL WD (bl d)) := hb_1
      have hsz0 : hs.size ≤ 100 := by omega
      clear hT0 hb_0 f2 hT1 hb_1
      go_enter Tryd.func5, Tryd.ntmps5
      go_wp2_with (refine wpList_load_row rfl 24 _ rfl w.heap.size rfl 24 (infV ⟨p, hs, d, rs⟩ a c) (0, 0) _ HR.out Tryd.underlying24 rfl (infV_size ⟨p, hs, d, rs⟩ a c) ?_)
      refine hmb.mono ?_
      rintro e w1 ⟨rfl, hb1⟩
      obtain ⟨c1, c2, c3⟩ := HC.out w1 hb1
      have HB1 : Hid _ := hb1
      clear hmb hb1 c3
      go_wp2
      clear c1 c2
      go_loopw [4, 5] (fun v iv wx => ∃ (j : Nat) (S : ByteArray), v = .string S ∧ iv = .int .i64 j ∧ j ≤ m ∧ Hid (bl S = lineL WH (bl hs) ++ lineL WD (bl d) ++ refsL (rs.take j)) ∧ Hid (wx = w1)) (fun _ iv _ => m - (intOf iv).toNat)
      case atStart => exact ⟨0, T1, rfl, rfl, Nat.zero_le _, by show _ = _; rw [HB0.out]; simp [refsL], rfl⟩
      case round =>
        obtain ⟨j, S, rfl, rfl, hj, HXe, HWe⟩ := hrel
        obtain ⟨d1, d2, d3⟩ := HC.out w1 HB1.out
        rw [HMM.out] at d3
        rw [← HWe.out] at d3
        by_cases hlt : j < m
        · have hlt' : (j : Int) < (m : Int) := by omega
          obtain rfl := hat (by omega)
          have hin : j < rs.length := by rw [← HM.out]; exact hlt
          have hbw := HB.out.trans (HB1.out.mono HB.out.size)
          have c0 := HCe.out w1 hbw j hin
          rw [← HWe.out] at c0
          have hsz := isP_len (List.all_eq_true.1 HF6.out _ (List.getElem_mem hin))
          have hsl : S.size ≤ 134 + j * 72 := by
            have e1 := bl_len S
            rw [HXe.out, ← HB0.out, List.length_append, bl_len] at e1
            have := HLen.out j
            have := HS0.out
            omega
          obtain ⟨s, hs'⟩ : ∃ s, s = rs[j] := ⟨_, rfl⟩
          rw [← hs'] at c0 hsz
          obtain ⟨T, hT⟩ : ∃ T, T = S ++ ⟨#[114, 101, 102, 32]⟩ ++ s ++ ⟨#[10]⟩ := ⟨_, rfl⟩
          have HTk : Hid (bl T = lineL WH (bl hs) ++ lineL WD (bl d) ++ refsL (rs.take (j + 1))) := by
            show _ = _
            rw [hT, cat_bl4, refsL_take rs j hin, HXe.out, hs']
            simp [lineL, bl]
          have hT' := hT.symm
          clear hs' hbw hT d1 d2
          go_wp2
          go_roundw
          case rel => exact ⟨j + 1, T, rfl, by go_num, by omega, HTk, HWe⟩
          case measure => simp [intOf]; omega
        · have hlt' : ¬ (j : Int) < (m : Int) := by omega
          have HE : Hid (S = ⟨(txt ⟨p, hs, d, rs⟩).toArray⟩) := by
            refine bl_inj ?_
            rw [HXe.out, List.take_of_length_le (by have := HM.out; omega), ← HX.out]
          have HBE : Hid (Below w.heap.size w wr) := by
            show Below _ _ _
            rw [HWe.out]
            exact HB.out.trans (HB1.out.mono HB.out.size)
          clear d1 d2
          go_wp2
          go_ret2
          exact ⟨by rw [HV.out, ← HE.out]; rfl, HBE.out⟩
end Go.Proofs.YthidlckipiamkaaDoor
