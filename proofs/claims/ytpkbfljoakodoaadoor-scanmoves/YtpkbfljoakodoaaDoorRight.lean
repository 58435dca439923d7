/- The walks of rightEach, census and Right: what is wrong with a node and all beneath it. -/
import Derived.Test.YtpkbfljoakodoaaDoorEach
namespace Go.Proofs.YtpkbfljoakodoaaDoor
open Go.RowKit

theorem NodeAt.one {w : World} {n : Nd} {C : Array Value} (h : NodeAt w n C) : C.all (fun x => x.oneCell') = true := by
  cases h
  exact nodeV_one _ _ _ _ _ _ _ _ _ _ _
mutual
/-- What is wrong with the first node that is wrong by itself. -/
def eachE : Nd → Int | .mk k e d ns ks => if aloneE (.mk k e d ns ks) ≠ 0 then aloneE (.mk k e d ns ks) else eachL ks
def eachL : List Nd → Int | [] => 0 | k :: ks => if eachE k ≠ 0 then eachE k else eachL ks
end
mutual
/-- The nodes counted, and whether they are few enough and not too deep. -/
def cen : Nd → Nat → Nat → Nat × Bool | .mk _ _ _ _ ks, c, l => if 1024 < c + 1 ∨ 32 < l then (c + 1, false) else cenL ks (c + 1) (l + 1)
def cenL : List Nd → Nat → Nat → Nat × Bool | [], c, _ => (c, true) | k :: ks, c, l => if (cen k c l).2 = true then cenL ks (cen k c l).1 l else ((cen k c l).1, false)
end
theorem eachL_next (ks : List Nd) (i : Nat) (hi : i < ks.length) : eachL (ks.drop i) = if eachE ks[i] ≠ 0 then eachE ks[i] else eachL (ks.drop (i + 1)) := by
  rw [List.drop_eq_getElem_cons hi]
  conv => lhs; unfold eachL
theorem cenL_next (ks : List Nd) (c l i : Nat) (hi : i < ks.length) : cenL (ks.drop i) c l = if (cen ks[i] c l).2 = true then cenL (ks.drop (i + 1)) (cen ks[i] c l).1 l else ((cen ks[i] c l).1, false) := by
  rw [List.drop_eq_getElem_cons hi]
  conv => lhs; unfold cenL
mutual
theorem cen_bd : ∀ (n : Nd) (c l : Nat), c ≤ 1024 → (cen n c l).1 ≤ 1025 ∧ ((cen n c l).2 = true → (cen n c l).1 ≤ 1024)
  | .mk _ _ _ _ ks, c, l, h => by
    unfold cen
    split
    · exact ⟨by simp only; omega, fun h => by simp at h⟩
    · exact cenL_bd ks (c + 1) (l + 1) (by omega)
theorem cenL_bd : ∀ (ks : List Nd) (c l : Nat), c ≤ 1024 → (cenL ks c l).1 ≤ 1025 ∧ ((cenL ks c l).2 = true → (cenL ks c l).1 ≤ 1024)
  | [], c, l, h => by unfold cenL; exact ⟨by simp only; omega, fun _ => h⟩
  | k :: ks, c, l, h => by
    unfold cenL
    have h1 := cen_bd k c l h
    split
    · rename_i h2
      exact cenL_bd ks _ l (h1.2 h2)
    · exact ⟨h1.1, fun h => by simp at h⟩
end
mutual
theorem cen_iff : ∀ (n : Nd) (c l : Nat), 1 ≤ l → ((cen n c l).2 = true ↔ l + n.height ≤ 33 ∧ c + n.count ≤ 1024) ∧ ((cen n c l).2 = true → (cen n c l).1 = c + n.count)
  | .mk _ _ _ _ ks, c, l, hl => by
    unfold cen
    simp only [Nd.height, Nd.count]
    split
    · rename_i h
      refine ⟨⟨fun h => by simp at h, fun h2 => ?_⟩, fun h => by simp at h⟩
      rcases h with h | h <;> omega
    · rename_i h
      have := cenL_iff ks (c + 1) (l + 1) (by omega)
      refine ⟨this.1.trans ⟨fun h2 => ⟨?_, by omega⟩, fun h2 => ⟨?_, by omega⟩⟩, fun h2 => by rw [this.2 h2]; omega⟩
      · rcases h2.1 with h3 | h3
        · subst h3
          simp only [Nd.heightL]
          omega
        · omega
      · exact .inr (by omega)
theorem cenL_iff : ∀ (ks : List Nd) (c l : Nat), 1 ≤ l → ((cenL ks c l).2 = true ↔ (ks = [] ∨ l + Nd.heightL ks ≤ 33) ∧ c + Nd.countL ks ≤ max c 1024) ∧ ((cenL ks c l).2 = true → (cenL ks c l).1 = c + Nd.countL ks)
  | [], c, l, hl => by
    unfold cenL
    simp only [Nd.countL]
    simp
    omega
  | k :: ks, c, l, hl => by
    unfold cenL
    have h1 := cen_iff k c l hl
    have hp := k.count_pos
    simp only [Nd.countL, Nd.heightL]
    split
    · rename_i h2
      have h3 := cenL_iff ks (cen k c l).1 l hl
      have h4 := h1.2 h2
      have h5 := h1.1.1 h2
      rw [h4] at h3 ⊢
      refine ⟨h3.1.trans ⟨fun h6 => ⟨.inr ?_, by omega⟩, fun h6 => ⟨?_, by omega⟩⟩, fun h6 => by rw [h3.2 h6]; omega⟩
      · rcases h6.1 with h7 | h7
        · subst h7
          simp only [Nd.heightL]
          omega
        · omega
      · rcases h6.1 with h7 | h7
        · cases h7
        · exact .inr (by omega)
    · rename_i h2
      refine ⟨⟨fun h => by simp at h, fun h3 => ?_⟩, fun h => by simp at h⟩
      exfalso
      apply h2
      rw [h1.1]
      rcases h3.1 with h4 | h4
      · cases h4
      · omega
end

set_option maxRecDepth 20000 in
set_option maxHeartbeats 2000000 in
theorem rightEach_step (N : Nat) (IH : ∀ n : Nd, n.count ≤ N → n.count ≤ 16000 → ∀ (w : World) (C : Array Value), NodeAt w n C → Calls Tryd.prog 46 #[.agg C] w fun e w' => e = .returned (.int .i64 (eachE n)) ∧ Below w.heap.size w w')
    (n : Nd) (hN : n.count ≤ N + 1) (h6 : n.count ≤ 16000) (w : World) (C : Array Value) (h : NodeAt w n C) : Calls Tryd.prog 46 #[.agg C] w fun e w' => e = .returned (.int .i64 (eachE n)) ∧ Below w.heap.size w w' := by
  have hb0 : Below w.heap.size w (w.alloc (.cells C 26)) := (Below.refl _ _).alloc (Nat.le_refl _) _
  have HR : Hid _ := Row.new w C 26
  have HAl : Hid _ := rightAlone_ok n _ C (h.keep hb0) h6
  have hsi : (Tryd.prog.info? 26).map (·.size) = some C.size := by rw [infoN, h.size]
  cases h with
  | @mk k e dt ns ks da dc na nc ka kb koff kc Cs hk hdt hn hks each =>
  have HK : Hid (∀ w', Below w.heap.size w w' → KidsAt w' ka kb koff ks.length kc Cs) := fun w' hb => hks.keep hb
  have HE : Hid (∀ w', Below w.heap.size w w' → ∀ i (h : i < ks.length), NodeAt w' ks[i] (Cs i)) := fun w' hb i h => (each i h).keep hb
  have hcap := hks.cap
  have hle := hks.le
  have hat := hks.at'
  unfold maxLen at hcap
  have HN : Hid _ := hN
  have H6 : Hid (Nd.countL ks ≤ 16000) := by simp only [Nd.count] at h6; show _ ≤ _; omega
  have HIH : Hid _ := IH
  obtain ⟨ae, hae⟩ : ∃ ae, ae = aloneE (.mk k e dt ns ks) := ⟨_, rfl⟩
  have hee : eachE (.mk k e dt ns ks) = if ae ≠ 0 then ae else eachL ks := by rw [hae]; unfold eachE; rfl
  rw [← hae] at HAl
  have HEE : Hid _ := hee
  obtain ⟨eE, heE⟩ : ∃ eE, eE = eachE (.mk k e dt ns ks) := ⟨_, rfl⟩
  rw [← heE] at HEE ⊢
  clear hks each hdt hn hN IH hee hae heE h6 hk
  go_enter Tryd.func46, Tryd.ntmps46
  generalize hwB : w.alloc (.cells (nodeV k e da dt.size dc na ns.length nc ka ks.length kc) 26) = wB at *
  go_wp2_with (refine wpList_load_row rfl 26 _ rfl w.heap.size rfl 26 _ (0, 0) _ HR.out Tryd.underlying26 rfl hsi ?_)
  refine Calls.mono HAl.out ?_
  rintro e w1 ⟨rfl, hb1⟩
  clear HAl
  have hB1 : Hid (Below w.heap.size w w1) := hb0.trans (hb1.mono hb0.size)
  have hR1 : Row w1 w.heap.size _ 26 := Row.below HR.out hb1 (Row.lt HR.out)
  by_cases ha0 : ae = 0
  · subst ha0
    have HEE' : Hid (eE = eachL ks) := by
      show eE = _
      rw [show eE = _ from HEE.out, if_neg (by simp)]
    clear HEE
    have c4 := (hR1.cell 4).trans (rfl : _ = some (Value.slice ka ks.length kc))
    go_wp2
    go_loopw [15] (fun iv wx => ∃ i : Nat, iv = .int .i64 i ∧ i ≤ ks.length ∧ Hid (eachL (ks.drop i) = eE) ∧ Hid (Below w.heap.size w wx)) (fun iv _ => ks.length - (intOf iv).toNat)
    case atStart => exact ⟨0, rfl, Nat.zero_le _, HEE'.out.symm, hB1⟩
    case round =>
      obtain ⟨i, rfl, hi, hL, hB⟩ := hrel
      by_cases hlt : i < ks.length
      · have hlt' : (i : Int) < (ks.length : Int) := by omega
        obtain rfl := hat (by omega)
        have HRG : Hid _ := (HK.out wr hB.out).range i hlt
        have hsi2 : (Tryd.prog.info? 26).map (·.size) = some (Cs i).toList.length := by rw [infoN, Array.length_toList, (HK.out wr hB.out).size i hlt]
        have hsi3 : (Tryd.prog.info? 26).map (·.size) = some (Cs i).size := by rw [infoN, (HK.out wr hB.out).size i hlt]
        have hs5 : (Cs i).size = 5 := (HK.out wr hB.out).size i hlt
        have hone : (Cs i).all (fun x => x.oneCell') = true := (HE.out wr hB.out i hlt).one
        have hbA : Below wr.heap.size wr (wr.alloc (.cells (Cs i) 26)) := (Below.refl _ _).alloc (Nat.le_refl _) _
        have HRA : Hid _ := Row.new wr (Cs i) 26
        have hBA : Hid (Below w.heap.size w (wr.alloc (.cells (Cs i) 26))) := hB.out.trans (hbA.mono hB.out.size)
        have HC : Hid _ := HIH.out ks[i] (Nd.kid_lt HN.out i hlt) (by have := Nd.countL_at ks i hlt; have := H6.out; omega) _ (Cs i) (HE.out _ hBA.out i hlt)
        have hnx := eachL_next ks i hlt
        obtain ⟨te, hte⟩ : ∃ te, te = eachE ks[i] := ⟨_, rfl⟩
        rw [← hte] at HC hnx
        have HNX : Hid _ := hnx
        clear hte hnx hbA
        go_wp2_with (first
          | (refine wpList_load_mid rfl 26 _ rfl kb (koff + i * 5) rfl (Cs i).toList _ HRG.out Tryd.underlying26 rfl hsi2 ?_; simp only [Array.toArray_toList])
          | refine wpList_store_new rfl 26 _ _ rfl wr _ (Cs i) 26 rfl wr.heap.size rfl rfl rfl hsi3 hs5.symm hone ?_
          | refine wpList_load_row rfl 26 _ rfl wr.heap.size rfl 26 (Cs i) (0, 0) _ HRA.out Tryd.underlying26 rfl hsi3 ?_)
        refine Calls.mono HC.out ?_
        rintro e w2 ⟨rfl, hb2⟩
        have hB2 : Hid (Below w.heap.size w w2) := hBA.out.trans (hb2.mono hBA.out.size)
        clear HC HRG HRA hb2
        by_cases ht0 : te = 0
        · subst ht0
          have HL' : Hid (eachL (ks.drop (i + 1)) = eE) := by
            show _ = _
            rw [← show eachL (ks.drop i) = eE from hL.out, show eachL (ks.drop i) = _ from HNX.out, if_neg (by simp)]
          clear hL HNX
          go_wp2
          go_roundw
          case rel => exact ⟨i + 1, by go_num, by omega, HL', hB2⟩
          case measure => simp [intOf]; omega
        · have HV : Hid (eE = te) := by
            show _ = _
            rw [← show eachL (ks.drop i) = eE from hL.out, show eachL (ks.drop i) = _ from HNX.out, if_pos ht0]
          clear hL HNX
          go_wp2
          go_ret
          exact ⟨by rw [show eE = te from HV.out] <;> rfl, hB2.out⟩
      · have hlt' : ¬ (i : Int) < (ks.length : Int) := by omega
        have HV : Hid (eE = 0) := by
          show _ = _
          rw [← show eachL (ks.drop i) = eE from hL.out, List.drop_eq_nil_of_le (by omega)]
          unfold eachL
          rfl
        clear hL
        go_wp2
        go_ret
        exact ⟨by rw [show eE = 0 from HV.out] <;> rfl, hB.out⟩
  · have HV : Hid (eE = ae) := by
      show eE = _
      rw [show eE = _ from HEE.out, if_pos ha0]
    clear HEE
    go_wp2
    go_ret
    exact ⟨by rw [show eE = ae from HV.out] <;> rfl, hB1.out⟩
theorem rightEach_ok (n : Nd) (w : World) (C : Array Value) (h : NodeAt w n C) (hc : n.count ≤ 16000) : Calls Tryd.prog 46 #[.agg C] w fun e w' => e = .returned (.int .i64 (eachE n)) ∧ Below w.heap.size w w' := by
  have key : ∀ N : Nat, ∀ n : Nd, n.count ≤ N → n.count ≤ 16000 → ∀ (w : World) (C : Array Value), NodeAt w n C → Calls Tryd.prog 46 #[.agg C] w fun e w' => e = .returned (.int .i64 (eachE n)) ∧ Below w.heap.size w w' := by
    intro N
    induction N with
    | zero => intro n hn; have := n.count_pos; omega
    | succ N ih => exact rightEach_step N ih
  exact key n.count n (Nat.le_refl _) hc w C h
end Go.Proofs.YtpkbfljoakodoaaDoor
