/- The walks of the document's size and Right. -/
import Derived.Test.YtpkbfljoakodoaaDoorOne
namespace Go.Proofs.YtpkbfljoakodoaaDoor
open Go.RowKit

mutual
/-- The document's count, and whether the nodes are few enough and not too deep. -/
def siz : Nd → Nat → Nat × Bool | .mk _ _ _ _ ks, d => if 32 < d then (0, false) else sizL ks (d + 1) 1
def sizL : List Nd → Nat → Nat → Nat × Bool | [], _, c => (c, true) | k :: ks, d, c => if (siz k d).2 = false ∨ 1024 < c + (siz k d).1 then (c + (siz k d).1, false) else sizL ks d (c + (siz k d).1)
end
theorem sizL_next (ks : List Nd) (d c i : Nat) (hi : i < ks.length) : sizL (ks.drop i) d c = if (siz ks[i] d).2 = false ∨ 1024 < c + (siz ks[i] d).1 then (c + (siz ks[i] d).1, false) else sizL (ks.drop (i + 1)) d (c + (siz ks[i] d).1) := by
  rw [List.drop_eq_getElem_cons hi]
  conv => lhs; unfold sizL
mutual
theorem siz_bd : ∀ (n : Nd) (d : Nat), (siz n d).1 ≤ 1024 + 1024 * (33 - d) ∧ ((siz n d).2 = true → (siz n d).1 ≤ 1024)
  | .mk _ _ _ _ ks, d => by
    unfold siz
    split
    · exact ⟨by simp, fun h => by simp at h⟩
    · have := sizL_bd ks (d + 1) 1 (by omega)
      exact ⟨by omega, this.2⟩
theorem sizL_bd : ∀ (ks : List Nd) (d c : Nat), c ≤ 1024 → (sizL ks d c).1 ≤ 2048 + 1024 * (33 - d) ∧ ((sizL ks d c).2 = true → (sizL ks d c).1 ≤ 1024)
  | [], d, c, h => by unfold sizL; exact ⟨by simp only; omega, fun _ => h⟩
  | k :: ks, d, c, h => by
    unfold sizL
    have h1 := siz_bd k d
    split
    · exact ⟨by simp only; omega, fun h => by simp at h⟩
    · exact sizL_bd ks d _ (by omega)
end
mutual
theorem siz_iff : ∀ (n : Nd) (d : Nat), 1 ≤ d → ((siz n d).2 = true ↔ d + n.height ≤ 33 ∧ n.count ≤ 1024) ∧ ((siz n d).2 = true → (siz n d).1 = n.count)
  | .mk _ _ _ _ ks, d, hd => by
    unfold siz
    simp only [Nd.height, Nd.count]
    split
    · refine ⟨⟨fun h => by simp at h, fun h2 => ?_⟩, fun h => by simp at h⟩
      omega
    · have := sizL_iff ks (d + 1) 1 (by omega) (by omega)
      refine ⟨this.1.trans ⟨fun h2 => ⟨?_, by omega⟩, fun h2 => ⟨.inr (by omega), by omega⟩⟩, fun h2 => by rw [this.2 h2]⟩
      rcases h2.1 with h3 | h3
      · subst h3
        simp only [Nd.heightL]
        omega
      · omega
theorem sizL_iff : ∀ (ks : List Nd) (d c : Nat), 1 ≤ d → c ≤ 1024 → ((sizL ks d c).2 = true ↔ (ks = [] ∨ d + Nd.heightL ks ≤ 33) ∧ c + Nd.countL ks ≤ 1024) ∧ ((sizL ks d c).2 = true → (sizL ks d c).1 = c + Nd.countL ks)
  | [], d, c, hd, hc => by
    unfold sizL
    simp only [Nd.countL]
    simp
    omega
  | k :: ks, d, c, hd, hc => by
    unfold sizL
    have h1 := siz_iff k d hd
    have hp := k.count_pos
    simp only [Nd.countL, Nd.heightL]
    split
    · rename_i h2
      refine ⟨⟨fun h => by simp at h, fun h3 => ?_⟩, fun h => by simp at h⟩
      exfalso
      have h4 : (siz k d).2 = true := by
        rw [h1.1]
        rcases h3.1 with h4 | h4
        · cases h4
        · omega
      rcases h2 with h2 | h2
      · rw [h4] at h2; cases h2
      · rw [h1.2 h4] at h2; omega
    · rename_i h2
      have h3 : (siz k d).2 = true := by
        cases hx : (siz k d).2 with
        | true => rfl
        | false => exact absurd (.inl hx) h2
      have h4 := h1.2 h3
      have h5 := h1.1.1 h3
      have h6 := sizL_iff ks d (c + (siz k d).1) hd (by omega)
      rw [h4] at h6 ⊢
      refine ⟨h6.1.trans ⟨fun h7 => ⟨.inr ?_, by omega⟩, fun h7 => ⟨?_, by omega⟩⟩, fun h7 => by rw [h6.2 h7]; omega⟩
      · rcases h7.1 with h8 | h8
        · subst h8
          simp only [Nd.heightL]
          omega
        · omega
      · rcases h7.1 with h8 | h8
        · cases h8
        · exact .inr (by omega)
end
/-- Both counts tell the same. -/
theorem cen_siz (n : Nd) : (cen n 0 1).2 = (siz n 1).2 := by
  have h1 := (cen_iff n 0 1 (by omega)).1
  have h2 := (siz_iff n 1 (by omega)).1
  cases hx : (cen n 0 1).2 with
  | true => rw [hx] at h1; exact (h2.2 (by have := h1.1 rfl; omega)).symm
  | false =>
    rw [hx] at h1
    cases hy : (siz n 1).2 with
    | false => rfl
    | true =>
      rw [hy] at h2
      have := h2.1 rfl
      exact absurd (h1.2 (by omega)) (by simp)

set_option maxRecDepth 20000 in
set_option maxHeartbeats 2000000 in
theorem rsize_step (N : Nat) (IH : ∀ n : Nd, n.count ≤ N → ∀ (d : Nat) (w : World) (C : Array Value), d ≤ 33 → NodeAt w n C → Calls Tryd.prog 27 #[.agg C, .int .i64 d] w fun e w' => e = .returned (.tuple #[.int .i64 ((siz n d).1 : Nat), .bool (siz n d).2]) ∧ Below w.heap.size w w')
    (n : Nd) (hN : n.count ≤ N + 1) (d : Nat) (w : World) (C : Array Value) (hd : d ≤ 33) (h : NodeAt w n C) : Calls Tryd.prog 27 #[.agg C, .int .i64 d] w fun e w' => e = .returned (.tuple #[.int .i64 ((siz n d).1 : Nat), .bool (siz n d).2]) ∧ Below w.heap.size w w' := by
  cases h with
  | @mk k e dt ns ks da dc na nc ka kb koff kc Cs hk hdt hn hks each =>
  have hb0 : Below w.heap.size w (w.alloc (.cells (nodeV k e da dt.size dc na ns.length nc ka ks.length kc) 26)) := (Below.refl _ _).alloc (Nat.le_refl _) _
  have HR : Hid _ := Row.new w (nodeV k e da dt.size dc na ns.length nc ka ks.length kc) 26
  have HK : Hid (∀ w', Below w.heap.size w w' → KidsAt w' ka kb koff ks.length kc Cs) := fun w' hb => hks.keep hb
  have HE : Hid (∀ w', Below w.heap.size w w' → ∀ i (h : i < ks.length), NodeAt w' ks[i] (Cs i)) := fun w' hb i h => (each i h).keep hb
  have hcap := hks.cap
  have hle := hks.le
  have hat := hks.at'
  unfold maxLen at hcap
  have HN : Hid _ := hN
  have HIH : Hid _ := IH
  obtain ⟨r, hr⟩ : ∃ r, r = siz (.mk k e dt ns ks) d := ⟨_, rfl⟩
  have hcc : r = if 32 < d then (0, false) else sizL ks (d + 1) 1 := by rw [hr]; unfold siz; rfl
  rw [← hr]
  have HCC : Hid _ := hcc
  clear hks each hdt hn hN IH hk hr hcc
  by_cases h1 : 32 < d
  · have h1' : (32 : Int) < (d : Int) := by omega
    have HV : Hid (r = (0, false)) := by show r = _; rw [show r = _ from HCC.out, if_pos h1]
    clear HCC
    go_enter Tryd.func27, Tryd.ntmps27
    go_wp2
    go_ret2
    exact ⟨by rw [show r = _ from HV.out] <;> rfl, hb0⟩
  have h1' : ¬ (32 : Int) < (d : Int) := by omega
  have HCL : Hid (sizL ks (d + 1) 1 = r) := by show _ = r; rw [show r = _ from HCC.out, if_neg h1]
  clear HCC
  go_enter Tryd.func27, Tryd.ntmps27
  generalize hwB : w.alloc (.cells (nodeV k e da dt.size dc na ns.length nc ka ks.length kc) 26) = wB at *
  go_wp2
  go_loopw [6, 7] (fun cv iv wx => ∃ (c' i : Nat), cv = .int .i64 c' ∧ iv = .int .i64 i ∧ i ≤ ks.length ∧ c' ≤ 1024 ∧ Hid (sizL (ks.drop i) (d + 1) c' = r) ∧ Hid (Below w.heap.size w wx) ∧ Hid (Below wB.heap.size wB wx)) (fun _ iv _ => ks.length - (intOf iv).toNat)
  case atStart => exact ⟨1, 0, rfl, rfl, Nat.zero_le _, by omega, HCL, hb0, Below.refl _ _⟩
  case round =>
    obtain ⟨c', i, rfl, rfl, hi, hc', hL, hB, hBB⟩ := hrel
    have c4 := ((Row.below HR.out hBB.out (Row.lt HR.out)).cell 4).trans (rfl : _ = some (Value.slice ka ks.length kc))
    by_cases hlt : i < ks.length
    · have hlt' : (i : Int) < (ks.length : Int) := by omega
      obtain rfl := hat (by omega)
      have HRG : Hid _ := (HK.out wr hB.out).range i hlt
      have hsi2 : (Tryd.prog.info? 26).map (·.size) = some (Cs i).toList.length := by rw [infoN, Array.length_toList, (HK.out wr hB.out).size i hlt]
      have HC : Hid _ := HIH.out ks[i] (Nd.kid_lt HN.out i hlt) (d + 1) wr (Cs i) (by omega) (HE.out _ hB.out i hlt)
      have hnx := sizL_next ks (d + 1) c' i hlt
      have hbd := (siz_bd ks[i] (d + 1)).1
      obtain ⟨te, hte⟩ : ∃ te, te = siz ks[i] (d + 1) := ⟨_, rfl⟩
      rw [← hte] at HC hnx hbd
      obtain ⟨t1, t2⟩ := te
      simp only at HC hnx hbd
      rw [show ((d + 1 : Nat) : Int) = (d : Int) + 1 by omega] at HC
      have HNX : Hid _ := hnx
      have hbd1 : t1 ≤ 40000 := by omega
      clear hte hnx hbd
      go_wp2_with (refine wpList_load_mid rfl 26 _ rfl kb (koff + i * 5) rfl (Cs i).toList _ HRG.out Tryd.underlying26 rfl hsi2 ?_; simp only [Array.toArray_toList])
      refine Calls.mono HC.out ?_
      rintro e w2 ⟨rfl, hb2⟩
      have hB2 : Hid (Below w.heap.size w w2) := hB.out.trans (hb2.mono hB.out.size)
      have hBB2 : Hid (Below wB.heap.size wB w2) := hBB.out.trans (hb2.mono hBB.out.size)
      clear HC HRG hb2 c4
      cases t2 with
      | false =>
        have HV : Hid (r = (c' + t1, false)) := by
          show r = _
          rw [← show sizL (ks.drop i) (d + 1) c' = r from hL.out, show sizL (ks.drop i) (d + 1) c' = _ from HNX.out, if_pos (.inl rfl)]
        clear hL HNX
        go_wp2
        go_ret2
        exact ⟨by rw [show r = _ from HV.out] <;> simp, hB2.out⟩
      | true =>
        by_cases hg : 1024 < c' + t1
        · have hg' : (1024 : Int) < (c' : Int) + t1 := by omega
          have HV : Hid (r = (c' + t1, false)) := by
            show r = _
            rw [← show sizL (ks.drop i) (d + 1) c' = r from hL.out, show sizL (ks.drop i) (d + 1) c' = _ from HNX.out, if_pos (.inr hg)]
          clear hL HNX
          go_wp2
          go_ret2
          exact ⟨by rw [show r = _ from HV.out] <;> simp, hB2.out⟩
        · have hg' : ¬ (1024 : Int) < (c' : Int) + t1 := by omega
          have HL' : Hid (sizL (ks.drop (i + 1)) (d + 1) (c' + t1) = r) := by
            show _ = r
            rw [← show sizL (ks.drop i) (d + 1) c' = r from hL.out, show sizL (ks.drop i) (d + 1) c' = _ from HNX.out, if_neg (by simp; omega)]
          clear hL HNX
          go_wp2
          go_roundw
          case rel => exact ⟨c' + t1, i + 1, by go_num, by go_num, by omega, by omega, HL', hB2, hBB2⟩
          case measure => simp [intOf]; omega
    · have hlt' : ¬ (i : Int) < (ks.length : Int) := by omega
      have HV : Hid (r = (c', true)) := by
        show r = _
        rw [← show sizL (ks.drop i) (d + 1) c' = r from hL.out, List.drop_eq_nil_of_le (by omega)]
        unfold sizL
        rfl
      clear hL
      go_wp2
      go_ret2
      exact ⟨by rw [show r = _ from HV.out] <;> rfl, hB.out⟩
theorem rsize_ok (n : Nd) (d : Nat) (w : World) (C : Array Value) (hd : d ≤ 33) (h : NodeAt w n C) : Calls Tryd.prog 27 #[.agg C, .int .i64 d] w fun e w' => e = .returned (.tuple #[.int .i64 ((siz n d).1 : Nat), .bool (siz n d).2]) ∧ Below w.heap.size w w' := by
  have key : ∀ N : Nat, ∀ n : Nd, n.count ≤ N → ∀ (d : Nat) (w : World) (C : Array Value), d ≤ 33 → NodeAt w n C → Calls Tryd.prog 27 #[.agg C, .int .i64 d] w fun e w' => e = .returned (.tuple #[.int .i64 ((siz n d).1 : Nat), .bool (siz n d).2]) ∧ Below w.heap.size w w' := by
    intro N
    induction N with
    | zero => intro n hn; have := n.count_pos; omega
    | succ N ih => exact rsize_step N ih
  exact key n.count n (Nat.le_refl _) d w C hd h
theorem rright_ok (n : Nd) (w : World) (C : Array Value) (h : NodeAt w n C) (h6 : n.count ≤ 16000) : Calls Tryd.prog 13 #[.agg C] w fun e w' => e = .returned (.int .i64 (rightE n)) ∧ Below w.heap.size w w' := by
  have hb0 : Below w.heap.size w (w.alloc (.cells C 26)) := (Below.refl _ _).alloc (Nat.le_refl _) _
  have HR : Hid _ := Row.new w C 26
  have HC : Hid _ := rsize_ok n 1 _ C (by omega) (h.keep hb0)
  have HE : Hid (∀ wx, Below w.heap.size w wx → Calls Tryd.prog 28 #[.agg C] wx fun e w' => e = .returned (.int .i64 (eachE n)) ∧ Below wx.heap.size wx w') := fun wx hb => one_ok n wx C (h.keep hb) h6
  have hsi : (Tryd.prog.info? 26).map (·.size) = some C.size := by rw [infoN, h.size]
  have HV : Hid (rightE n = if (siz n 1).2 = false then 3 else eachE n) := by show rightE n = _; unfold rightE; rw [cen_siz]
  obtain ⟨te, hte⟩ : ∃ te, te = siz n 1 := ⟨_, rfl⟩
  obtain ⟨rE, hrE⟩ : ∃ rE, rE = rightE n := ⟨_, rfl⟩
  rw [← hrE] at HV ⊢
  rw [← hte] at HC HV
  obtain ⟨t1, t2⟩ := te
  simp only at HC HV
  clear hte h hrE
  go_enter Tryd.func13, Tryd.ntmps13
  generalize hwB : w.alloc (.cells C 26) = wB at *
  go_wp2_with (refine wpList_load_row rfl 26 _ rfl w.heap.size rfl 26 C (0, 0) _ HR.out Tryd.underlying26 rfl hsi ?_)
  refine Calls.mono HC.out ?_
  rintro e w1 ⟨rfl, hb1⟩
  have hB1 : Hid (Below w.heap.size w w1) := hb0.trans (hb1.mono hb0.size)
  have HR1 : Hid (Row w1 w.heap.size C 26) := Row.below HR.out hb1 (Row.lt HR.out)
  clear HC HR hb1
  cases t2 with
  | false =>
    have HV' : Hid (rE = 3) := by show rE = _; rw [show rE = _ from HV.out, if_pos rfl]
    clear HV HE
    go_wp2
    go_ret
    exact ⟨by rw [show rE = _ from HV'.out] <;> rfl, hB1.out⟩
  | true =>
    have HV' : Hid (rE = eachE n) := by show rE = _; rw [show rE = _ from HV.out, if_neg (by simp)]
    have HE1 : Hid _ := HE.out w1 hB1.out
    clear HV HE
    go_wp2_with (refine wpList_load_row rfl 26 _ rfl w.heap.size rfl 26 C (0, 0) _ HR1.out Tryd.underlying26 rfl hsi ?_)
    refine Calls.mono HE1.out ?_
    rintro e w2 ⟨rfl, hb2⟩
    have hB2 : Hid (Below w.heap.size w w2) := hB1.out.trans (hb2.mono hB1.out.size)
    clear HE1
    go_wp2
    go_ret
    exact ⟨by rw [show rE = _ from HV'.out] <;> rfl, hB2.out⟩
end Go.Proofs.YtpkbfljoakodoaaDoor
