/- The walks of census and Right, of needs and Sectors. -/
import Derived.Test.YtpkbfljoakodoaaDoorRight
namespace Go.Proofs.YtpkbfljoakodoaaDoor
open Go.RowKit

set_option maxRecDepth 20000 in
set_option maxHeartbeats 2000000 in
theorem census_step (N : Nat) (IH : ∀ n : Nd, n.count ≤ N → ∀ (c l : Nat) (w : World) (C : Array Value), c ≤ 1024 → l ≤ 33 → NodeAt w n C → Calls Tryd.prog 45 #[.agg C, .int .i64 c, .int .i64 l] w fun e w' => e = .returned (.tuple #[.int .i64 ((cen n c l).1 : Nat), .bool (cen n c l).2]) ∧ Below w.heap.size w w')
    (n : Nd) (hN : n.count ≤ N + 1) (c l : Nat) (w : World) (C : Array Value) (hc : c ≤ 1024) (hl : l ≤ 33) (h : NodeAt w n C) : Calls Tryd.prog 45 #[.agg C, .int .i64 c, .int .i64 l] w fun e w' => e = .returned (.tuple #[.int .i64 ((cen n c l).1 : Nat), .bool (cen n c l).2]) ∧ Below w.heap.size w w' := by
  cases h with
  | @mk k e dt ns ks da dc na nc ka kb koff kc Cs hk hdt hn hks each =>
  have hb0 : Below w.heap.size w (w.alloc (.cells (nodeV k e da dt.size dc na ns.length nc ka ks.length kc) 26)) := (Below.refl _ _).alloc (Nat.le_refl _) _
  have HR : Hid _ := Row.new w (nodeV k e da dt.size dc na ns.length nc ka ks.length kc) 26
  have HK : Hid (∀ w', Below w.heap.size w w' → KidsAt w' ka kb koff ks.length kc Cs) := fun w' hb => hks.keep hb
  have HE : Hid (∀ w', Below w.heap.size w w' → ∀ i (h : i < ks.length), NodeAt w' ks[i] (Cs i)) := fun w' hb i h => (each i h).keep hb
  have hcap := hks.cap
  have hle := hks.le
  have hat := hks.at'
  unfold maxLen at hcap
  have HN : Hid _ := hN
  have HIH : Hid _ := IH
  obtain ⟨r, hr⟩ : ∃ r, r = cen (.mk k e dt ns ks) c l := ⟨_, rfl⟩
  have hcc : r = if 1024 < c + 1 ∨ 32 < l then (c + 1, false) else cenL ks (c + 1) (l + 1) := by rw [hr]; unfold cen; rfl
  rw [← hr]
  have HCC : Hid _ := hcc
  clear hks each hdt hn hN IH hk hr hcc
  by_cases h1 : 1024 < c + 1
  · have h1' : (1024 : Int) < (c : Int) + 1 := by omega
    have HV : Hid (r = (c + 1, false)) := by show r = _; rw [show r = _ from HCC.out, if_pos (.inl h1)]
    clear HCC
    go_enter Tryd.func45, Tryd.ntmps45
    go_wp2
    go_ret2
    exact ⟨by rw [show r = _ from HV.out] <;> simp, hb0⟩
  have h1' : ¬ (1024 : Int) < (c : Int) + 1 := by omega
  by_cases h2 : 32 < l
  · have h2' : (32 : Int) < (l : Int) := by omega
    have HV : Hid (r = (c + 1, false)) := by show r = _; rw [show r = _ from HCC.out, if_pos (.inr h2)]
    clear HCC
    go_enter Tryd.func45, Tryd.ntmps45
    go_wp2
    go_ret2
    exact ⟨by rw [show r = _ from HV.out] <;> simp, hb0⟩
  have h2' : ¬ (32 : Int) < (l : Int) := by omega
  have HCL : Hid (cenL ks (c + 1) (l + 1) = r) := by show _ = r; rw [show r = _ from HCC.out, if_neg (by omega)]
  clear HCC
  have c4 := (Row.cell HR.out 4).trans (rfl : _ = some (Value.slice ka ks.length kc))
  go_enter Tryd.func45, Tryd.ntmps45
  generalize hwB : w.alloc (.cells (nodeV k e da dt.size dc na ns.length nc ka ks.length kc) 26) = wB at *
  go_wp2
  go_loopw [1, 7, 22] (fun cv fv iv wx => ∃ (c' i : Nat) (b : Bool), cv = .int .i64 c' ∧ fv = .bool b ∧ iv = .int .i64 i ∧ i ≤ ks.length ∧ c' ≤ 1024 ∧ Hid (cenL (ks.drop i) c' (l + 1) = r) ∧ Hid (Below w.heap.size w wx)) (fun _ _ iv _ => ks.length - (intOf iv).toNat)
  case atStart => exact ⟨c + 1, 0, false, by go_num, rfl, rfl, Nat.zero_le _, by omega, HCL, hb0⟩
  case round =>
    obtain ⟨c', i, b, rfl, rfl, rfl, hi, hc', hL, hB⟩ := hrel
    by_cases hlt : i < ks.length
    · have hlt' : (i : Int) < (ks.length : Int) := by omega
      obtain rfl := hat (by omega)
      have HRG : Hid _ := (HK.out wr hB.out).range i hlt
      have hsi2 : (Tryd.prog.info? 26).map (·.size) = some (Cs i).toList.length := by rw [infoN, Array.length_toList, (HK.out wr hB.out).size i hlt]
      have hsi3 : (Tryd.prog.info? 26).map (·.size) = some (Cs i).size := by rw [infoN, (HK.out wr hB.out).size i hlt]
      have hs5 : (Cs i).size = 5 := (HK.out wr hB.out).size i hlt
      have hone : (Cs i).all (fun x => x.oneCell') = true := (HE.out wr hB.out i hlt).one
      have hbA : Below wr.heap.size wr (wr.alloc (.cells (Cs i) 26)) := (Below.refl _ _).alloc (Nat.le_refl _) _
      have HRA : Hid _ := Row.new wr (Cs i) 26
      have hBA : Hid (Below w.heap.size w (wr.alloc (.cells (Cs i) 26))) := hB.out.trans (hbA.mono hB.out.size)
      have HC : Hid _ := HIH.out ks[i] (Nd.kid_lt HN.out i hlt) c' (l + 1) _ (Cs i) hc' (by omega) (HE.out _ hBA.out i hlt)
      have hnx := cenL_next ks c' (l + 1) i hlt
      have hbd := cen_bd ks[i] c' (l + 1) hc'
      obtain ⟨te, hte⟩ : ∃ te, te = cen ks[i] c' (l + 1) := ⟨_, rfl⟩
      rw [← hte] at HC hnx hbd
      obtain ⟨t1, t2⟩ := te
      simp only at HC hnx hbd
      rw [show ((l + 1 : Nat) : Int) = (l : Int) + 1 by omega] at HC
      have HNX : Hid _ := hnx
      have HBD : Hid _ := hbd.2
      have hbd1 := hbd.1
      clear hte hnx hbA hbd
      go_wp2_with (first
          | (refine wpList_load_mid rfl 26 _ rfl kb (koff + i * 5) rfl (Cs i).toList _ HRG.out Tryd.underlying26 rfl hsi2 ?_; simp only [Array.toArray_toList])
          | refine wpList_store_new rfl 26 _ _ rfl wr _ (Cs i) 26 rfl wr.heap.size rfl rfl rfl hsi3 hs5.symm hone ?_
          | refine wpList_load_row rfl 26 _ rfl wr.heap.size rfl 26 (Cs i) (0, 0) _ HRA.out Tryd.underlying26 rfl hsi3 ?_)
      refine Calls.mono HC.out ?_
      rintro e w2 ⟨rfl, hb2⟩
      have hB2 : Hid (Below w.heap.size w w2) := hBA.out.trans (hb2.mono hBA.out.size)
      clear HC HRG HRA hb2
      cases t2 with
      | true =>
        have HL' : Hid (cenL (ks.drop (i + 1)) t1 (l + 1) = r) := by
          show _ = r
          rw [← show cenL (ks.drop i) c' (l + 1) = r from hL.out, show cenL (ks.drop i) c' (l + 1) = _ from HNX.out, if_pos rfl]
        have ht1 := HBD.out rfl
        clear hL HNX HBD
        go_wp2
        go_roundw
        case rel => exact ⟨t1, i + 1, true, by go_num, rfl, by go_num, by omega, ht1, HL', hB2⟩
        case measure => simp [intOf]; omega
      | false =>
        have HV : Hid (r = (t1, false)) := by
          show r = _
          rw [← show cenL (ks.drop i) c' (l + 1) = r from hL.out, show cenL (ks.drop i) c' (l + 1) = _ from HNX.out, if_neg (by simp)]
        clear hL HNX HBD
        go_wp2
        go_ret2
        exact ⟨by rw [show r = _ from HV.out] <;> rfl, hB2.out⟩
    · have hlt' : ¬ (i : Int) < (ks.length : Int) := by omega
      have HV : Hid (r = (c', true)) := by
        show r = _
        rw [← show cenL (ks.drop i) c' (l + 1) = r from hL.out, List.drop_eq_nil_of_le (by omega)]
        unfold cenL
        rfl
      clear hL
      go_wp2
      go_ret2
      exact ⟨by rw [show r = _ from HV.out] <;> rfl, hB.out⟩
theorem census_ok (n : Nd) (c l : Nat) (w : World) (C : Array Value) (hc : c ≤ 1024) (hl : l ≤ 33) (h : NodeAt w n C) : Calls Tryd.prog 45 #[.agg C, .int .i64 c, .int .i64 l] w fun e w' => e = .returned (.tuple #[.int .i64 ((cen n c l).1 : Nat), .bool (cen n c l).2]) ∧ Below w.heap.size w w' := by
  have key : ∀ N : Nat, ∀ n : Nd, n.count ≤ N → ∀ (c l : Nat) (w : World) (C : Array Value), c ≤ 1024 → l ≤ 33 → NodeAt w n C → Calls Tryd.prog 45 #[.agg C, .int .i64 c, .int .i64 l] w fun e w' => e = .returned (.tuple #[.int .i64 ((cen n c l).1 : Nat), .bool (cen n c l).2]) ∧ Below w.heap.size w w' := by
    intro N
    induction N with
    | zero => intro n hn; have := n.count_pos; omega
    | succ N ih => exact census_step N ih
  exact key n.count n (Nat.le_refl _) c l w C hc hl h

/-- What is wrong with a node. -/
def rightE (n : Nd) : Int := if (cen n 0 1).2 = false then 3 else eachE n
theorem right_ok (n : Nd) (w : World) (C : Array Value) (h : NodeAt w n C) (h6 : n.count ≤ 16000) : Calls Tryd.prog 29 #[.agg C] w fun e w' => e = .returned (.int .i64 (rightE n)) ∧ Below w.heap.size w w' := by
  have hb0 : Below w.heap.size w (w.alloc (.cells C 26)) := (Below.refl _ _).alloc (Nat.le_refl _) _
  have HR : Hid _ := Row.new w C 26
  have HC : Hid _ := census_ok n 0 1 _ C (by omega) (by omega) (h.keep hb0)
  have HE : Hid (∀ wx, Below w.heap.size w wx → Calls Tryd.prog 46 #[.agg C] wx fun e w' => e = .returned (.int .i64 (eachE n)) ∧ Below wx.heap.size wx w') := fun wx hb => rightEach_ok n wx C (h.keep hb) h6
  have hsi : (Tryd.prog.info? 26).map (·.size) = some C.size := by rw [infoN, h.size]
  have HV : Hid (rightE n = if (cen n 0 1).2 = false then 3 else eachE n) := rfl
  obtain ⟨te, hte⟩ : ∃ te, te = cen n 0 1 := ⟨_, rfl⟩
  obtain ⟨rE, hrE⟩ : ∃ rE, rE = rightE n := ⟨_, rfl⟩
  rw [← hrE] at HV ⊢
  rw [← hte] at HC HV
  obtain ⟨t1, t2⟩ := te
  simp only at HC HV
  clear hte h hrE
  go_enter Tryd.func29, Tryd.ntmps29
  generalize hwB : w.alloc (.cells C 26) = wB at *
  go_wp2_with (refine wpList_load_row rfl 26 _ rfl w.heap.size rfl 26 C (0, 0) _ HR.out Tryd.underlying26 rfl hsi ?_)
  refine Calls.mono HC.out ?_
  rintro e w1 ⟨rfl, hb1⟩
  have hB1 : Hid (Below w.heap.size w w1) := hb0.trans (hb1.mono hb0.size)
  have HR1 : Hid (Row w1 w.heap.size C 26) := Row.below HR.out hb1 (Row.lt HR.out)
  clear HC HR hb1
  cases t2 with
  | false =>
    have HV' : Hid (rE = 3) := by show rE = _; rw [show rE = _ from HV.out, if_pos rfl]
    clear HV HE
    go_wp2
    go_ret
    exact ⟨by rw [show rE = _ from HV'.out] <;> rfl, hB1.out⟩
  | true =>
    have HV' : Hid (rE = eachE n) := by show rE = _; rw [show rE = _ from HV.out, if_neg (by simp)]
    have HE1 : Hid _ := HE.out w1 hB1.out
    clear HV HE
    go_wp2_with (refine wpList_load_row rfl 26 _ rfl w.heap.size rfl 26 C (0, 0) _ HR1.out Tryd.underlying26 rfl hsi ?_)
    refine Calls.mono HE1.out ?_
    rintro e w2 ⟨rfl, hb2⟩
    have hB2 : Hid (Below w.heap.size w w2) := hB1.out.trans (hb2.mono hB1.out.size)
    clear HE1
    go_wp2
    go_ret
    exact ⟨by rw [show rE = _ from HV'.out] <;> rfl, hB2.out⟩
end Go.Proofs.YtpkbfljoakodoaaDoor
