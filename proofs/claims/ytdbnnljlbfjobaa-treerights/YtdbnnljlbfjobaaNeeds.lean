/- The walks of needs and Sectors, on both sides: what a node needs. -/
import Derived.Test.YtdbnnljlbfjobaaRefRight
namespace Go.Proofs.Ytdbnnljlbfjobaa
open Go.RowKit

mutual
/-- The sectors that a node needs. -/
def nds : Nd → Nat | .mk _ _ d ns ks => 1 + (d.size + entN ns + 255) / 256 + ndsL ks
def ndsL : List Nd → Nat | [] => 0 | k :: ks => nds k + ndsL ks
end
theorem ndsL_take (ks : List Nd) (i : Nat) (hi : i < ks.length) : ndsL (ks.take (i + 1)) = ndsL (ks.take i) + nds ks[i] := by
  induction ks generalizing i with
  | nil => simp at hi
  | cons k ks ih =>
    cases i with
    | zero => simp [ndsL]
    | succ i =>
      have := ih i (by simpa using hi)
      simp only [List.take_succ_cons, ndsL, List.getElem_cons_succ]
      omega
theorem ndsL_le (ks : List Nd) (i : Nat) : ndsL (ks.take i) ≤ ndsL ks := by
  induction ks generalizing i with
  | nil => simp
  | cons k ks ih =>
    cases i with
    | zero => simp [ndsL]
    | succ i =>
      have := ih i
      simp only [List.take_succ_cons, ndsL]
      omega
theorem eachE_zero {k : Int} {e : Bool} {d : ByteArray} {ns : List ByteArray} {ks : List Nd} (h : eachE (.mk k e d ns ks) = 0) : (kindB (.mk k e d ns ks) = true ∧ d.size + entN ns ≤ 31744) ∧ eachL ks = 0 := by
  rw [eachE_eq] at h
  by_cases h1 : kindB (.mk k e d ns ks) = false
  · rw [if_pos h1] at h
    omega
  rw [if_neg h1] at h
  by_cases h2 : (if k = 3 then 1024 else 31744 : Int) < ((d.size + entN ns : Nat) : Int)
  · rw [if_pos h2] at h
    omega
  rw [if_neg h2] at h
  by_cases h3 : k = 3 ∧ d.size = 0
  · rw [if_pos h3] at h
    omega
  rw [if_neg h3] at h
  by_cases h4 : namesB ns = false
  · rw [if_pos h4] at h
    omega
  rw [if_neg h4] at h
  refine ⟨⟨by simpa using h1, ?_⟩, h⟩
  by_cases h5 : k = 3
  · rw [if_pos h5] at h2
    omega
  · rw [if_neg h5] at h2
    omega
theorem eachL_zero : ∀ (ks : List Nd), eachL ks = 0 → ∀ i (h : i < ks.length), eachE ks[i] = 0
  | k :: ks, h, i, hi => by
    unfold eachL at h
    split at h
    · rename_i h1
      exact absurd h h1
    · rename_i h1
      cases i with
      | zero => simpa using h1
      | succ i => exact eachL_zero ks h i (by simpa using hi)
mutual
theorem nds_bd : ∀ (n : Nd), eachE n = 0 → nds n ≤ 125 * n.count
  | .mk k e d ns ks, h => by
    have h1 := eachE_zero h
    have h2 := ndsL_bd ks h1.2
    unfold nds
    simp only [Nd.count]
    omega
theorem ndsL_bd : ∀ (ks : List Nd), eachL ks = 0 → ndsL ks ≤ 125 * Nd.countL ks
  | [], _ => by simp [ndsL]
  | k :: ks, h => by
    have hk : eachE k = 0 := eachL_zero (k :: ks) h 0 (by simp)
    have hks : eachL ks = 0 := by
      unfold eachL at h
      rw [if_neg (by simp [hk])] at h
      exact h
    have h1 := nds_bd k hk
    have h2 := ndsL_bd ks hks
    simp only [ndsL, Nd.countL]
    omega
end

set_option maxRecDepth 20000 in
set_option maxHeartbeats 2000000 in
theorem needs_step (N : Nat) (IH : ∀ n : Nd, n.count ≤ N → n.count ≤ 6000 → eachE n = 0 → ∀ (w : World) (C : Array Value), NodeAt w n C → Calls Try.prog 15 #[.agg C] w fun e w' => e = .returned (.int .i64 (nds n : Nat)) ∧ Below w.heap.size w w')
    (n : Nd) (hN : n.count ≤ N + 1) (h6 : n.count ≤ 6000) (h0 : eachE n = 0) (w : World) (C : Array Value) (h : NodeAt w n C) : Calls Try.prog 15 #[.agg C] w fun e w' => e = .returned (.int .i64 (nds n : Nat)) ∧ Below w.heap.size w w' := by
  have hb0 : Below w.heap.size w (w.alloc (.cells C 26)) := (Below.refl _ _).alloc (Nat.le_refl _) _
  have HR : Hid _ := Row.new w C 26
  have HS : Hid _ := size_ok n _ C (h.keep hb0) (by cases n; have := (eachE_zero h0).1.2; simp only [Nd.data, Nd.names]; omega)
  have hsi : (Try.prog.info? 26).map (·.size) = some C.size := by rw [infoN, h.size]
  cases h with
  | @mk k e dt ns ks da dc na nc ka kb koff kc Cs hk hdt hn hks each =>
  have HK : Hid (∀ w', Below w.heap.size w w' → KidsAt w' ka kb koff ks.length kc Cs) := fun w' hb => hks.keep hb
  have HE : Hid (∀ w', Below w.heap.size w w' → ∀ i (h : i < ks.length), NodeAt w' ks[i] (Cs i)) := fun w' hb i h => (each i h).keep hb
  have hcap := hks.cap
  have hle := hks.le
  have hat := hks.at'
  unfold maxLen at hcap
  have HN : Hid _ := hN
  have H6 : Hid (Nd.countL ks ≤ 6000) := by simp only [Nd.count] at h6; show _ ≤ _; omega
  have HKR : Hid (∀ i (h : i < ks.length), eachE ks[i] = 0) := eachL_zero ks (eachE_zero h0).2
  have HIH : Hid _ := IH
  obtain ⟨tot, htot⟩ : ∃ tot, tot = nds (.mk k e dt ns ks) := ⟨_, rfl⟩
  have HT : Hid (tot = 1 + (dt.size + entN ns + 255) / 256 + ndsL ks) := by show tot = _; rw [htot]; unfold nds; rfl
  have htb : tot ≤ 1000000 := by rw [htot]; have := nds_bd _ h0; omega
  have hsz := (eachE_zero h0).1.2
  simp only [Nd.data, Nd.names] at HS
  obtain ⟨sz, hszv⟩ : ∃ sz, sz = dt.size + entN ns := ⟨_, rfl⟩
  rw [← hszv] at HS HT hsz
  have eq1 : ((sz : Int) + 256 - 1).tdiv 256 = (((sz + 255) / 256 : Nat) : Int) := by
    rw [show (sz : Int) + 256 - 1 = ((sz + 255 : Nat) : Int) by omega]
    exact (Int.ofNat_tdiv (sz + 255) 256).symm ▸ rfl
  rw [← htot]
  clear hks each hdt hn hN IH hk h6 h0 htot hszv
  go_enter Try.func15, Try.ntmps15
  generalize hwB : w.alloc (.cells (nodeV k e da dt.size dc na ns.length nc ka ks.length kc) 26) = wB at *
  go_wp2_with (refine wpList_load_row rfl 26 _ rfl w.heap.size rfl 26 _ (0, 0) _ HR.out Try.underlying26 rfl hsi ?_)
  refine Calls.mono HS.out ?_
  rintro e w1 ⟨rfl, hb1⟩
  clear HS
  have hB1 : Hid (Below w.heap.size w w1) := hb0.trans (hb1.mono hb0.size)
  have hR1 : Row w1 w.heap.size _ 26 := Row.below HR.out hb1 (Row.lt HR.out)
  have c4 := (hR1.cell 4).trans (rfl : _ = some (Value.slice ka ks.length kc))
  obtain ⟨q, hq⟩ : ∃ q, q = (sz + 255) / 256 := ⟨_, rfl⟩
  rw [← hq] at eq1 HT
  have hq2 : q ≤ 200 := by omega
  clear hq hb1
  go_wp2
  go_loopw [3, 15] (fun sv iv wx => ∃ i : Nat, sv = .int .i64 ((1 + q + ndsL (ks.take i) : Nat) : Int) ∧ iv = .int .i64 i ∧ i ≤ ks.length ∧ Hid (Below w.heap.size w wx)) (fun _ iv _ => ks.length - (intOf iv).toNat)
  case atStart => exact ⟨0, by simp [ndsL], rfl, Nat.zero_le _, hB1⟩
  case round =>
    obtain ⟨i, rfl, rfl, hi, hB⟩ := hrel
    by_cases hlt : i < ks.length
    · have hlt' : (i : Int) < (ks.length : Int) := by omega
      obtain rfl := hat (by omega)
      have HRG : Hid _ := (HK.out wr hB.out).range i hlt
      have hsi2 : (Try.prog.info? 26).map (·.size) = some (Cs i).toList.length := by rw [infoN, Array.length_toList, (HK.out wr hB.out).size i hlt]
      have hsi3 : (Try.prog.info? 26).map (·.size) = some (Cs i).size := by rw [infoN, (HK.out wr hB.out).size i hlt]
      have hs5 : (Cs i).size = 5 := (HK.out wr hB.out).size i hlt
      have hone : (Cs i).all (fun x => x.oneCell') = true := (HE.out wr hB.out i hlt).one
      have hbA : Below wr.heap.size wr (wr.alloc (.cells (Cs i) 26)) := (Below.refl _ _).alloc (Nat.le_refl _) _
      have HRA : Hid _ := Row.new wr (Cs i) 26
      have hBA : Hid (Below w.heap.size w (wr.alloc (.cells (Cs i) 26))) := hB.out.trans (hbA.mono hB.out.size)
      have HC : Hid _ := HIH.out ks[i] (Nd.kid_lt HN.out i hlt) (by have := Nd.countL_at ks i hlt; have := H6.out; omega) (HKR.out i hlt) _ (Cs i) (HE.out _ hBA.out i hlt)
      have e1 := ndsL_take ks i hlt
      have e2 := ndsL_le ks (i + 1)
      have e3 := HT.out
      obtain ⟨t, ht⟩ : ∃ t, t = nds ks[i] := ⟨_, rfl⟩
      rw [← ht] at e1 HC
      obtain ⟨x, hx⟩ : ∃ x, x = 1 + q + ndsL (ks.take i) := ⟨_, rfl⟩
      have e4 : 1 + q + ndsL (ks.take (i + 1)) = x + t := by omega
      have e5 : x + t ≤ 1000000 := by omega
      rw [← hx]
      have HE4 : Hid _ := e4
      clear ht hx e1 e2 e3 e4 hbA
      go_wp2_with (first
        | (refine wpList_load_mid rfl 26 _ rfl kb (koff + i * 5) rfl (Cs i).toList _ HRG.out Try.underlying26 rfl hsi2 ?_; simp only [Array.toArray_toList])
        | refine wpList_store_new rfl 26 _ _ rfl wr _ (Cs i) 26 rfl wr.heap.size rfl rfl rfl hsi3 hs5.symm hone ?_
        | refine wpList_load_row rfl 26 _ rfl wr.heap.size rfl 26 (Cs i) (0, 0) _ HRA.out Try.underlying26 rfl hsi3 ?_)
      refine Calls.mono HC.out ?_
      rintro e w2 ⟨rfl, hb2⟩
      have hB2 : Hid (Below w.heap.size w w2) := hBA.out.trans (hb2.mono hBA.out.size)
      clear HC HRG HRA hb2
      go_wp2
      clear eq1
      go_roundw
      case rel => exact ⟨i + 1, by rw [show 1 + q + ndsL (ks.take (i + 1)) = _ from HE4.out]; go_num, by go_num, by omega, hB2⟩
      case measure => simp [intOf]; omega
    · have hlt' : ¬ (i : Int) < (ks.length : Int) := by omega
      have hii : i = ks.length := by omega
      have HV : Hid (1 + q + ndsL (ks.take i) = tot) := by
        show _ = tot
        rw [show tot = _ from HT.out, hii, List.take_length]
      obtain ⟨x, hx⟩ : ∃ x, x = 1 + q + ndsL (ks.take i) := ⟨_, rfl⟩
      rw [← hx] at HV ⊢
      clear hii hx eq1
      go_wp2
      go_ret
      exact ⟨by rw [show x = tot from HV.out] <;> rfl, hB.out⟩
theorem needs_ok (n : Nd) (w : World) (C : Array Value) (h : NodeAt w n C) (hc : n.count ≤ 6000) (h0 : eachE n = 0) : Calls Try.prog 15 #[.agg C] w fun e w' => e = .returned (.int .i64 (nds n : Nat)) ∧ Below w.heap.size w w' := by
  have key : ∀ N : Nat, ∀ n : Nd, n.count ≤ N → n.count ≤ 6000 → eachE n = 0 → ∀ (w : World) (C : Array Value), NodeAt w n C → Calls Try.prog 15 #[.agg C] w fun e w' => e = .returned (.int .i64 (nds n : Nat)) ∧ Below w.heap.size w w' := by
    intro N
    induction N with
    | zero => intro n hn; have := n.count_pos; omega
    | succ N ih => exact needs_step N ih
  exact key n.count n (Nat.le_refl _) hc h0 w C h

set_option maxRecDepth 20000 in
set_option maxHeartbeats 2000000 in
theorem rneeds_step (N : Nat) (IH : ∀ n : Nd, n.count ≤ N → n.count ≤ 6000 → eachE n = 0 → ∀ (w : World) (C : Array Value), NodeAt w n C → Calls Try.prog 16 #[.agg C] w fun e w' => e = .returned (.int .i64 (nds n : Nat)) ∧ Below w.heap.size w w')
    (n : Nd) (hN : n.count ≤ N + 1) (h6 : n.count ≤ 6000) (h0 : eachE n = 0) (w : World) (C : Array Value) (h : NodeAt w n C) : Calls Try.prog 16 #[.agg C] w fun e w' => e = .returned (.int .i64 (nds n : Nat)) ∧ Below w.heap.size w w' := by
  have hb0 : Below w.heap.size w (w.alloc (.cells C 26)) := (Below.refl _ _).alloc (Nat.le_refl _) _
  have HR : Hid _ := Row.new w C 26
  have HS : Hid _ := entries_ok n (w.alloc (.cells C 26)).drew C (h.keep hb0.drew) (by cases n; have := (eachE_zero h0).1.2; simp only [Nd.names]; omega)
  have hsi' : (Try.prog.info? 26).map (·.size) = some C.toList.length := by rw [infoN, Array.length_toList, h.size]
  cases h with
  | @mk k e dt ns ks da dc na nc ka kb koff kc Cs hk hdt hn hks each =>
  have HK : Hid (∀ w', Below w.heap.size w w' → KidsAt w' ka kb koff ks.length kc Cs) := fun w' hb => hks.keep hb
  have HE : Hid (∀ w', Below w.heap.size w w' → ∀ i (h : i < ks.length), NodeAt w' ks[i] (Cs i)) := fun w' hb i h => (each i h).keep hb
  have hcap := hks.cap
  have hle := hks.le
  have hat := hks.at'
  unfold maxLen at hcap
  have HN : Hid _ := hN
  have H6 : Hid (Nd.countL ks ≤ 6000) := by simp only [Nd.count] at h6; show _ ≤ _; omega
  have HKR : Hid (∀ i (h : i < ks.length), eachE ks[i] = 0) := eachL_zero ks (eachE_zero h0).2
  have HIH : Hid _ := IH
  obtain ⟨tot, htot⟩ : ∃ tot, tot = nds (.mk k e dt ns ks) := ⟨_, rfl⟩
  have HT : Hid (tot = 1 + (dt.size + entN ns + 255) / 256 + ndsL ks) := by show tot = _; rw [htot]; unfold nds; rfl
  have htb : tot ≤ 1000000 := by rw [htot]; have := nds_bd _ h0; omega
  have hsz := (eachE_zero h0).1.2
  simp only [Nd.names] at HS
  obtain ⟨en, hen⟩ : ∃ en, en = entN ns := ⟨_, rfl⟩
  obtain ⟨dl, hdl⟩ : ∃ dl, dl = dt.size := ⟨_, rfl⟩
  rw [← hen] at HS HT hsz
  rw [← hdl] at HT hsz HS HR hb0 hsi' ⊢
  have eq1 : ((dl : Int) + (en : Int) + 255).tdiv 256 = (((dl + en + 255) / 256 : Nat) : Int) := by
    rw [show (dl : Int) + (en : Int) + 255 = ((dl + en + 255 : Nat) : Int) by omega]
    exact (Int.ofNat_tdiv (dl + en + 255) 256).symm ▸ rfl
  have ewr : IntKind.i64.wrap ((dl : Int) + (en : Int)) = (dl : Int) + en := by rw [IntKind.wrap_i64]; omega
  rw [← htot]
  clear hks each hdt hn hN IH hk h6 h0 htot hen hdl
  go_enter Try.func16, Try.ntmps16
  generalize hwB : w.alloc (.cells (nodeV k e da dl dc na ns.length nc ka ks.length kc) 26) = wB at *
  have hBd : Below wB.heap.size wB wB.drew := (Below.refl _ _).drew
  have HC0 : Hid (∀ wx, Below wB.heap.size wB wx → Row wx w.heap.size (nodeV k e da dl dc na ns.length nc ka ks.length kc) 26) := fun wx hb => Row.below HR.out hb (Row.lt HR.out)
  go_wp2_with fail
  refine wp_region_permA [(false, 0), (false, 1), (false, 2), (false, 3), (true, 4), (false, 5), (false, 6)] (fun wx => Below wB.heap.size wB wx) (by kernel_rfl) (by kernel_rfl) hBd ?_
  refine a_value (some 6) ?_ rfl rfl (by rfl) (fun w hw => ?_) ?_
  rotate_left
  · go_simp
    with_reducible rfl
  simp only [Act.put, List.setIfInBounds_toArray, List.set_cons_zero, List.set_cons_succ]
  refine a_value (some 7) ?_ rfl rfl (by rfl) (fun w hw => ?_) ?_
  rotate_left
  · have hc := (Row.cell (HC0.out _ hw) 2).trans (rfl : _ = some (Value.slice da dl dc))
    go_simp
    with_reducible rfl
  simp only [Act.put, List.setIfInBounds_toArray, List.set_cons_zero, List.set_cons_succ]
  refine a_value (some 8) ?_ rfl rfl (by rfl) (fun w hw => ?_) ?_
  rotate_left
  · go_simp
    with_reducible rfl
  simp only [Act.put, List.setIfInBounds_toArray, List.set_cons_zero, List.set_cons_succ]
  refine a_load_mid (some 9) 26 _ rfl rfl rfl (by rfl) w.heap.size 0 (by go_simp) (nodeV k e da dl dc na ns.length nc ka ks.length kc).toList _ (fun wx hw => Row.range (HC0.out wx hw)) Try.underlying26 rfl hsi' ?_
  simp only [Act.put, List.setIfInBounds_toArray, List.set_cons_zero, List.set_cons_succ]
  refine a_call (some 10) rfl rfl (by rfl) 18 #[.agg (nodeV k e da dl dc na ns.length nc ka ks.length kc)] (by go_simp) (Calls.mono HS.out ?_)
  rintro e w1 ⟨rfl, hb1⟩
  have hB1' : Below wB.heap.size wB w1 := hBd.trans (hb1.mono hBd.size)
  refine ⟨_, rfl, hB1', ?_⟩
  simp only [Act.put, List.setIfInBounds_toArray, List.set_cons_zero, List.set_cons_succ]
  refine a_value (some 11) ?_ rfl rfl (by rfl) (fun w hw => ?_) ?_
  rotate_left
  · have hc := ewr
    go_simp
    with_reducible rfl
  simp only [Act.put, List.setIfInBounds_toArray, List.set_cons_zero, List.set_cons_succ]
  refine a_value (some 3) ?_ rfl rfl (by rfl) (fun w hw => ?_) ?_
  rotate_left
  · go_simp
    with_reducible rfl
  simp only [Act.put, List.setIfInBounds_toArray, List.set_cons_zero, List.set_cons_succ]
  refine a_done ?_
  try simp only [Exit.then]
  clear HS hBd hb1 ewr
  have hB1 : Hid (Below w.heap.size w w1) := hb0.trans (hB1'.mono hb0.size)
  have hBB1 : Hid (Below wB.heap.size wB w1) := hB1'
  clear hB1'
  obtain ⟨q, hq⟩ : ∃ q, q = (dl + en + 255) / 256 := ⟨_, rfl⟩
  rw [← hq] at eq1 HT
  have hq2 : q ≤ 200 := by omega
  clear hq
  go_wp2
  go_loopw [4, 5] (fun sv iv wx => ∃ i : Nat, sv = .int .i64 ((1 + q + ndsL (ks.take i) : Nat) : Int) ∧ iv = .int .i64 i ∧ i ≤ ks.length ∧ Hid (Below w.heap.size w wx) ∧ Hid (Below wB.heap.size wB wx)) (fun _ iv _ => ks.length - (intOf iv).toNat)
  case atStart => exact ⟨0, by simp [ndsL], rfl, Nat.zero_le _, hB1, hBB1⟩
  case round =>
    obtain ⟨i, rfl, rfl, hi, hB, hBB⟩ := hrel
    have c4 := ((HC0.out wr hBB.out).cell 4).trans (rfl : _ = some (Value.slice ka ks.length kc))
    by_cases hlt : i < ks.length
    · have hlt' : (i : Int) < (ks.length : Int) := by omega
      obtain rfl := hat (by omega)
      have HRG : Hid _ := (HK.out wr hB.out).range i hlt
      have hsi2 : (Try.prog.info? 26).map (·.size) = some (Cs i).toList.length := by rw [infoN, Array.length_toList, (HK.out wr hB.out).size i hlt]
      have HC : Hid _ := HIH.out ks[i] (Nd.kid_lt HN.out i hlt) (by have := Nd.countL_at ks i hlt; have := H6.out; omega) (HKR.out i hlt) wr (Cs i) (HE.out _ hB.out i hlt)
      have e1 := ndsL_take ks i hlt
      have e2 := ndsL_le ks (i + 1)
      have e3 := HT.out
      obtain ⟨t, ht⟩ : ∃ t, t = nds ks[i] := ⟨_, rfl⟩
      rw [← ht] at e1 HC
      obtain ⟨x, hx⟩ : ∃ x, x = 1 + q + ndsL (ks.take i) := ⟨_, rfl⟩
      have e4 : 1 + q + ndsL (ks.take (i + 1)) = x + t := by omega
      have e5 : x + t ≤ 1000000 := by omega
      rw [← hx]
      have HE4 : Hid _ := e4
      clear ht hx e1 e2 e3 e4
      go_wp2_with (refine wpList_load_mid rfl 26 _ rfl kb (koff + i * 5) rfl (Cs i).toList _ HRG.out Try.underlying26 rfl hsi2 ?_; simp only [Array.toArray_toList])
      refine Calls.mono HC.out ?_
      rintro e w2 ⟨rfl, hb2⟩
      have hB2 : Hid (Below w.heap.size w w2) := hB.out.trans (hb2.mono hB.out.size)
      have hBB2 : Hid (Below wB.heap.size wB w2) := hBB.out.trans (hb2.mono hBB.out.size)
      clear HC HRG hb2 c4
      go_wp2
      clear eq1
      go_roundw
      case rel => exact ⟨i + 1, by rw [show 1 + q + ndsL (ks.take (i + 1)) = _ from HE4.out]; go_num, by go_num, by omega, hB2, hBB2⟩
      case measure => simp [intOf]; omega
    · have hlt' : ¬ (i : Int) < (ks.length : Int) := by omega
      have hii : i = ks.length := by omega
      have HV : Hid (1 + q + ndsL (ks.take i) = tot) := by
        show _ = tot
        rw [show tot = _ from HT.out, hii, List.take_length]
      obtain ⟨x, hx⟩ : ∃ x, x = 1 + q + ndsL (ks.take i) := ⟨_, rfl⟩
      rw [← hx] at HV ⊢
      clear hii hx eq1
      go_wp2
      go_ret
      exact ⟨by rw [show x = tot from HV.out] <;> rfl, hB.out⟩
theorem rneeds_ok (n : Nd) (w : World) (C : Array Value) (h : NodeAt w n C) (hc : n.count ≤ 6000) (h0 : eachE n = 0) : Calls Try.prog 16 #[.agg C] w fun e w' => e = .returned (.int .i64 (nds n : Nat)) ∧ Below w.heap.size w w' := by
  have key : ∀ N : Nat, ∀ n : Nd, n.count ≤ N → n.count ≤ 6000 → eachE n = 0 → ∀ (w : World) (C : Array Value), NodeAt w n C → Calls Try.prog 16 #[.agg C] w fun e w' => e = .returned (.int .i64 (nds n : Nat)) ∧ Below w.heap.size w w' := by
    intro N
    induction N with
    | zero => intro n hn; have := n.count_pos; omega
    | succ N ih => exact rneeds_step N ih
  exact key n.count n (Nat.le_refl _) hc h0 w C h
/-- What a node needs; 0 of one that may not be. -/
def secE (n : Nd) : Nat := if rightE n = 0 then nds n else 0
theorem rightE_zero {n : Nd} (h : rightE n = 0) : eachE n = 0 := by
  unfold rightE at h
  split at h
  · omega
  · exact h
theorem sectors_ok (n : Nd) (w : World) (C : Array Value) (h : NodeAt w n C) (h6 : n.count ≤ 6000) : Calls Try.prog 8 #[.agg C] w fun e w' => e = .returned (.int .i64 (secE n : Nat)) ∧ Below w.heap.size w w' := by
  have hb0 : Below w.heap.size w (w.alloc (.cells C 26)) := (Below.refl _ _).alloc (Nat.le_refl _) _
  have HR : Hid _ := Row.new w C 26
  have HC : Hid _ := right_ok n _ C (h.keep hb0) h6
  have HE : Hid (∀ wx, Below w.heap.size w wx → rightE n = 0 → Calls Try.prog 15 #[.agg C] wx fun e w' => e = .returned (.int .i64 (nds n : Nat)) ∧ Below wx.heap.size wx w') := fun wx hb h0 => needs_ok n wx C (h.keep hb) h6 (rightE_zero h0)
  have hsi : (Try.prog.info? 26).map (·.size) = some C.size := by rw [infoN, h.size]
  have HV : Hid (secE n = if rightE n = 0 then nds n else 0) := rfl
  obtain ⟨rE, hrE⟩ : ∃ rE, rE = rightE n := ⟨_, rfl⟩
  obtain ⟨sE, hsE⟩ : ∃ sE, sE = secE n := ⟨_, rfl⟩
  rw [← hrE] at HC HE
  rw [← hsE, ← hrE] at HV
  rw [← hsE]
  clear h hrE hsE
  go_enter Try.func8, Try.ntmps8
  generalize hwB : w.alloc (.cells C 26) = wB at *
  go_wp2_with (refine wpList_load_row rfl 26 _ rfl w.heap.size rfl 26 C (0, 0) _ HR.out Try.underlying26 rfl hsi ?_)
  refine Calls.mono HC.out ?_
  rintro e w1 ⟨rfl, hb1⟩
  have hB1 : Hid (Below w.heap.size w w1) := hb0.trans (hb1.mono hb0.size)
  have HR1 : Hid (Row w1 w.heap.size C 26) := Row.below HR.out hb1 (Row.lt HR.out)
  clear HC HR hb1
  by_cases h0 : rE = 0
  · subst h0
    have HV' : Hid (sE = nds n) := by show sE = _; rw [show sE = _ from HV.out, if_pos rfl]
    have HE1 : Hid _ := HE.out w1 hB1.out rfl
    clear HV HE
    go_wp2_with (refine wpList_load_row rfl 26 _ rfl w.heap.size rfl 26 C (0, 0) _ HR1.out Try.underlying26 rfl hsi ?_)
    refine Calls.mono HE1.out ?_
    rintro e w2 ⟨rfl, hb2⟩
    have hB2 : Hid (Below w.heap.size w w2) := hB1.out.trans (hb2.mono hB1.out.size)
    clear HE1
    go_wp2
    go_ret
    exact ⟨by rw [show sE = _ from HV'.out] <;> rfl, hB2.out⟩
  · have HV' : Hid (sE = 0) := by show sE = _; rw [show sE = _ from HV.out, if_neg h0]
    clear HV HE
    go_wp2
    go_ret
    exact ⟨by rw [show sE = _ from HV'.out] <;> rfl, hB1.out⟩
theorem rsectors_ok (n : Nd) (w : World) (C : Array Value) (h : NodeAt w n C) (h6 : n.count ≤ 6000) : Calls Try.prog 9 #[.agg C] w fun e w' => e = .returned (.int .i64 (secE n : Nat)) ∧ Below w.heap.size w w' := by
  have hb0 : Below w.heap.size w (w.alloc (.cells C 26)) := (Below.refl _ _).alloc (Nat.le_refl _) _
  have HR : Hid _ := Row.new w C 26
  have HC : Hid _ := rright_ok n _ C (h.keep hb0) h6
  have HE : Hid (∀ wx, Below w.heap.size w wx → rightE n = 0 → Calls Try.prog 16 #[.agg C] wx fun e w' => e = .returned (.int .i64 (nds n : Nat)) ∧ Below wx.heap.size wx w') := fun wx hb h0 => rneeds_ok n wx C (h.keep hb) h6 (rightE_zero h0)
  have hsi : (Try.prog.info? 26).map (·.size) = some C.size := by rw [infoN, h.size]
  have HV : Hid (secE n = if rightE n = 0 then nds n else 0) := rfl
  obtain ⟨rE, hrE⟩ : ∃ rE, rE = rightE n := ⟨_, rfl⟩
  obtain ⟨sE, hsE⟩ : ∃ sE, sE = secE n := ⟨_, rfl⟩
  rw [← hrE] at HC HE
  rw [← hsE, ← hrE] at HV
  rw [← hsE]
  clear h hrE hsE
  go_enter Try.func9, Try.ntmps9
  generalize hwB : w.alloc (.cells C 26) = wB at *
  go_wp2_with (refine wpList_load_row rfl 26 _ rfl w.heap.size rfl 26 C (0, 0) _ HR.out Try.underlying26 rfl hsi ?_)
  refine Calls.mono HC.out ?_
  rintro e w1 ⟨rfl, hb1⟩
  have hB1 : Hid (Below w.heap.size w w1) := hb0.trans (hb1.mono hb0.size)
  have HR1 : Hid (Row w1 w.heap.size C 26) := Row.below HR.out hb1 (Row.lt HR.out)
  clear HC HR hb1
  by_cases h0 : rE = 0
  · subst h0
    have HV' : Hid (sE = nds n) := by show sE = _; rw [show sE = _ from HV.out, if_pos rfl]
    have HE1 : Hid _ := HE.out w1 hB1.out rfl
    clear HV HE
    go_wp2_with (refine wpList_load_row rfl 26 _ rfl w.heap.size rfl 26 C (0, 0) _ HR1.out Try.underlying26 rfl hsi ?_)
    refine Calls.mono HE1.out ?_
    rintro e w2 ⟨rfl, hb2⟩
    have hB2 : Hid (Below w.heap.size w w2) := hB1.out.trans (hb2.mono hB1.out.size)
    clear HE1
    go_wp2
    go_ret
    exact ⟨by rw [show sE = _ from HV'.out] <;> rfl, hB2.out⟩
  · have HV' : Hid (sE = 0) := by show sE = _; rw [show sE = _ from HV.out, if_neg h0]
    clear HV HE
    go_wp2
    go_ret
    exact ⟨by rw [show sE = _ from HV'.out] <;> rfl, hB1.out⟩
end Go.Proofs.Ytdbnnljlbfjobaa
