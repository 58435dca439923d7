/- The walk of one: what is wrong with a node and with those in it, on the document's side. -/
import Derived.Test.YtpkbfljoakodoaaDoorCensus
import Derived.Deep.DeepCutAuto
namespace Go.Proofs.YtpkbfljoakodoaaDoor
open Go.RowKit

theorem eachE_eq (k : Int) (e : Bool) (d : ByteArray) (ns : List ByteArray) (ks : List Nd) : eachE (.mk k e d ns ks) = if kindB (.mk k e d ns ks) = false then 12 else if (if k = 3 then 1024 else 31744 : Int) < ((d.size + entN ns : Nat) : Int) then 3 else if k = 3 ∧ d.size = 0 then 2 else if namesB ns = false then 17 else eachL ks := by
  have hb : bigB (.mk k e d ns ks) = decide ((if k = 3 then 1024 else 31744 : Int) < ((d.size + entN ns : Nat) : Int)) := rfl
  have ha : aloneE (.mk k e d ns ks) = if kindB (.mk k e d ns ks) = false then 12 else if (if k = 3 then 1024 else 31744 : Int) < ((d.size + entN ns : Nat) : Int) then 3 else if k = 3 ∧ d.size = 0 then 2 else if namesB ns = false then 17 else 0 := by
    unfold aloneE
    rw [hb]
    simp only [Nd.kind, Nd.data, Nd.names, decide_eq_true_eq]
    exact ite_congr rfl (fun _ => rfl) (fun _ => ite_congr rfl (fun _ => rfl) (fun _ => rfl))
  unfold eachE
  rw [ha]
  generalize kindB (.mk k e d ns ks) = kB
  generalize namesB ns = nB
  generalize d.size + entN ns = z
  by_cases h1 : kB = false
  · rw [if_pos h1, if_pos h1]
    rfl
  rw [if_neg h1, if_neg h1]
  by_cases h2 : (if k = 3 then 1024 else 31744 : Int) < (z : Int)
  · rw [if_pos h2, if_pos h2]
    rfl
  rw [if_neg h2, if_neg h2]
  by_cases h3 : k = 3 ∧ d.size = 0
  · rw [if_pos h3, if_pos h3]
    rfl
  rw [if_neg h3, if_neg h3]
  by_cases h4 : nB = false
  · rw [if_pos h4, if_pos h4]
    rfl
  rw [if_neg h4, if_neg h4]
  rfl

set_option maxRecDepth 20000 in
set_option maxHeartbeats 8000000 in
theorem one_step (N : Nat) (IH : ∀ n : Nd, n.count ≤ N → n.count ≤ 16000 → ∀ (w : World) (C : Array Value), NodeAt w n C → Calls Tryd.prog 28 #[.agg C] w fun e w' => e = .returned (.int .i64 (eachE n)) ∧ Below w.heap.size w w')
    (n : Nd) (hN : n.count ≤ N + 1) (h6 : n.count ≤ 16000) (w : World) (C : Array Value) (h : NodeAt w n C) : Calls Tryd.prog 28 #[.agg C] w fun e w' => e = .returned (.int .i64 (eachE n)) ∧ Below w.heap.size w w' := by
  have hb0 : Below w.heap.size w (w.alloc (.cells C 26)) := (Below.refl _ _).alloc (Nat.le_refl _) _
  have HR : Hid _ := Row.new w C 26
  have HEN : Hid (∀ wx, Below w.heap.size w wx → kindB n = true → Calls Tryd.prog 43 #[.agg C] wx fun e w' => e = .returned (.int .i64 ((entN n.names : Nat) : Int)) ∧ Below wx.heap.size wx w') := fun wx hb hk => entries_ok n wx C (h.keep hb) (by have := sizes_bd h h6 hk; omega)
  have hsi : (Tryd.prog.info? 26).map (·.size) = some C.size := by rw [infoN, h.size]
  cases h with
  | @mk k e dt ns ks da dc na nc ka kb koff kc Cs hk hdt hn hks each =>
  have HK : Hid (∀ w', Below w.heap.size w w' → KidsAt w' ka kb koff ks.length kc Cs) := fun w' hb => hks.keep hb
  have HE : Hid (∀ w', Below w.heap.size w w' → ∀ i (h : i < ks.length), NodeAt w' ks[i] (Cs i)) := fun w' hb i h => (each i h).keep hb
  obtain ⟨sb, soff, hsat, hscell⟩ := hn.at''
  have HCE : Hid _ := hscell
  have HSZ : Hid (∀ i (h : i < ns.length), ns[i].size ≤ maxLen) := fun i h => Nat.le_trans (hn.each _ (List.getElem_mem h)) (by unfold big maxLen; omega)
  have hcap := hks.cap
  have hle := hks.le
  have hat := hks.at'
  have hcap2 := hn.cap
  have hle2 := hn.le
  unfold maxLen at hcap hcap2
  have HN : Hid _ := hN
  have H6 : Hid (Nd.countL ks ≤ 16000) := by simp only [Nd.count] at h6; show _ ≤ _; omega
  have HIH : Hid _ := IH
  obtain ⟨nl, hnl⟩ : ∃ nl, nl = ns.length := ⟨_, rfl⟩
  obtain ⟨kl, hkl⟩ : ∃ kl, kl = ks.length := ⟨_, rfl⟩
  obtain ⟨dl, hdl⟩ : ∃ dl, dl = dt.size := ⟨_, rfl⟩
  obtain ⟨en, hen⟩ : ∃ en, en = entN ns := ⟨_, rfl⟩
  obtain ⟨kB, hkB⟩ : ∃ kB, kB = kindB (.mk k e dt ns ks) := ⟨_, rfl⟩
  obtain ⟨nB, hnB⟩ : ∃ nB, nB = namesB ns := ⟨_, rfl⟩
  have HKB : Hid (kB = if k = 1 then decide (nl = 0) && decide (kl = 0) else if k = 3 then decide (nl = 0) && decide (kl = 0) && !e else if k = 2 then decide (nl = kl) && !e && decide (dl = 0) else false) := by
    rw [hkB, hnl, hkl, hdl]
    rfl
  obtain ⟨eE, heE⟩ : ∃ eE, eE = eachE (.mk k e dt ns ks) := ⟨_, rfl⟩
  have HAE : Hid (eE = if kB = false then 12 else if (if k = 3 then 1024 else 31744 : Int) < ((dl + en : Nat) : Int) then 3 else if k = 3 ∧ dl = 0 then 2 else if nB = false then 17 else eachL ks) := by
    rw [heE, hkB, hnB, hdl, hen]
    exact eachE_eq k e dt ns ks
  have HNBY : Hid (nB = true ↔ ∀ j, j < ns.length → nmOk ns j = true) := by
    rw [hnB]
    refine ⟨fun h j hj => ?_, namesB_yes ns⟩
    cases hx : nmOk ns j with
    | true => rfl
    | false => rw [namesB_no ns j hj hx] at h; cases h
  have HEN0 : Hid (nl = 0 → en = 0) := fun h0 => by
    rw [hen]
    rw [hnl] at h0
    rw [List.eq_nil_of_length_eq_zero h0]
    rfl
  simp only [Nd.names] at HEN
  rw [← heE]
  rw [← hkB, ← hen] at HEN
  rw [← hnl] at hsat hle2
  rw [← hkl] at HK hat hle
  rw [← hnl, ← hkl, ← hdl] at hb0 HR hsi HEN ⊢
  clear hks each hdt hn hN IH h6 hscell hkB hnB hen heE
  have HNL : Hid _ := hnl
  have HKL : Hid _ := hkl
  clear hnl hkl hdl
  go_enter Tryd.func28, Tryd.ntmps28
  generalize hwB : w.alloc (.cells (nodeV k e da dl dc na nl nc ka kl kc) 26) = wB at *
  have c0 := (Row.cell HR.out 0).trans (rfl : _ = some (Value.int .i64 k))
  have c1 := (Row.cell HR.out 1).trans (rfl : _ = some (Value.bool e))
  have c2 := (Row.cell HR.out 2).trans (rfl : _ = some (Value.slice da dl dc))
  have c3 := (Row.cell HR.out 3).trans (rfl : _ = some (Value.slice na nl nc))
  have c4 := (Row.cell HR.out 4).trans (rfl : _ = some (Value.slice ka kl kc))
  go_upto_region 1 with fail
  go_cut [59] (fun v wx => v = .bool (!kB) ∧ wx = wB)
  case first =>
    clear HEN HNBY HEN0 HAE
    by_cases l1 : k < 1
    · skip
      have HV : Hid (kB = false) := by
        show kB = _
        rw [show kB = _ from HKB.out]
        simp [show ¬ k = 1 by omega, show ¬ k = 3 by omega, show ¬ k = 2 by omega]
      clear HKB
      go_wp2
      go_meet
      exact ⟨by rw [show kB = _ from HV.out] <;> rfl, rfl⟩
    by_cases l2 : 3 < k
    · skip
      have HV : Hid (kB = false) := by
        show kB = _
        rw [show kB = _ from HKB.out]
        simp [show ¬ k = 1 by omega, show ¬ k = 3 by omega, show ¬ k = 2 by omega]
      clear HKB
      go_wp2
      go_meet
      exact ⟨by rw [show kB = _ from HV.out] <;> rfl, rfl⟩
    by_cases k1 : k = 1
    · subst k1
      clear l1 l2
      by_cases a1 : nl = 0
      · subst a1
        by_cases a2 : kl = 0
        · subst a2
          have HV : Hid (kB = true) := by
            show kB = _
            rw [show kB = _ from HKB.out]
            simp
          clear HKB
          go_wp2
          go_meet
          exact ⟨by rw [show kB = _ from HV.out] <;> rfl, rfl⟩
        · have a2' : (0 : Int) < kl := by omega
          have HV : Hid (kB = false) := by
            show kB = _
            rw [show kB = _ from HKB.out]
            simp [a2]
          clear HKB
          go_wp2
          go_meet
          exact ⟨by rw [show kB = _ from HV.out] <;> rfl, rfl⟩
      · have a1' : (0 : Int) < nl := by omega
        have HV : Hid (kB = false) := by
          show kB = _
          rw [show kB = _ from HKB.out]
          simp [a1]
        clear HKB
        go_wp2
        go_meet
        exact ⟨by rw [show kB = _ from HV.out] <;> rfl, rfl⟩
    by_cases k3 : k = 3
    · subst k3
      clear l1 l2 k1
      by_cases a1 : nl = 0
      · subst a1
        by_cases a2 : kl = 0
        · subst a2
          cases e with
          | true =>
            have HV : Hid (kB = false) := by
              show kB = _
              rw [show kB = _ from HKB.out]
              simp
            clear HKB
            go_wp2
            go_meet
            exact ⟨by rw [show kB = _ from HV.out] <;> rfl, rfl⟩
          | false =>
            have HV : Hid (kB = true) := by
              show kB = _
              rw [show kB = _ from HKB.out]
              simp
            clear HKB
            go_wp2
            go_meet
            exact ⟨by rw [show kB = _ from HV.out] <;> rfl, rfl⟩
        · have a2' : (0 : Int) < kl := by omega
          have HV : Hid (kB = false) := by
            show kB = _
            rw [show kB = _ from HKB.out]
            simp [a2]
          clear HKB
          go_wp2
          go_meet
          exact ⟨by rw [show kB = _ from HV.out] <;> rfl, rfl⟩
      · have a1' : (0 : Int) < nl := by omega
        have HV : Hid (kB = false) := by
          show kB = _
          rw [show kB = _ from HKB.out]
          simp [a1]
        clear HKB
        go_wp2
        go_meet
        exact ⟨by rw [show kB = _ from HV.out] <;> rfl, rfl⟩
    have k2 : k = 2 := by omega
    subst k2
    clear l1 l2 k1 k3
    cases e with
    | true =>
      have HV : Hid (kB = false) := by
        show kB = _
        rw [show kB = _ from HKB.out]
        simp
      clear HKB
      go_wp2
      go_meet
      exact ⟨by rw [show kB = _ from HV.out] <;> rfl, rfl⟩
    | false =>
      by_cases a3 : dl = 0
      · subst a3
        by_cases a1 : nl = kl
        · subst a1
          have HV : Hid (kB = true) := by
            show kB = _
            rw [show kB = _ from HKB.out]
            simp
          clear HKB
          go_wp2
          go_meet
          exact ⟨by rw [show kB = _ from HV.out] <;> rfl, rfl⟩
        · have a1' : ¬ (nl : Int) = (kl : Int) := by omega
          have a1b : ((nl : Int) != (kl : Int)) = true := by simpa using a1'
          have HV : Hid (kB = false) := by
            show kB = _
            rw [show kB = _ from HKB.out]
            simp [a1]
          clear HKB
          go_wp2
          go_meet
          exact ⟨by rw [show kB = _ from HV.out] <;> rfl, rfl⟩
      · have a3' : (0 : Int) < dl := by omega
        have HV : Hid (kB = false) := by
          show kB = _
          rw [show kB = _ from HKB.out]
          simp [a3]
        clear HKB
        go_wp2
        go_meet
        exact ⟨by rw [show kB = _ from HV.out] <;> rfl, rfl⟩
  case rest =>
    obtain ⟨rfl, hwc⟩ := hcut
    subst wc
    cases kB with
    | false =>
      have HV : Hid (eE = 12) := by show eE = _; rw [show eE = _ from HAE.out, if_pos rfl]
      clear HAE HEN HNBY
      go_wp2
      go_ret
      exact ⟨by rw [show eE = _ from HV.out] <;> rfl, hb0⟩
    | true =>
    have HE1 : Hid _ := HEN.out wB hb0 rfl
    have h3 : k = 1 ∨ k = 2 ∨ k = 3 := by
      have := HKB.out
      by_cases x1 : k = 1
      · exact .inl x1
      by_cases x3 : k = 3
      · exact .inr (.inr x3)
      by_cases x2 : k = 2
      · exact .inr (.inl x2)
      have hx := HKB.out
      rw [if_neg x1, if_neg x3, if_neg x2] at hx
      cases hx
    clear HEN
    go_upto_region 3 with fail
    go_cut [84] (fun v wx => v = .bool (decide ((if k = 3 then 1024 else 31744 : Int) < ((dl + en : Nat) : Int))) ∧ Hid (Below wB.heap.size wB wx))
    case first =>
      rcases h3 with rfl | rfl | rfl
      · have hx := HKB.out
        rw [if_pos rfl] at hx
        have hn0 : nl = 0 := by
          have := hx.symm
          simp only [Bool.and_eq_true, decide_eq_true_eq] at this
          exact this.1
        have HE0 : Hid (en = 0) := HEN0.out hn0
        have hq : ¬ (31744 : Int) < (en : Int) := by have := HE0.out; omega
        clear hn0
        by_cases hd : 31744 < dl
        · have hd' : (31744 : Int) < dl := by omega
          clear HKB HAE hx HE1
          go_wp2
          go_meet
          exact ⟨congrArg Value.bool (decide_eq_true (by rw [if_neg (by decide)]; omega)).symm, Below.refl _ _⟩
        · have hd' : ¬ (31744 : Int) < dl := by omega
          clear HKB HAE hx
          go_wp2_with (refine wpList_load_row rfl 26 _ rfl w.heap.size rfl 26 _ (0, 0) _ HR.out Tryd.underlying26 rfl hsi ?_)
          refine Calls.mono HE1.out ?_
          rintro e w1 ⟨rfl, hb1⟩
          clear HE1
          go_wp2
          go_meet
          exact ⟨congrArg Value.bool (decide_eq_decide.2 (by rw [if_neg (by decide)]; have := HE0.out; constructor <;> omega)), hb1⟩
      · have hx := HKB.out
        rw [if_neg (by decide), if_neg (by decide), if_pos rfl] at hx
        have hd0 : dl = 0 := by
          have := hx.symm
          simp only [Bool.and_eq_true, decide_eq_true_eq] at this
          exact this.2
        subst hd0
        clear HKB HAE hx
        by_cases hd : 31744 < en
        · have hd' : (31744 : Int) < en := by omega
          go_wp2_with (refine wpList_load_row rfl 26 _ rfl w.heap.size rfl 26 _ (0, 0) _ HR.out Tryd.underlying26 rfl hsi ?_)
          refine Calls.mono HE1.out ?_
          rintro e w1 ⟨rfl, hb1⟩
          clear HE1
          go_wp2
          go_meet
          exact ⟨congrArg Value.bool (decide_eq_true (by rw [if_neg (by decide)]; omega)).symm, hb1⟩
        · have hd' : ¬ (31744 : Int) < en := by omega
          go_wp2_with (refine wpList_load_row rfl 26 _ rfl w.heap.size rfl 26 _ (0, 0) _ HR.out Tryd.underlying26 rfl hsi ?_)
          refine Calls.mono HE1.out ?_
          rintro e w1 ⟨rfl, hb1⟩
          clear HE1
          go_wp2
          go_meet
          exact ⟨congrArg Value.bool (decide_eq_decide.2 (by rw [if_neg (by decide)]; constructor <;> omega)), hb1⟩
      · have hx := HKB.out
        rw [if_neg (by decide), if_pos rfl] at hx
        have hn0 : nl = 0 := by
          have := hx.symm
          simp only [Bool.and_eq_true, decide_eq_true_eq] at this
          exact this.1.1
        have HE0 : Hid (en = 0) := HEN0.out hn0
        have hq : ¬ (31744 : Int) < (en : Int) := by have := HE0.out; omega
        clear hn0
        by_cases hd : 1024 < dl
        · have hd' : (1024 : Int) < dl := by omega
          clear HKB HAE hx HE1
          go_wp2
          go_meet
          exact ⟨congrArg Value.bool (decide_eq_true (by (first | rw [if_pos trivial] | rw [if_pos rfl]); omega)).symm, Below.refl _ _⟩
        · have hd' : ¬ (1024 : Int) < dl := by omega
          clear HKB HAE hx
          go_wp2_with (refine wpList_load_row rfl 26 _ rfl w.heap.size rfl 26 _ (0, 0) _ HR.out Tryd.underlying26 rfl hsi ?_)
          refine Calls.mono HE1.out ?_
          rintro e w1 ⟨rfl, hb1⟩
          clear HE1
          go_wp2
          go_meet
          exact ⟨congrArg Value.bool (decide_eq_decide.2 (by (first | rw [if_pos trivial] | rw [if_pos rfl]); have := HE0.out; constructor <;> omega)), hb1⟩
    case rest =>
      obtain ⟨rfl, hBc⟩ := hcut
      have hBw : Hid (Below w.heap.size w wc) := hb0.trans (hBc.out.mono hb0.size)
      have hRc : Row wc w.heap.size (nodeV k e da dl dc na nl nc ka kl kc) 26 := Row.below HR.out hBc.out (Row.lt HR.out)
      clear HE1 c0 c1 c2 c3 c4 HEN0
      obtain ⟨bb, hbb⟩ : ∃ bb, bb = decide ((if k = 3 then 1024 else 31744 : Int) < ((dl + en : Nat) : Int)) := ⟨_, rfl⟩
      rw [← hbb]
      have HBB : Hid _ := hbb
      clear hbb
      cases bb with
      | true =>
        have HV : Hid (eE = 3) := by
          show eE = _
          rw [show eE = _ from HAE.out, if_neg (by simp), if_pos (of_decide_eq_true (show true = _ from HBB.out).symm)]
        clear HAE HBB HNBY HKB
        go_wp2
        go_ret
        exact ⟨by rw [show eE = _ from HV.out] <;> rfl, hBw.out⟩
      | false =>
      have HAE2 : Hid (eE = if k = 3 ∧ dl = 0 then 2 else if nB = false then 17 else eachL ks) := by
        show eE = _
        rw [show eE = _ from HAE.out, if_neg (by simp), if_neg (of_decide_eq_false (show false = _ from HBB.out).symm)]
      clear HAE HBB
      have c0 := (hRc.cell 0).trans (rfl : _ = some (Value.int .i64 k))
      have c2 := (hRc.cell 2).trans (rfl : _ = some (Value.slice da dl dc))
      obtain ⟨wD, hwD⟩ : ∃ x, x = wc := ⟨_, rfl⟩
      subst hwD
      go_upto_region 5 with fail
      go_cut [93] (fun v wx => v = .bool (decide (k = 3 ∧ dl = 0)) ∧ wx = wD)
      case first =>
        clear HAE2 HNBY HKB
        by_cases k3 : k = 3
        · subst k3
          by_cases d0 : dl = 0
          · subst d0
            go_wp2
            go_meet
            exact ⟨by simp, rfl⟩
          · have d0' : ¬ (dl : Int) = 0 := by omega
            have d0b : ((dl : Int) == 0) = false := by simpa using d0'
            go_wp2
            go_meet
            exact ⟨by simp [d0], rfl⟩
        · have k3b : (k == 3) = false := by simpa using k3
          go_wp2
          go_meet
          exact ⟨by simp [k3], rfl⟩
      case rest =>
        obtain ⟨rfl, hwc2⟩ := hcut
        subst wc
        obtain ⟨bb, hbb⟩ : ∃ bb, bb = decide (k = 3 ∧ dl = 0) := ⟨_, rfl⟩
        rw [← hbb]
        have HBB : Hid _ := hbb
        clear hbb c0 c2
        cases bb with
        | true =>
          have HV : Hid (eE = 2) := by
            show eE = _
            rw [show eE = _ from HAE2.out, if_pos (of_decide_eq_true (show true = _ from HBB.out).symm)]
          clear HAE2 HBB HNBY HKB
          go_wp2
          go_ret
          exact ⟨by rw [show eE = _ from HV.out] <;> rfl, hBw.out⟩
        | false =>
        have HAE3 : Hid (eE = if nB = false then 17 else eachL ks) := by
          show eE = _
          rw [show eE = _ from HAE2.out, if_neg (of_decide_eq_false (show false = _ from HBB.out).symm)]
        have HRw0 : Hid (∀ wx, Below wB.heap.size wB wx → Row wx w.heap.size (nodeV k e da dl dc na nl nc ka kl kc) 26) := fun wx hb => Row.below HR.out hb (Row.lt HR.out)
        clear HAE2 HBB HKB h3 hRc
        go_wp2
        go_loopw [3] (fun iv wx => ∃ i : Nat, iv = .int .i64 i ∧ i ≤ nl ∧ Hid (∀ j, j < i → nmOk ns j = true) ∧ Hid (Below w.heap.size w wx) ∧ Hid (Below wB.heap.size wB wx)) (fun iv _ => nl - (intOf iv).toNat)
        case atStart => exact ⟨0, rfl, Nat.zero_le _, fun j hj => absurd hj (by omega), hBw, hBc⟩
        case round =>
          obtain ⟨i, rfl, hi, hok, hB, hBB⟩ := hrel
          have c3 := ((HRw0.out wr hBB.out).cell 3).trans (rfl : _ = some (Value.slice na nl nc))
          by_cases hlt : i < nl
          · have hlt' : (i : Int) < (nl : Int) := by omega
            obtain rfl := hsat (by omega)
            have hlt2 : i < ns.length := by rw [← HNL.out]; exact hlt
            have hBd : Below wr.heap.size wr wr.drew := (Below.refl _ _).drew
            have HRw : Hid (∀ wx, Below wr.heap.size wr wx → Row wx w.heap.size (nodeV k e da dl dc (some ⟨sb, soff, none⟩) nl nc ka kl kc) 26) := fun wx hb => HRw0.out wx (hBB.out.trans (hb.mono hBB.out.size))
            have HBB2 : Hid (∀ wx, Below wr.heap.size wr wx → Below wB.heap.size wB wx) := fun wx hb => hBB.out.trans (hb.mono hBB.out.size)
            have hci := fun wx (hb : Below wr.heap.size wr wx) => HCE.out wx (hB.out.trans (hb.mono hB.out.size)) i hlt2
            have hg1 := getD_at ns i hlt2
            have hts := HSZ.out i hlt2
            obtain ⟨t, ht⟩ : ∃ t, t = ns[i] := ⟨_, rfl⟩
            rw [← ht] at hg1 hts
            simp only [← ht] at hci
            have HCI : Hid (∀ wx, Below wr.heap.size wr wx → wx.cell? ⟨sb, soff + i, none⟩ = some (.string t)) := hci
            have HIN : Hid _ := refName_ok t wr.drew hts
            have HNO : Hid (nmOk ns i = false → eE = 17) := fun hf => by
              rw [show eE = _ from HAE3.out, if_pos]
              cases hx : nB with
              | false => rfl
              | true => rw [HNBY.out.1 hx i hlt2] at hf; cases hf
            have HG1 : Hid _ := hg1
            clear ht hg1 hci hts
            obtain ⟨nb, hnb⟩ : ∃ nb, nb = nameB t := ⟨_, rfl⟩
            rw [← hnb] at HIN
            have HNB : Hid _ := hnb
            clear hnb
            cases nb with
            | false =>
              have HV : Hid (eE = 17) := HNO.out (by unfold nmOk; rw [show ns.getD i ⟨#[]⟩ = t from HG1.out, ← show false = nameB t from HNB.out]; rfl)
              clear hok HNO HG1 HNB HAE3 HNBY
              go_wp2_with fail
              refine wp_region_permA [(false, 0), (false, 1), (false, 2), (false, 3), (false, 4), (true, 5), (false, 6), (false, 7), (false, 8), (false, 9), (false, 10), (false, 11), (false, 12), (false, 13), (false, 14), (false, 15), (false, 16), (false, 17), (false, 18), (false, 19), (false, 20), (false, 21), (false, 22), (false, 23), (false, 24)] (fun wx => Below wr.heap.size wr wx) (by kernel_rfl) (by kernel_rfl) hBd ?_
              refine a_value (some 101) ?_ rfl rfl (by rfl) (fun w hw => ?_) ?_
              rotate_left
              · go_simp
                with_reducible rfl
              simp only [Act.put, List.setIfInBounds_toArray, List.set_cons_zero, List.set_cons_succ]
              refine a_value (some 102) ?_ rfl rfl (by rfl) (fun w hw => ?_) ?_
              rotate_left
              · have hc := (Row.cell (HRw.out _ hw) 3).trans (rfl : _ = some (Value.slice (some ⟨sb, soff, none⟩) nl nc))
                go_simp
                with_reducible rfl
              simp only [Act.put, List.setIfInBounds_toArray, List.set_cons_zero, List.set_cons_succ]
              refine a_move (some 103) _ rfl rfl rfl (by rfl) ?_
              simp only [Act.put, List.setIfInBounds_toArray, List.set_cons_zero, List.set_cons_succ]
              refine a_value (some 104) ?_ rfl rfl (by rfl) (fun w hw => ?_) ?_
              rotate_left
              · go_simp
                with_reducible rfl
              simp only [Act.put, List.setIfInBounds_toArray, List.set_cons_zero, List.set_cons_succ]
              refine a_value (some 105) ?_ rfl rfl (by rfl) (fun w hw => ?_) ?_
              rotate_left
              · have hc := HCI.out _ hw
                go_simp
                with_reducible rfl
              simp only [Act.put, List.setIfInBounds_toArray, List.set_cons_zero, List.set_cons_succ]
              refine a_call (some 106) rfl rfl (by rfl) 44 #[.string t] (by go_simp) (Calls.mono HIN.out ?_)
              rintro e w2 ⟨rfl, hb2⟩
              have hB2 : Below wr.heap.size wr w2 := hBd.trans (hb2.mono hBd.size)
              refine ⟨_, rfl, hB2, ?_⟩
              simp only [Act.put, List.setIfInBounds_toArray, List.set_cons_zero, List.set_cons_succ]
              refine a_value (some 107) ?_ rfl rfl (by rfl) (fun w hw => ?_) ?_
              rotate_left
              · go_simp
                with_reducible rfl
              simp only [Act.put, List.setIfInBounds_toArray, List.set_cons_zero, List.set_cons_succ]
              refine a_move (some 108) _ rfl rfl rfl (by rfl) ?_
              simp only [Act.put, List.setIfInBounds_toArray, List.set_cons_zero, List.set_cons_succ]
              refine a_skip (some 109) rfl rfl (by rfl) ?_
              simp only [Act.put, List.setIfInBounds_toArray, List.set_cons_zero, List.set_cons_succ]
              refine a_skip (some 110) rfl rfl (by rfl) ?_
              simp only [Act.put, List.setIfInBounds_toArray, List.set_cons_zero, List.set_cons_succ]
              refine a_skip (some 111) rfl rfl (by rfl) ?_
              simp only [Act.put, List.setIfInBounds_toArray, List.set_cons_zero, List.set_cons_succ]
              refine a_skip (some 112) rfl rfl (by rfl) ?_
              simp only [Act.put, List.setIfInBounds_toArray, List.set_cons_zero, List.set_cons_succ]
              refine a_skip (some 113) rfl rfl (by rfl) ?_
              simp only [Act.put, List.setIfInBounds_toArray, List.set_cons_zero, List.set_cons_succ]
              refine a_skip (some 114) rfl rfl (by rfl) ?_
              simp only [Act.put, List.setIfInBounds_toArray, List.set_cons_zero, List.set_cons_succ]
              refine a_skip (some 115) rfl rfl (by rfl) ?_
              simp only [Act.put, List.setIfInBounds_toArray, List.set_cons_zero, List.set_cons_succ]
              refine a_skip (some 116) rfl rfl (by rfl) ?_
              simp only [Act.put, List.setIfInBounds_toArray, List.set_cons_zero, List.set_cons_succ]
              refine a_skip (some 117) rfl rfl (by rfl) ?_
              simp only [Act.put, List.setIfInBounds_toArray, List.set_cons_zero, List.set_cons_succ]
              refine a_skip (some 118) rfl rfl (by rfl) ?_
              simp only [Act.put, List.setIfInBounds_toArray, List.set_cons_zero, List.set_cons_succ]
              refine a_skip (some 119) rfl rfl (by rfl) ?_
              simp only [Act.put, List.setIfInBounds_toArray, List.set_cons_zero, List.set_cons_succ]
              refine a_skip (some 120) rfl rfl (by rfl) ?_
              simp only [Act.put, List.setIfInBounds_toArray, List.set_cons_zero, List.set_cons_succ]
              refine a_skip (some 121) rfl rfl (by rfl) ?_
              simp only [Act.put, List.setIfInBounds_toArray, List.set_cons_zero, List.set_cons_succ]
              refine a_skip (some 122) rfl rfl (by rfl) ?_
              simp only [Act.put, List.setIfInBounds_toArray, List.set_cons_zero, List.set_cons_succ]
              refine a_skip (some 123) rfl rfl (by rfl) ?_
              simp only [Act.put, List.setIfInBounds_toArray, List.set_cons_zero, List.set_cons_succ]
              refine a_skip (some 124) rfl rfl (by rfl) ?_
              simp only [Act.put, List.setIfInBounds_toArray, List.set_cons_zero, List.set_cons_succ]
              refine a_value (some 125) ?_ rfl rfl (by rfl) (fun w hw => ?_) ?_
              rotate_left
              · go_simp
                with_reducible rfl
              simp only [Act.put, List.setIfInBounds_toArray, List.set_cons_zero, List.set_cons_succ]
              refine a_done ?_
              try simp only [Exit.then]
              have hB2w : Hid (Below w.heap.size w w2) := hB.out.trans (hB2.mono hB.out.size)
              clear HIN hBd hb2 hB2
              go_wp2
              go_ret
              exact ⟨by rw [show eE = _ from HV.out] <;> rfl, hB2w.out⟩
            | true =>
              by_cases hi0 : i = 0
              · subst hi0
                have HCI : Hid (∀ wx, Below wr.heap.size wr wx → wx.cell? ⟨sb, soff, none⟩ = some (.string t)) := HCI.out
                have hok' : Hid (∀ j, j < 0 + 1 → nmOk ns j = true) := fun j hj => by
                  obtain rfl : j = 0 := by omega
                  unfold nmOk
                  rw [show ns.getD 0 ⟨#[]⟩ = t from HG1.out, ← show true = nameB t from HNB.out]
                  rfl
                clear hok HNO HG1 HNB
                go_wp2_with fail
                refine wp_region_permA [(false, 0), (false, 1), (false, 2), (false, 3), (false, 4), (true, 5), (false, 6), (false, 7), (false, 8), (false, 9), (false, 10), (false, 11), (false, 12), (false, 13), (false, 14), (false, 15), (false, 16), (false, 17), (false, 18), (false, 19), (false, 20), (false, 21), (false, 22), (false, 23), (false, 24)] (fun wx => Below wr.heap.size wr wx) (by kernel_rfl) (by kernel_rfl) hBd ?_
                refine a_value (some 101) ?_ rfl rfl (by rfl) (fun w hw => ?_) ?_
                rotate_left
                · go_simp
                  with_reducible rfl
                simp only [Act.put, List.setIfInBounds_toArray, List.set_cons_zero, List.set_cons_succ]
                refine a_value (some 102) ?_ rfl rfl (by rfl) (fun w hw => ?_) ?_
                rotate_left
                · have hc := (Row.cell (HRw.out _ hw) 3).trans (rfl : _ = some (Value.slice (some ⟨sb, soff, none⟩) nl nc))
                  go_simp
                  with_reducible rfl
                simp only [Act.put, List.setIfInBounds_toArray, List.set_cons_zero, List.set_cons_succ]
                refine a_move (some 103) _ rfl rfl rfl (by rfl) ?_
                simp only [Act.put, List.setIfInBounds_toArray, List.set_cons_zero, List.set_cons_succ]
                refine a_value (some 104) ?_ rfl rfl (by rfl) (fun w hw => ?_) ?_
                rotate_left
                · go_simp
                  with_reducible rfl
                simp only [Act.put, List.setIfInBounds_toArray, List.set_cons_zero, List.set_cons_succ]
                refine a_value (some 105) ?_ rfl rfl (by rfl) (fun w hw => ?_) ?_
                rotate_left
                · have hc := HCI.out _ hw
                  go_simp
                  with_reducible rfl
                simp only [Act.put, List.setIfInBounds_toArray, List.set_cons_zero, List.set_cons_succ]
                refine a_call (some 106) rfl rfl (by rfl) 44 #[.string t] (by go_simp) (Calls.mono HIN.out ?_)
                rintro e w2 ⟨rfl, hb2⟩
                have hB2 : Below wr.heap.size wr w2 := hBd.trans (hb2.mono hBd.size)
                refine ⟨_, rfl, hB2, ?_⟩
                simp only [Act.put, List.setIfInBounds_toArray, List.set_cons_zero, List.set_cons_succ]
                refine a_value (some 107) ?_ rfl rfl (by rfl) (fun w hw => ?_) ?_
                rotate_left
                · go_simp
                  with_reducible rfl
                simp only [Act.put, List.setIfInBounds_toArray, List.set_cons_zero, List.set_cons_succ]
                refine a_move (some 108) _ rfl rfl rfl (by rfl) ?_
                simp only [Act.put, List.setIfInBounds_toArray, List.set_cons_zero, List.set_cons_succ]
                refine a_move (some 109) _ rfl rfl rfl (by rfl) ?_
                simp only [Act.put, List.setIfInBounds_toArray, List.set_cons_zero, List.set_cons_succ]
                refine a_value (some 110) ?_ rfl rfl (by rfl) (fun w hw => ?_) ?_
                rotate_left
                · go_simp
                  with_reducible rfl
                simp only [Act.put, List.setIfInBounds_toArray, List.set_cons_zero, List.set_cons_succ]
                refine a_move (some 111) _ rfl rfl rfl (by rfl) ?_
                simp only [Act.put, List.setIfInBounds_toArray, List.set_cons_zero, List.set_cons_succ]
                refine a_skip (some 112) rfl rfl (by rfl) ?_
                simp only [Act.put, List.setIfInBounds_toArray, List.set_cons_zero, List.set_cons_succ]
                refine a_skip (some 113) rfl rfl (by rfl) ?_
                simp only [Act.put, List.setIfInBounds_toArray, List.set_cons_zero, List.set_cons_succ]
                refine a_skip (some 114) rfl rfl (by rfl) ?_
                simp only [Act.put, List.setIfInBounds_toArray, List.set_cons_zero, List.set_cons_succ]
                refine a_skip (some 115) rfl rfl (by rfl) ?_
                simp only [Act.put, List.setIfInBounds_toArray, List.set_cons_zero, List.set_cons_succ]
                refine a_skip (some 116) rfl rfl (by rfl) ?_
                simp only [Act.put, List.setIfInBounds_toArray, List.set_cons_zero, List.set_cons_succ]
                refine a_skip (some 117) rfl rfl (by rfl) ?_
                simp only [Act.put, List.setIfInBounds_toArray, List.set_cons_zero, List.set_cons_succ]
                refine a_skip (some 118) rfl rfl (by rfl) ?_
                simp only [Act.put, List.setIfInBounds_toArray, List.set_cons_zero, List.set_cons_succ]
                refine a_skip (some 119) rfl rfl (by rfl) ?_
                simp only [Act.put, List.setIfInBounds_toArray, List.set_cons_zero, List.set_cons_succ]
                refine a_skip (some 120) rfl rfl (by rfl) ?_
                simp only [Act.put, List.setIfInBounds_toArray, List.set_cons_zero, List.set_cons_succ]
                refine a_skip (some 121) rfl rfl (by rfl) ?_
                simp only [Act.put, List.setIfInBounds_toArray, List.set_cons_zero, List.set_cons_succ]
                refine a_skip (some 122) rfl rfl (by rfl) ?_
                simp only [Act.put, List.setIfInBounds_toArray, List.set_cons_zero, List.set_cons_succ]
                refine a_skip (some 123) rfl rfl (by rfl) ?_
                simp only [Act.put, List.setIfInBounds_toArray, List.set_cons_zero, List.set_cons_succ]
                refine a_value (some 124) ?_ rfl rfl (by rfl) (fun w hw => ?_) ?_
                rotate_left
                · go_simp
                  with_reducible rfl
                simp only [Act.put, List.setIfInBounds_toArray, List.set_cons_zero, List.set_cons_succ]
                refine a_value (some 125) ?_ rfl rfl (by rfl) (fun w hw => ?_) ?_
                rotate_left
                · go_simp
                  with_reducible rfl
                simp only [Act.put, List.setIfInBounds_toArray, List.set_cons_zero, List.set_cons_succ]
                refine a_done ?_
                try simp only [Exit.then]
                have hB2w : Hid (Below w.heap.size w w2) := hB.out.trans (hB2.mono hB.out.size)
                have hBBw : Hid (Below wB.heap.size wB w2) := HBB2.out w2 hB2
                clear HIN hBd hb2 hB2
                go_wp2
                go_roundw
                case rel => exact ⟨0 + 1, by go_num, by omega, hok', hB2w, hBBw⟩
                case measure => simp [intOf]; omega
              · have hi0' : (0 : Int) < i := by omega
                have hgi : decide ((0 : Int) < i) = true := decide_eq_true hi0'
                have hlt3 : i - 1 < ns.length := by omega
                have hcp := fun wx (hb : Below wr.heap.size wr wx) => HCE.out wx (hB.out.trans (hb.mono hB.out.size)) (i - 1) hlt3
                have hg2 := getD_at ns (i - 1) hlt3
                obtain ⟨p, hp⟩ : ∃ p, p = ns[i - 1] := ⟨_, rfl⟩
                rw [← hp] at hg2
                simp only [← hp] at hcp
                have HCP : Hid (∀ wx, Below wr.heap.size wr wx → wx.cell? ⟨sb, soff + (i - 1), none⟩ = some (.string p)) := hcp
                have hnm : nmOk ns i = !sLe t p := by
                  unfold nmOk
                  rw [show ns.getD i ⟨#[]⟩ = t from HG1.out, hg2, ← show true = nameB t from HNB.out, decide_eq_false hi0]
                  simp
                obtain ⟨le, hle'⟩ : ∃ le, (Op.bytesLess t.toList p.toList || t.toList == p.toList) = le := ⟨_, rfl⟩
                have hnm' : nmOk ns i = !le := by rw [hnm]; unfold sLe; rw [hle']
                have HNM : Hid _ := hnm'
                have ei : ((i - 1 : Nat) : Int) = (i : Int) - 1 := by omega
                have ew : IntKind.i64.wrap ((i : Int) - 1) = ((i - 1 : Nat) : Int) := by rw [IntKind.wrap_i64]; omega
                clear hp hg2 hnm hnm' HG1 HNB hcp hlt3
                cases le with
                | true =>
                  have HV : Hid (eE = 17) := HNO.out (by rw [show nmOk ns i = _ from HNM.out]; rfl)
                  clear hok HNO HNM HAE3 HNBY
                  go_wp2_with fail
                  refine wp_region_permA [(false, 0), (false, 1), (false, 2), (false, 3), (false, 4), (true, 5), (false, 6), (false, 7), (false, 8), (false, 9), (false, 10), (false, 11), (false, 12), (false, 13), (false, 14), (false, 15), (false, 16), (false, 17), (false, 18), (false, 19), (false, 20), (false, 21), (false, 22), (false, 23), (false, 24)] (fun wx => Below wr.heap.size wr wx) (by kernel_rfl) (by kernel_rfl) hBd ?_
                  refine a_value (some 101) ?_ rfl rfl (by rfl) (fun w hw => ?_) ?_
                  rotate_left
                  · go_simp
                    with_reducible rfl
                  simp only [Act.put, List.setIfInBounds_toArray, List.set_cons_zero, List.set_cons_succ]
                  refine a_value (some 102) ?_ rfl rfl (by rfl) (fun w hw => ?_) ?_
                  rotate_left
                  · have hc := (Row.cell (HRw.out _ hw) 3).trans (rfl : _ = some (Value.slice (some ⟨sb, soff, none⟩) nl nc))
                    go_simp
                    with_reducible rfl
                  simp only [Act.put, List.setIfInBounds_toArray, List.set_cons_zero, List.set_cons_succ]
                  refine a_move (some 103) _ rfl rfl rfl (by rfl) ?_
                  simp only [Act.put, List.setIfInBounds_toArray, List.set_cons_zero, List.set_cons_succ]
                  refine a_value (some 104) ?_ rfl rfl (by rfl) (fun w hw => ?_) ?_
                  rotate_left
                  · go_simp
                    with_reducible rfl
                  simp only [Act.put, List.setIfInBounds_toArray, List.set_cons_zero, List.set_cons_succ]
                  refine a_value (some 105) ?_ rfl rfl (by rfl) (fun w hw => ?_) ?_
                  rotate_left
                  · have hc := HCI.out _ hw
                    go_simp
                    with_reducible rfl
                  simp only [Act.put, List.setIfInBounds_toArray, List.set_cons_zero, List.set_cons_succ]
                  refine a_call (some 106) rfl rfl (by rfl) 44 #[.string t] (by go_simp) (Calls.mono HIN.out ?_)
                  rintro e w2 ⟨rfl, hb2⟩
                  have hB2 : Below wr.heap.size wr w2 := hBd.trans (hb2.mono hBd.size)
                  refine ⟨_, rfl, hB2, ?_⟩
                  simp only [Act.put, List.setIfInBounds_toArray, List.set_cons_zero, List.set_cons_succ]
                  refine a_value (some 107) ?_ rfl rfl (by rfl) (fun w hw => ?_) ?_
                  rotate_left
                  · go_simp
                    with_reducible rfl
                  simp only [Act.put, List.setIfInBounds_toArray, List.set_cons_zero, List.set_cons_succ]
                  refine a_move (some 108) _ rfl rfl rfl (by rfl) ?_
                  simp only [Act.put, List.setIfInBounds_toArray, List.set_cons_zero, List.set_cons_succ]
                  refine a_move (some 109) _ rfl rfl rfl (by rfl) ?_
                  simp only [Act.put, List.setIfInBounds_toArray, List.set_cons_zero, List.set_cons_succ]
                  refine a_value (some 110) (.bool true) rfl rfl (by rfl) (fun w hw => ?_) ?_
                  · go_simp
                    omega
                  simp only [Act.put, List.setIfInBounds_toArray, List.set_cons_zero, List.set_cons_succ]
                  refine a_move (some 111) _ rfl rfl rfl (by rfl) ?_
                  simp only [Act.put, List.setIfInBounds_toArray, List.set_cons_zero, List.set_cons_succ]
                  refine a_value (some 112) ?_ rfl rfl (by rfl) (fun w hw => ?_) ?_
                  rotate_left
                  · go_simp
                    with_reducible rfl
                  simp only [Act.put, List.setIfInBounds_toArray, List.set_cons_zero, List.set_cons_succ]
                  refine a_value (some 113) ?_ rfl rfl (by rfl) (fun w hw => ?_) ?_
                  rotate_left
                  · have hc := (Row.cell (HRw.out _ hw) 3).trans (rfl : _ = some (Value.slice (some ⟨sb, soff, none⟩) nl nc))
                    go_simp
                    with_reducible rfl
                  simp only [Act.put, List.setIfInBounds_toArray, List.set_cons_zero, List.set_cons_succ]
                  refine a_move (some 114) _ rfl rfl rfl (by rfl) ?_
                  simp only [Act.put, List.setIfInBounds_toArray, List.set_cons_zero, List.set_cons_succ]
                  refine a_value (some 115) ?_ rfl rfl (by rfl) (fun w hw => ?_) ?_
                  rotate_left
                  · go_simp
                    with_reducible rfl
                  simp only [Act.put, List.setIfInBounds_toArray, List.set_cons_zero, List.set_cons_succ]
                  refine a_value (some 116) ?_ rfl rfl (by rfl) (fun w hw => ?_) ?_
                  rotate_left
                  · have hc := HCI.out _ hw
                    go_simp
                    with_reducible rfl
                  simp only [Act.put, List.setIfInBounds_toArray, List.set_cons_zero, List.set_cons_succ]
                  refine a_value (some 117) ?_ rfl rfl (by rfl) (fun w hw => ?_) ?_
                  rotate_left
                  · go_simp
                    with_reducible rfl
                  simp only [Act.put, List.setIfInBounds_toArray, List.set_cons_zero, List.set_cons_succ]
                  refine a_value (some 118) ?_ rfl rfl (by rfl) (fun w hw => ?_) ?_
                  rotate_left
                  · have hc := (Row.cell (HRw.out _ hw) 3).trans (rfl : _ = some (Value.slice (some ⟨sb, soff, none⟩) nl nc))
                    go_simp
                    with_reducible rfl
                  simp only [Act.put, List.setIfInBounds_toArray, List.set_cons_zero, List.set_cons_succ]
                  refine a_move (some 119) _ rfl rfl rfl (by rfl) ?_
                  simp only [Act.put, List.setIfInBounds_toArray, List.set_cons_zero, List.set_cons_succ]
                  refine a_value (some 120) ?_ rfl rfl (by rfl) (fun w hw => ?_) ?_
                  rotate_left
                  · go_simp
                    with_reducible rfl
                  simp only [Act.put, List.setIfInBounds_toArray, List.set_cons_zero, List.set_cons_succ]
                  refine a_value (some 121) (.pointer (some ⟨sb, soff + (i - 1), none⟩)) rfl rfl (by rfl) (fun w hw => ?_) ?_
                  · go_simp
                    first | done | omega | (rw [if_pos (by omega)])
                  simp only [Act.put, List.setIfInBounds_toArray, List.set_cons_zero, List.set_cons_succ]
                  refine a_value (some 122) ?_ rfl rfl (by rfl) (fun w hw => ?_) ?_
                  rotate_left
                  · have hc := HCP.out _ hw
                    go_simp
                    with_reducible rfl
                  simp only [Act.put, List.setIfInBounds_toArray, List.set_cons_zero, List.set_cons_succ]
                  refine a_value (some 123) ?_ rfl rfl (by rfl) (fun w hw => ?_) ?_
                  rotate_left
                  · go_simp
                    with_reducible rfl
                  simp only [Act.put, List.setIfInBounds_toArray, List.set_cons_zero, List.set_cons_succ]
                  refine a_value (some 124) ?_ rfl rfl (by rfl) (fun w hw => ?_) ?_
                  rotate_left
                  · go_simp
                    with_reducible rfl
                  simp only [Act.put, List.setIfInBounds_toArray, List.set_cons_zero, List.set_cons_succ]
                  refine a_value (some 125) ?_ rfl rfl (by rfl) (fun w hw => ?_) ?_
                  rotate_left
                  · go_simp
                    with_reducible rfl
                  simp only [Act.put, List.setIfInBounds_toArray, List.set_cons_zero, List.set_cons_succ]
                  refine a_done ?_
                  try simp only [Exit.then]
                  have hB2w : Hid (Below w.heap.size w w2) := hB.out.trans (hB2.mono hB.out.size)
                  clear HIN hBd hb2 hB2
                  go_wp2
                  go_ret
                  exact ⟨by rw [show eE = _ from HV.out] <;> rfl, hB2w.out⟩
                | false =>
                  have hok' : Hid (∀ j, j < i + 1 → nmOk ns j = true) := fun j hj => by
                    by_cases e : j = i
                    · subst e
                      rw [show nmOk ns j = _ from HNM.out]
                      rfl
                    · exact hok.out j (by omega)
                  clear hok HNO HNM
                  go_wp2_with fail
                  refine wp_region_permA [(false, 0), (false, 1), (false, 2), (false, 3), (false, 4), (true, 5), (false, 6), (false, 7), (false, 8), (false, 9), (false, 10), (false, 11), (false, 12), (false, 13), (false, 14), (false, 15), (false, 16), (false, 17), (false, 18), (false, 19), (false, 20), (false, 21), (false, 22), (false, 23), (false, 24)] (fun wx => Below wr.heap.size wr wx) (by kernel_rfl) (by kernel_rfl) hBd ?_
                  refine a_value (some 101) ?_ rfl rfl (by rfl) (fun w hw => ?_) ?_
                  rotate_left
                  · go_simp
                    with_reducible rfl
                  simp only [Act.put, List.setIfInBounds_toArray, List.set_cons_zero, List.set_cons_succ]
                  refine a_value (some 102) ?_ rfl rfl (by rfl) (fun w hw => ?_) ?_
                  rotate_left
                  · have hc := (Row.cell (HRw.out _ hw) 3).trans (rfl : _ = some (Value.slice (some ⟨sb, soff, none⟩) nl nc))
                    go_simp
                    with_reducible rfl
                  simp only [Act.put, List.setIfInBounds_toArray, List.set_cons_zero, List.set_cons_succ]
                  refine a_move (some 103) _ rfl rfl rfl (by rfl) ?_
                  simp only [Act.put, List.setIfInBounds_toArray, List.set_cons_zero, List.set_cons_succ]
                  refine a_value (some 104) ?_ rfl rfl (by rfl) (fun w hw => ?_) ?_
                  rotate_left
                  · go_simp
                    with_reducible rfl
                  simp only [Act.put, List.setIfInBounds_toArray, List.set_cons_zero, List.set_cons_succ]
                  refine a_value (some 105) ?_ rfl rfl (by rfl) (fun w hw => ?_) ?_
                  rotate_left
                  · have hc := HCI.out _ hw
                    go_simp
                    with_reducible rfl
                  simp only [Act.put, List.setIfInBounds_toArray, List.set_cons_zero, List.set_cons_succ]
                  refine a_call (some 106) rfl rfl (by rfl) 44 #[.string t] (by go_simp) (Calls.mono HIN.out ?_)
                  rintro e w2 ⟨rfl, hb2⟩
                  have hB2 : Below wr.heap.size wr w2 := hBd.trans (hb2.mono hBd.size)
                  refine ⟨_, rfl, hB2, ?_⟩
                  simp only [Act.put, List.setIfInBounds_toArray, List.set_cons_zero, List.set_cons_succ]
                  refine a_value (some 107) ?_ rfl rfl (by rfl) (fun w hw => ?_) ?_
                  rotate_left
                  · go_simp
                    with_reducible rfl
                  simp only [Act.put, List.setIfInBounds_toArray, List.set_cons_zero, List.set_cons_succ]
                  refine a_move (some 108) _ rfl rfl rfl (by rfl) ?_
                  simp only [Act.put, List.setIfInBounds_toArray, List.set_cons_zero, List.set_cons_succ]
                  refine a_move (some 109) _ rfl rfl rfl (by rfl) ?_
                  simp only [Act.put, List.setIfInBounds_toArray, List.set_cons_zero, List.set_cons_succ]
                  refine a_value (some 110) (.bool true) rfl rfl (by rfl) (fun w hw => ?_) ?_
                  · go_simp
                    omega
                  simp only [Act.put, List.setIfInBounds_toArray, List.set_cons_zero, List.set_cons_succ]
                  refine a_move (some 111) _ rfl rfl rfl (by rfl) ?_
                  simp only [Act.put, List.setIfInBounds_toArray, List.set_cons_zero, List.set_cons_succ]
                  refine a_value (some 112) ?_ rfl rfl (by rfl) (fun w hw => ?_) ?_
                  rotate_left
                  · go_simp
                    with_reducible rfl
                  simp only [Act.put, List.setIfInBounds_toArray, List.set_cons_zero, List.set_cons_succ]
                  refine a_value (some 113) ?_ rfl rfl (by rfl) (fun w hw => ?_) ?_
                  rotate_left
                  · have hc := (Row.cell (HRw.out _ hw) 3).trans (rfl : _ = some (Value.slice (some ⟨sb, soff, none⟩) nl nc))
                    go_simp
                    with_reducible rfl
                  simp only [Act.put, List.setIfInBounds_toArray, List.set_cons_zero, List.set_cons_succ]
                  refine a_move (some 114) _ rfl rfl rfl (by rfl) ?_
                  simp only [Act.put, List.setIfInBounds_toArray, List.set_cons_zero, List.set_cons_succ]
                  refine a_value (some 115) ?_ rfl rfl (by rfl) (fun w hw => ?_) ?_
                  rotate_left
                  · go_simp
                    with_reducible rfl
                  simp only [Act.put, List.setIfInBounds_toArray, List.set_cons_zero, List.set_cons_succ]
                  refine a_value (some 116) ?_ rfl rfl (by rfl) (fun w hw => ?_) ?_
                  rotate_left
                  · have hc := HCI.out _ hw
                    go_simp
                    with_reducible rfl
                  simp only [Act.put, List.setIfInBounds_toArray, List.set_cons_zero, List.set_cons_succ]
                  refine a_value (some 117) ?_ rfl rfl (by rfl) (fun w hw => ?_) ?_
                  rotate_left
                  · go_simp
                    with_reducible rfl
                  simp only [Act.put, List.setIfInBounds_toArray, List.set_cons_zero, List.set_cons_succ]
                  refine a_value (some 118) ?_ rfl rfl (by rfl) (fun w hw => ?_) ?_
                  rotate_left
                  · have hc := (Row.cell (HRw.out _ hw) 3).trans (rfl : _ = some (Value.slice (some ⟨sb, soff, none⟩) nl nc))
                    go_simp
                    with_reducible rfl
                  simp only [Act.put, List.setIfInBounds_toArray, List.set_cons_zero, List.set_cons_succ]
                  refine a_move (some 119) _ rfl rfl rfl (by rfl) ?_
                  simp only [Act.put, List.setIfInBounds_toArray, List.set_cons_zero, List.set_cons_succ]
                  refine a_value (some 120) ?_ rfl rfl (by rfl) (fun w hw => ?_) ?_
                  rotate_left
                  · go_simp
                    with_reducible rfl
                  simp only [Act.put, List.setIfInBounds_toArray, List.set_cons_zero, List.set_cons_succ]
                  refine a_value (some 121) (.pointer (some ⟨sb, soff + (i - 1), none⟩)) rfl rfl (by rfl) (fun w hw => ?_) ?_
                  · go_simp
                    first | done | omega | (rw [if_pos (by omega)])
                  simp only [Act.put, List.setIfInBounds_toArray, List.set_cons_zero, List.set_cons_succ]
                  refine a_value (some 122) ?_ rfl rfl (by rfl) (fun w hw => ?_) ?_
                  rotate_left
                  · have hc := HCP.out _ hw
                    go_simp
                    with_reducible rfl
                  simp only [Act.put, List.setIfInBounds_toArray, List.set_cons_zero, List.set_cons_succ]
                  refine a_value (some 123) ?_ rfl rfl (by rfl) (fun w hw => ?_) ?_
                  rotate_left
                  · go_simp
                    with_reducible rfl
                  simp only [Act.put, List.setIfInBounds_toArray, List.set_cons_zero, List.set_cons_succ]
                  refine a_value (some 124) ?_ rfl rfl (by rfl) (fun w hw => ?_) ?_
                  rotate_left
                  · go_simp
                    with_reducible rfl
                  simp only [Act.put, List.setIfInBounds_toArray, List.set_cons_zero, List.set_cons_succ]
                  refine a_value (some 125) ?_ rfl rfl (by rfl) (fun w hw => ?_) ?_
                  rotate_left
                  · go_simp
                    with_reducible rfl
                  simp only [Act.put, List.setIfInBounds_toArray, List.set_cons_zero, List.set_cons_succ]
                  refine a_done ?_
                  try simp only [Exit.then]
                  have hB2w : Hid (Below w.heap.size w w2) := hB.out.trans (hB2.mono hB.out.size)
                  have hBBw : Hid (Below wB.heap.size wB w2) := HBB2.out w2 hB2
                  clear HIN hBd hb2 hB2
                  go_wp2
                  clear hle' ei ew hgi
                  go_roundw
                  case rel => exact ⟨i + 1, by go_num, by omega, hok', hB2w, hBBw⟩
                  case measure => simp [intOf]; omega
          · have hlt' : ¬ (i : Int) < (nl : Int) := by omega
            have HEE : Hid (eE = eachL ks) := by
              show eE = _
              rw [show eE = _ from HAE3.out, if_neg]
              rw [HNBY.out.2 (fun j hj => hok.out j (by have := HNL.out; omega))]
              simp
            clear hok HAE3 HNBY
            go_wp2
            go_loopw [4] (fun iv wx => ∃ i : Nat, iv = .int .i64 i ∧ i ≤ kl ∧ Hid (eachL (ks.drop i) = eE) ∧ Hid (Below w.heap.size w wx) ∧ Hid (Below wB.heap.size wB wx)) (fun iv _ => kl - (intOf iv).toNat)
            case atStart => exact ⟨0, rfl, Nat.zero_le _, HEE.out.symm, hB, hBB⟩
            case round =>
              clear c3
              obtain ⟨i, rfl, hi, hL, hB, hBB⟩ := hrel
              have c4 := ((HRw0.out wr hBB.out).cell 4).trans (rfl : _ = some (Value.slice ka kl kc))
              by_cases hlt : i < kl
              · have hlt' : (i : Int) < (kl : Int) := by omega
                obtain rfl := hat (by omega)
                have hlt2 : i < ks.length := by rw [← HKL.out]; exact hlt
                have HRG : Hid _ := (HK.out wr hB.out).range i hlt
                have hsi2 : (Tryd.prog.info? 26).map (·.size) = some (Cs i).toList.length := by rw [infoN, Array.length_toList, (HK.out wr hB.out).size i hlt]
                have HC : Hid _ := HIH.out ks[i] (Nd.kid_lt HN.out i hlt2) (by have := Nd.countL_at ks i hlt2; have := H6.out; omega) wr (Cs i) (HE.out _ hB.out i hlt2)
                have hnx := eachL_next ks i hlt2
                obtain ⟨te, hte⟩ : ∃ te, te = eachE ks[i] := ⟨_, rfl⟩
                rw [← hte] at HC hnx
                have HNX : Hid _ := hnx
                clear hte hnx
                go_wp2_with (refine wpList_load_mid rfl 26 _ rfl kb (koff + i * 5) rfl (Cs i).toList _ HRG.out Tryd.underlying26 rfl hsi2 ?_; simp only [Array.toArray_toList])
                refine Calls.mono HC.out ?_
                rintro e w2 ⟨rfl, hb2⟩
                have hB2 : Hid (Below w.heap.size w w2) := hB.out.trans (hb2.mono hB.out.size)
                have hBB2 : Hid (Below wB.heap.size wB w2) := hBB.out.trans (hb2.mono hBB.out.size)
                clear HC HRG hb2 c4
                by_cases ht0 : te = 0
                · subst ht0
                  have HL' : Hid (eachL (ks.drop (i + 1)) = eE) := by
                    show _ = _
                    rw [← show eachL (ks.drop i) = eE from hL.out, show eachL (ks.drop i) = _ from HNX.out, if_neg (by simp)]
                  clear hL HNX
                  go_wp2
                  go_roundw
                  case rel => exact ⟨i + 1, by go_num, by omega, HL', hB2, hBB2⟩
                  case measure => simp [intOf]; omega
                · have HV : Hid (eE = te) := by
                    show _ = _
                    rw [← show eachL (ks.drop i) = eE from hL.out, show eachL (ks.drop i) = _ from HNX.out, if_pos ht0]
                  clear hL HNX
                  go_wp2
                  go_ret
                  exact ⟨by rw [show eE = te from HV.out] <;> rfl, hB2.out⟩
              · have hlt' : ¬ (i : Int) < (kl : Int) := by omega
                have HV : Hid (eE = 0) := by
                  show _ = _
                  rw [← show eachL (ks.drop i) = eE from hL.out, List.drop_eq_nil_of_le (by have := HKL.out; omega)]
                  unfold eachL
                  rfl
                clear hL
                go_wp2
                go_ret
                exact ⟨by rw [show eE = 0 from HV.out] <;> rfl, hB.out⟩
theorem one_ok (n : Nd) (w : World) (C : Array Value) (h : NodeAt w n C) (hc : n.count ≤ 16000) : Calls Tryd.prog 28 #[.agg C] w fun e w' => e = .returned (.int .i64 (eachE n)) ∧ Below w.heap.size w w' := by
  have key : ∀ N : Nat, ∀ n : Nd, n.count ≤ N → n.count ≤ 16000 → ∀ (w : World) (C : Array Value), NodeAt w n C → Calls Tryd.prog 28 #[.agg C] w fun e w' => e = .returned (.int .i64 (eachE n)) ∧ Below w.heap.size w w' := by
    intro N
    induction N with
    | zero => intro n hn; have := n.count_pos; omega
    | succ N ih => exact one_step N ih
  exact key n.count n (Nat.le_refl _) hc w C h
end Go.Proofs.YtpkbfljoakodoaaDoor
