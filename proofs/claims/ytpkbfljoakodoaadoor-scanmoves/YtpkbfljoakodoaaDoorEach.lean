/- The walks of rightAlone, rightEach, census and Right: what is wrong with a node. -/
import Derived.Test.YtpkbfljoakodoaaDoorAlone
namespace Go.Proofs.YtpkbfljoakodoaaDoor
open Go.RowKit

/-- Too many bytes, or entries? -/
def bigB (n : Nd) : Bool := decide ((if n.kind = 3 then 1024 else 31744 : Int) < ((n.data.size + entN n.names : Nat) : Int))
/-- What is wrong with a node by itself. -/
def aloneE (n : Nd) : Int := if kindB n = false then 12 else if bigB n = true then 3 else if n.kind = 3 ∧ n.data.size = 0 then 2 else if namesB n.names = false then 17 else 0
/-- Where a node's kind is right its names are few, or as many as its nodes. -/
theorem kindB_names {n : Nd} (h : kindB n = true) : n.names.length ≤ n.kids.length := by
  unfold kindB at h
  split at h
  · simp only [Bool.and_eq_true, decide_eq_true_eq] at h
    omega
  · split at h
    · simp only [Bool.and_eq_true, decide_eq_true_eq] at h
      omega
    · split at h
      · simp only [Bool.and_eq_true, decide_eq_true_eq] at h
        omega
      · cases h
/-- So few nodes that no sum of theirs runs over. -/
theorem sizes_bd {w : World} {n : Nd} {C : Array Value} (h : NodeAt w n C) (hc : n.count ≤ 16000) (hk : kindB n = true) : n.data.size + entN n.names ≤ 4611686018427387904 := by
  have h1 := kindB_names hk
  cases h with
  | @mk k e dt ns ks da dc na nc ka kb koff kc Cs hk hdt hn hks each =>
  have h2 := entN_bd ns big hn.each
  have h3 := hdt.len
  have h4 := Nd.countL_len ks
  simp only [Nd.count] at hc
  simp only [Nd.names, Nd.kids] at h1
  simp only [Nd.data, Nd.names]
  have h5 : ns.length * (big + 3) ≤ 16000 * (big + 3) := Nat.mul_le_mul_right _ (by omega)
  unfold big at *
  omega
theorem Row.range {w : World} {g : Nat} {C : Array Value} {t : TypeId} (h : Row w g C t) : w.rangeAt g 0 C.toList := fun j v hj => by
  rw [Nat.zero_add, h.cell j, ← Array.getElem?_toList]
  exact hj

set_option maxRecDepth 20000 in
set_option maxHeartbeats 2000000 in
theorem rightAlone_ok (n : Nd) (w : World) (C : Array Value) (h : NodeAt w n C) (hc : n.count ≤ 16000) : Calls Tryd.prog 62 #[.agg C] w fun e w' => e = .returned (.int .i64 (aloneE n)) ∧ Below w.heap.size w w' := by
  have hb0 : Below w.heap.size w (w.alloc (.cells C 26)) := (Below.refl _ _).alloc (Nat.le_refl _) _
  have hR := Row.new w C 26
  have hNA := h.keep hb0
  have HK : Hid _ := rightKind_ok n _ C hNA
  have HSZ : Hid (∀ wx, Below w.heap.size w wx → kindB n = true → Calls Tryd.prog 83 #[.agg C] wx fun e w' => e = .returned (.int .i64 ((n.data.size + entN n.names : Nat) : Int)) ∧ Below wx.heap.size wx w') := fun wx hb hk => size_ok n wx C (h.keep hb) (sizes_bd h hc hk)
  have HRN : Hid (∀ wx, Below w.heap.size w wx → ∃ na nc, C[3]? = some (.slice na n.names.length nc) ∧ Calls Tryd.prog 85 #[.slice na n.names.length nc] wx fun e w' => e = .returned (.bool (namesB n.names)) ∧ Below wx.heap.size wx w') := fun wx hb => by
    cases h with
    | @mk k e dt ns ks da dc na nc ka kb koff kc Cs hk hdt hn hks each => exact ⟨na, nc, rfl, rightNames_ok ns na nc wx (hn.keep hb)⟩
  obtain ⟨a0, a2⟩ : C[0]? = some (.int .i64 n.kind) ∧ ∃ da dc, C[2]? = some (.slice da n.data.size dc) := by cases h; exact ⟨rfl, _, _, rfl⟩
  obtain ⟨da, dc, a2⟩ := a2
  have hsi : (Tryd.prog.info? 26).map (·.size) = some C.size := by rw [infoN, h.size]
  have hsi' : (Tryd.prog.info? 26).map (·.size) = some C.toList.length := by rw [infoN, Array.length_toList, h.size]
  obtain ⟨kd, hkd⟩ : ∃ kd, kd = n.kind := ⟨_, rfl⟩
  obtain ⟨dl, hdl⟩ : ∃ dl, dl = n.data.size := ⟨_, rfl⟩
  obtain ⟨sz, hsz⟩ : ∃ sz, sz = n.data.size + entN n.names := ⟨_, rfl⟩
  obtain ⟨kB, hkB⟩ : ∃ kB, kB = kindB n := ⟨_, rfl⟩
  obtain ⟨nB, hnB⟩ : ∃ nB, nB = namesB n.names := ⟨_, rfl⟩
  obtain ⟨mx, hmx⟩ : ∃ mx : Int, mx = if kd = 3 then 1024 else 31744 := ⟨_, rfl⟩
  have haE : aloneE n = if kB = false then 12 else if mx < sz then 3 else if kd = 3 ∧ dl = 0 then 2 else if nB = false then 17 else 0 := by
    unfold aloneE bigB
    rw [hkB, hmx, hsz, hkd, hdl, hnB]
    simp only [decide_eq_true_eq]
  have HAE : Hid _ := haE
  rw [← hkd] at a0
  rw [← hdl] at a2
  rw [← hkB] at HK HSZ
  rw [← hnB] at HRN
  rw [← hsz] at HSZ
  have HR : Hid _ := hR
  clear hR haE hkd hdl hsz hkB hnB h hNA
  have HMX : Hid (∀ wx, Calls Tryd.prog 84 #[.int .i64 kd] wx fun e w' => e = .returned (.int .i64 mx) ∧ w' = wx) := fun wx => by rw [hmx]; exact maxSize_ok kd wx
  clear hmx
  go_enter Tryd.func62, Tryd.ntmps62
  generalize hwB : w.alloc (.cells C 26) = wB at *
  go_wp2_with (refine wpList_load_row rfl 26 _ rfl w.heap.size rfl 26 C (0, 0) _ HR.out Tryd.underlying26 rfl hsi ?_)
  refine Calls.mono HK.out ?_
  rintro e w1 ⟨rfl, hb1⟩
  clear HK
  have hB1 : Hid (Below w.heap.size w w1) := hb0.trans (hb1.mono hb0.size)
  have hR1 : Row w1 w.heap.size C 26 := Row.below HR.out hb1 (Row.lt HR.out)
  have hlt0 : w.heap.size < w1.heap.size := hR1.lt
  cases kB with
  | false =>
    have HV : Hid (aloneE n = 12) := by
      show aloneE n = _
      rw [show aloneE n = _ from HAE.out, if_pos rfl]
    clear HAE
    clear HSZ HRN HMX
    go_wp2
    go_ret
    exact ⟨by rw [show aloneE n = _ from HV.out] <;> rfl, hB1.out⟩
  | true =>
  have hBd : Below w1.heap.size w1 w1.drew := (Below.refl _ _).drew
  have HC : Hid (∀ wx, Below w1.heap.size w1 wx → Row wx w.heap.size C 26) := fun wx hb => hR1.below hb hlt0
  have HS1 : Hid _ := HSZ.out w1.drew hB1.out.drew rfl
  clear HSZ hb1
  go_wp2_with fail
  refine wp_region_permA [(false, 0), (false, 2), (false, 3), (true, 1), (true, 4), (false, 5), (false, 6)] (fun wx => Below w1.heap.size w1 wx) (by kernel_rfl) (by kernel_rfl) hBd ?_
  refine a_load_mid (some 8) 26 _ rfl rfl rfl (by rfl) w.heap.size 0 (by go_simp) C.toList _ (fun wx hw => Row.range (HC.out wx hw)) Tryd.underlying26 rfl hsi' ?_
  simp only [Array.toArray_toList]
  simp only [Act.put, List.setIfInBounds_toArray, List.set_cons_zero, List.set_cons_succ]
  refine a_value (some 10) ?_ rfl rfl (by rfl) (fun w hw => ?_) ?_
  rotate_left
  · go_simp
    with_reducible rfl
  simp only [Act.put, List.setIfInBounds_toArray, List.set_cons_zero, List.set_cons_succ]
  refine a_value (some 11) ?_ rfl rfl (by rfl) (fun w hw => ?_) ?_
  rotate_left
  · have hc := (Row.cell (HC.out _ hw) 0).trans a0
    go_simp
    with_reducible rfl
  simp only [Act.put, List.setIfInBounds_toArray, List.set_cons_zero, List.set_cons_succ]
  refine a_call (some 9) rfl rfl (by rfl) 83 #[.agg C] (by go_simp) (Calls.mono HS1.out ?_)
  rintro e w2 ⟨rfl, hb2⟩
  have hB2 : Below w1.heap.size w1 w2 := hBd.trans (hb2.mono hBd.size)
  refine ⟨_, rfl, hB2, ?_⟩
  simp only [Act.put, List.setIfInBounds_toArray, List.set_cons_zero, List.set_cons_succ]
  refine a_call (some 12) rfl rfl (by rfl) 84 #[.int .i64 kd] (by go_simp) (Calls.mono (HMX.out w2) ?_)
  rintro e w3 ⟨rfl, hw3⟩
  subst hw3
  refine ⟨_, rfl, hB2, ?_⟩
  simp only [Act.put, List.setIfInBounds_toArray, List.set_cons_zero, List.set_cons_succ]
  refine a_value (some 13) ?_ rfl rfl (by rfl) (fun w hw => ?_) ?_
  rotate_left
  · go_simp
    with_reducible rfl
  simp only [Act.put, List.setIfInBounds_toArray, List.set_cons_zero, List.set_cons_succ]
  refine a_value (some 7) ?_ rfl rfl (by rfl) (fun w hw => ?_) ?_
  rotate_left
  · go_simp
    with_reducible rfl
  simp only [Act.put, List.setIfInBounds_toArray, List.set_cons_zero, List.set_cons_succ]
  refine a_done ?_
  try simp only [Exit.then]
  have hB3 : Hid (Below w.heap.size w w3) := hB1.out.trans (hB2.mono hB1.out.size)
  have hR3 := HC.out w3 hB2
  clear HS1 HMX HC hb2 hBd hB2
  by_cases hbig : mx < (sz : Int)
  · skip
    have HV : Hid (aloneE n = 3) := by
      show aloneE n = _
      rw [show aloneE n = _ from HAE.out, if_neg (show ¬ (true = false) by simp), if_pos hbig]
    clear HAE
    clear HRN
    go_wp2
    go_ret
    exact ⟨by rw [show aloneE n = _ from HV.out] <;> rfl, hB3.out⟩
  have c0 := (hR3.cell 0).trans a0
  have c2 := (hR3.cell 2).trans a2
  by_cases hl3 : kd = 3
  · subst hl3
    by_cases hd0 : dl = 0
    · subst hd0
      have HV : Hid (aloneE n = 2) := by
        show aloneE n = _
        rw [show aloneE n = _ from HAE.out, if_neg (show ¬ (true = false) by simp), if_neg (show ¬ mx < (sz : Int) by omega), if_pos ⟨rfl, rfl⟩]
      clear HAE
      clear HRN
      go_wp2
      go_ret
      exact ⟨by rw [show aloneE n = _ from HV.out] <;> rfl, hB3.out⟩
    · have hd0' : ¬ (dl : Int) = 0 := by omega
      obtain ⟨na, nc, a3, HN⟩ := HRN.out w3 hB3.out
      have c3 := (hR3.cell 3).trans a3
      have HHN : Hid _ := HN
      clear HN HRN
      go_wp2_with fail
      refine Calls.mono HHN.out ?_
      rintro e w4 ⟨rfl, hb4⟩
      have hB4 : Hid (Below w.heap.size w w4) := hB3.out.trans (hb4.mono hB3.out.size)
      clear HHN hb4
      cases nB with
      | false =>
        have HV : Hid (aloneE n = 17) := by
          show aloneE n = _
          rw [show aloneE n = _ from HAE.out, if_neg (show ¬ (true = false) by simp), if_neg (show ¬ mx < (sz : Int) by omega), if_neg (fun h => hd0 h.2), if_pos rfl]
        clear HAE
        go_wp2
        go_ret
        exact ⟨by rw [show aloneE n = _ from HV.out] <;> rfl, hB4.out⟩
      | true =>
        have HV : Hid (aloneE n = 0) := by
          show aloneE n = _
          rw [show aloneE n = _ from HAE.out, if_neg (show ¬ (true = false) by simp), if_neg (show ¬ mx < (sz : Int) by omega), if_neg (fun h => hd0 h.2), if_neg (show ¬ (true = false) by simp)]
        clear HAE
        go_wp2
        go_ret
        exact ⟨by rw [show aloneE n = _ from HV.out] <;> rfl, hB4.out⟩
  · obtain ⟨na, nc, a3, HN⟩ := HRN.out w3 hB3.out
    have c3 := (hR3.cell 3).trans a3
    have HHN : Hid _ := HN
    clear HN HRN
    go_wp2_with fail
    refine Calls.mono HHN.out ?_
    rintro e w4 ⟨rfl, hb4⟩
    have hB4 : Hid (Below w.heap.size w w4) := hB3.out.trans (hb4.mono hB3.out.size)
    clear HHN hb4
    cases nB with
    | false =>
      have HV : Hid (aloneE n = 17) := by
        show aloneE n = _
        rw [show aloneE n = _ from HAE.out, if_neg (show ¬ (true = false) by simp), if_neg (show ¬ mx < (sz : Int) by omega), if_neg (fun h => hl3 h.1), if_pos rfl]
      clear HAE
      go_wp2
      go_ret
      exact ⟨by rw [show aloneE n = _ from HV.out] <;> rfl, hB4.out⟩
    | true =>
      have HV : Hid (aloneE n = 0) := by
        show aloneE n = _
        rw [show aloneE n = _ from HAE.out, if_neg (show ¬ (true = false) by simp), if_neg (show ¬ mx < (sz : Int) by omega), if_neg (fun h => hl3 h.1), if_neg (show ¬ (true = false) by simp)]
      clear HAE
      go_wp2
      go_ret
      exact ⟨by rw [show aloneE n = _ from HV.out] <;> rfl, hB4.out⟩
end Go.Proofs.YtpkbfljoakodoaaDoor
