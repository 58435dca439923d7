/- My own work: the walk of the document's Same. -/
import Derived.Test.YtpkbfljoakodoaaDoorRefRight
import Derived.Test.YtpkbfljoakodoaaDoorXE
import Derived.Test.YtpkbfljoakodoaaDoorSText
namespace Go.Proofs.YtpkbfljoakodoaaDoor
open Go.RowKit

theorem toList_eqb (s t : ByteArray) : (s.toList == t.toList) = decide (s = t) := by
  rw [ByteArray.toList_eq, ByteArray.toList_eq]
  by_cases h : s = t
  · subst h; simp
  · rw [decide_eq_false h]
    apply beq_false_of_ne
    intro e
    apply h
    apply ByteArray.ext
    exact Array.ext' e
set_option maxRecDepth 20000 in
set_option maxHeartbeats 4000000 in
mutual
/-- Are two nodes the same? -/
def sameN : Nd → Nd → Bool | .mk k e d ns ks, .mk k' e' d' ns' ks' => decide (k = k') && (decide (e = e') && (decide (d = d') && (decide (ns = ns') && sameL ks ks')))
def sameL : List Nd → List Nd → Bool | [], [] => true | a :: la, b :: lb => sameN a b && sameL la lb | [], _ :: _ => false | _ :: _, [] => false
end
mutual
theorem sameN_iff : ∀ (n m : Nd), sameN n m = true ↔ n = m
  | .mk k e d ns ks, .mk k' e' d' ns' ks' => by
    unfold sameN
    simp only [Bool.and_eq_true, decide_eq_true_eq, Nd.mk.injEq]
    have := sameL_iff ks ks'
    rw [this]
theorem sameL_iff : ∀ (ks ms : List Nd), sameL ks ms = true ↔ ks = ms
  | [], [] => by unfold sameL; simp
  | [], _ :: _ => by unfold sameL; simp
  | _ :: _, [] => by unfold sameL; simp
  | a :: la, b :: lb => by
    unfold sameL
    simp only [Bool.and_eq_true, List.cons.injEq]
    rw [sameN_iff a b, sameL_iff la lb]
end
theorem sameL_next (ks ms : List Nd) (i : Nat) (h1 : i < ks.length) (h2 : i < ms.length) : sameL (ks.drop i) (ms.drop i) = (sameN ks[i] ms[i] && sameL (ks.drop (i + 1)) (ms.drop (i + 1))) := by
  rw [List.drop_eq_getElem_cons h1, List.drop_eq_getElem_cons h2]
  conv => lhs; unfold sameL
theorem sameL_end (ks ms : List Nd) (i : Nat) (h1 : ¬ i < ks.length) (h2 : ¬ i < ms.length) : sameL (ks.drop i) (ms.drop i) = true := by
  rw [List.drop_eq_nil_of_le (by omega), List.drop_eq_nil_of_le (by omega)]
  unfold sameL
  rfl
theorem sameL_len {ks ms : List Nd} (h : ks.length ≠ ms.length) : sameL ks ms = false := by
  cases hs : sameL ks ms with
  | false => rfl
  | true => exact absurd (congrArg List.length ((sameL_iff ks ms).1 hs)) h
set_option maxRecDepth 20000 in
set_option maxHeartbeats 8000000 in
theorem sameT_step (N : Nat) (IH : ∀ n : Nd, n.count ≤ N → ∀ (m : Nd) (w : World) (C D : Array Value), NodeAt w n C → NodeAt w m D → Calls Tryd.prog 18 #[.agg C, .agg D] w fun e w' => e = .returned (.bool (sameN n m)) ∧ Below w.heap.size w w')
    (n : Nd) (hN : n.count ≤ N + 1) (m : Nd) (w : World) (C D : Array Value) (h : NodeAt w n C) (h' : NodeAt w m D) : Calls Tryd.prog 18 #[.agg C, .agg D] w fun e w' => e = .returned (.bool (sameN n m)) ∧ Below w.heap.size w w' := by
  cases h with
  | @mk k e d ns ks da dc na nc ka kb koff kc Cs hk hd hn hks each =>
  cases h' with
  | @mk k' e' d' ns' ks' da' dc' na' nc' ka' kb' koff' kc' Cs' hk' hd' hn' hks' each' =>
  have hb0 : Below w.heap.size w (w.alloc (.cells (nodeV k e da d.size dc na ns.length nc ka ks.length kc) 26)) := (Below.refl _ _).alloc (Nat.le_refl _) _
  have hsz0 : (w.alloc (.cells (nodeV k e da d.size dc na ns.length nc ka ks.length kc) 26)).heap.size = w.heap.size + 1 := by simp
  have hb1 : Below w.heap.size w ((w.alloc (.cells (nodeV k e da d.size dc na ns.length nc ka ks.length kc) 26)).alloc (.cells (nodeV k' e' da' d'.size dc' na' ns'.length nc' ka' ks'.length kc') 26)) := hb0.alloc (by omega) _
  obtain ⟨wB, hwB⟩ : ∃ wB, wB = (w.alloc (.cells (nodeV k e da d.size dc na ns.length nc ka ks.length kc) 26)).alloc (.cells (nodeV k' e' da' d'.size dc' na' ns'.length nc' ka' ks'.length kc') 26) := ⟨_, rfl⟩
  have hRa : Row wB w.heap.size (nodeV k e da d.size dc na ns.length nc ka ks.length kc) 26 := by rw [hwB]; exact (Row.new w _ 26).alloc _
  have hRb : Row wB (w.heap.size + 1) (nodeV k' e' da' d'.size dc' na' ns'.length nc' ka' ks'.length kc') 26 := by
    have := Row.new (w.alloc (.cells (nodeV k e da d.size dc na ns.length nc ka ks.length kc) 26)) (nodeV k' e' da' d'.size dc' na' ns'.length nc' ka' ks'.length kc') 26
    rw [hsz0, ← hwB] at this
    exact this
  have hbB : Below w.heap.size w wB := by rw [hwB]; exact hb1
  have HS : Hid (sameN (.mk k e d ns ks) (.mk k' e' d' ns' ks') = (decide (k = k') && (decide (e = e') && (decide (d = d') && (decide (ns = ns') && sameL ks ks'))))) := by show _ = _; unfold sameN; rfl
  have HRa : Hid (∀ wx, Below wB.heap.size wB wx → Row wx w.heap.size (nodeV k e da d.size dc na ns.length nc ka ks.length kc) 26) := fun wx hx => hRa.below hx hRa.lt
  have HRb : Hid (∀ wx, Below wB.heap.size wB wx → Row wx (w.heap.size + 1) (nodeV k' e' da' d'.size dc' na' ns'.length nc' ka' ks'.length kc') 26) := fun wx hx => hRb.below hx hRb.lt
  have HBB : Hid (∀ wx, Below wB.heap.size wB wx → Below w.heap.size w wx) := fun wx hx => hbB.trans (hx.mono hbB.size)
  have HK : Hid (∀ wx, Below wB.heap.size wB wx → KidsAt wx ka kb koff ks.length kc Cs) := fun wx hx => hks.keep (HBB.out wx hx)
  have HK' : Hid (∀ wx, Below wB.heap.size wB wx → KidsAt wx ka' kb' koff' ks'.length kc' Cs') := fun wx hx => hks'.keep (HBB.out wx hx)
  have HE : Hid (∀ wx, Below wB.heap.size wB wx → ∀ i (h : i < ks.length), NodeAt wx ks[i] (Cs i)) := fun wx hx i hi => (each i hi).keep (HBB.out wx hx)
  have HE' : Hid (∀ wx, Below wB.heap.size wB wx → ∀ i (h : i < ks'.length), NodeAt wx ks'[i] (Cs' i)) := fun wx hx i hi => (each' i hi).keep (HBB.out wx hx)
  have hcv := conv_bytesS wB da d dc (hd.keep hbB)
  have hcv' := conv_bytesS wB da' d' dc' (hd'.keep hbB)
  obtain ⟨nb, noff, hna, hnc⟩ := hn.at''
  obtain ⟨nb', noff', hna', hnc'⟩ := hn'.at''
  have HNC : Hid (∀ wx, Below wB.heap.size wB wx → ∀ i (h : i < ns.length), wx.cell? ⟨nb, noff + i, none⟩ = some (.string ns[i])) := fun wx hx => hnc wx (HBB.out wx hx)
  have HNC' : Hid (∀ wx, Below wB.heap.size wB wx → ∀ i (h : i < ns'.length), wx.cell? ⟨nb', noff' + i, none⟩ = some (.string ns'[i])) := fun wx hx => hnc' wx (HBB.out wx hx)
  have HNA : Hid (0 < ns.length → na = some ⟨nb, noff, none⟩) := hna
  have HNA' : Hid (0 < ns'.length → na' = some ⟨nb', noff', none⟩) := hna'
  have HKA : Hid (0 < ks.length → ka = some ⟨kb, koff, none⟩) := hks.at'
  have HKA' : Hid (0 < ks'.length → ka' = some ⟨kb', koff', none⟩) := hks'.at'
  have hkl : ks.length ≤ 9223372036854775807 := by have := hks.le; have := hks.cap; unfold maxLen at this; omega
  have hkl' : ks'.length ≤ 9223372036854775807 := by have := hks'.le; have := hks'.cap; unfold maxLen at this; omega
  have hnl : ns.length ≤ 9223372036854775807 := by have := hn.le; have := hn.cap; unfold maxLen at this; omega
  have hnl' : ns'.length ≤ 9223372036854775807 := by have := hn'.le; have := hn'.cap; unfold maxLen at this; omega
  have HIH : Hid (∀ i (hi : i < ks.length), ∀ (m : Nd) (w : World) (D : Array Value), NodeAt w ks[i] (Cs i) → NodeAt w m D → Calls Tryd.prog 18 #[.agg (Cs i), .agg D] w fun e w' => e = .returned (.bool (sameN ks[i] m)) ∧ Below w.heap.size w w') := fun i hi m w D h1 h2 => IH ks[i] (Nd.kid_lt hN i hi) m w (Cs i) D h1 h2
  have a0 := (hRa.cell 0).trans (rfl : _ = some (Value.int .i64 k))
  have a1 := (hRa.cell 1).trans (rfl : _ = some (Value.bool e))
  have a2 := (hRa.cell 2).trans (rfl : _ = some (Value.slice da d.size dc))
  have a3 := (hRa.cell 3).trans (rfl : _ = some (Value.slice na ns.length nc))
  have a4 := (hRa.cell 4).trans (rfl : _ = some (Value.slice ka ks.length kc))
  have b0 := (hRb.cell 0).trans (rfl : _ = some (Value.int .i64 k'))
  have b1 := (hRb.cell 1).trans (rfl : _ = some (Value.bool e'))
  have b2 := (hRb.cell 2).trans (rfl : _ = some (Value.slice da' d'.size dc'))
  have b3 := (hRb.cell 3).trans (rfl : _ = some (Value.slice na' ns'.length nc'))
  have b4 := (hRb.cell 4).trans (rfl : _ = some (Value.slice ka' ks'.length kc'))
  have HW : Hid (wB = (w.alloc (.cells (nodeV k e da d.size dc na ns.length nc ka ks.length kc) 26)).alloc (.cells (nodeV k' e' da' d'.size dc' na' ns'.length nc' ka' ks'.length kc') 26)) := hwB
  rw [HS.out]
  clear hna hnc hna' hnc' hd hn hks each hd' hn' hks' each' IH hN hb0 hb1 hRa hRb hwB HS hk hk' hsz0
  by_cases t0 : k = k'
  rotate_left
  · rw [decide_eq_false t0, Bool.false_and]
    have t0' : (k != k') = true := by simpa using t0
    clear hcv hcv' a1 a2 a3 a4 b1 b2 b3 b4
    rw [HW.out] at a0 b0
    go_enter Tryd.func18, Tryd.ntmps18
    go_wp2
    go_ret
    exact ⟨rfl, by rw [← HW.out]; exact hbB⟩
  subst t0
  rw [decide_eq_true rfl, Bool.true_and]
  by_cases t1 : e = e'
  rotate_left
  · rw [decide_eq_false t1, Bool.false_and]
    clear hcv hcv' a2 a3 a4 b2 b3 b4
    rw [HW.out] at a0 b0 a1 b1
    cases e <;> cases e'
    · exact absurd rfl t1
    · clear t1
      go_enter Tryd.func18, Tryd.ntmps18
      go_wp2
      go_ret
      exact ⟨rfl, by rw [← HW.out]; exact hbB⟩
    · clear t1
      go_enter Tryd.func18, Tryd.ntmps18
      go_wp2
      go_ret
      exact ⟨rfl, by rw [← HW.out]; exact hbB⟩
    · exact absurd rfl t1
  subst t1
  rw [decide_eq_true rfl, Bool.true_and]
  have q1 : (e != e) = false := by cases e <;> rfl
  by_cases t2 : d = d'
  rotate_left
  · rw [decide_eq_false t2, Bool.false_and]
    have heq := toList_eqb d d'
    rw [decide_eq_false t2] at heq
    clear a3 a4 b3 b4
    rw [HW.out] at a0 b0 a1 b1 a2 b2 hcv hcv'
    go_enter Tryd.func18, Tryd.ntmps18
    go_wp2
    go_ret
    exact ⟨rfl, by rw [← HW.out]; exact hbB⟩
  subst t2
  rw [decide_eq_true rfl, Bool.true_and]
  by_cases t3 : ns.length = ns'.length
  rotate_left
  · have hns : ns ≠ ns' := fun e => t3 (congrArg List.length e)
    rw [decide_eq_false hns, Bool.false_and]
    have t3' : ¬ (ns.length : Int) = (ns'.length : Int) := by omega
    clear a4 b4
    rw [HW.out] at a0 b0 a1 b1 a2 b2 a3 b3 hcv hcv'
    go_enter Tryd.func18, Tryd.ntmps18
    go_wp2
    go_ret
    exact ⟨rfl, by rw [← HW.out]; exact hbB⟩
  by_cases t4 : ks.length = ks'.length
  rotate_left
  · rw [sameL_len t4, Bool.and_false]
    have t4' : ¬ (ks.length : Int) = (ks'.length : Int) := by omega
    rw [← t3] at b3
    rw [HW.out] at a0 b0 a1 b1 a2 b2 a3 b3 a4 b4 hcv hcv'
    have HT3 : Hid (ns.length = ns'.length) := t3
    clear t3
    go_enter Tryd.func18, Tryd.ntmps18
    go_wp2
    go_ret
    exact ⟨rfl, by rw [← HW.out]; exact hbB⟩
  have HT3 : Hid (ns.length = ns'.length) := t3
  have HT4 : Hid (ks.length = ks'.length) := t4
  rw [← t3] at b3
  rw [← t4] at b4
  have HRb2 : Hid (∀ wx, Below wB.heap.size wB wx → Row wx (w.heap.size + 1) (nodeV k e da' d.size dc' na' ns.length nc' ka' ks.length kc') 26) := fun wx hx => by rw [t3, t4]; exact HRb.out wx hx
  have CA3 : Hid (∀ wx, Below wB.heap.size wB wx → wx.cell? ⟨w.heap.size, 3, none⟩ = some (.slice na ns.length nc)) := fun wx hx => ((HRa.out wx hx).cell 3).trans rfl
  have CA4 : Hid (∀ wx, Below wB.heap.size wB wx → wx.cell? ⟨w.heap.size, 4, none⟩ = some (.slice ka ks.length kc)) := fun wx hx => ((HRa.out wx hx).cell 4).trans rfl
  have CB3 : Hid (∀ wx, Below wB.heap.size wB wx → wx.cell? ⟨w.heap.size + 1, 3, none⟩ = some (.slice na' ns.length nc')) := fun wx hx => ((HRb2.out wx hx).cell 3).trans rfl
  have CB4 : Hid (∀ wx, Below wB.heap.size wB wx → wx.cell? ⟨w.heap.size + 1, 4, none⟩ = some (.slice ka' ks.length kc')) := fun wx hx => ((HRb2.out wx hx).cell 4).trans rfl
  rw [HW.out] at a0 b0 a1 b1 a2 b2 a3 b3 a4 b4 hcv hcv'
  clear t3 t4 HRb HRb2 HRa hnl' hkl'
  go_enter Tryd.func18, Tryd.ntmps18
  go_wp2
  rw [← HW.out]
  clear a0 b0 a1 b1 a2 b2 a3 b3 a4 b4 hcv hcv' q1
  go_loopw [5] (fun iv wx => ∃ i : Nat, iv = .int .i64 i ∧ i ≤ ns.length ∧ Hid (Below wB.heap.size wB wx) ∧ Hid (∀ j (h1 : j < ns.length) (h2 : j < ns'.length), j < i → ns[j] = ns'[j])) (fun iv _ => ns.length - (intOf iv).toNat)
  case atStart => exact ⟨0, rfl, Nat.zero_le _, Below.refl _ _, fun j _ _ hj => absurd hj (by omega)⟩
  case round =>
    obtain ⟨i, rfl, hi, HB, HQ⟩ := hrel
    have ca := CA3.out _ HB.out
    by_cases hlt : i < ns.length
    · have hlt' : (i : Int) < (ns.length : Int) := by omega
      have hi2 : i < ns'.length := by have := HT3.out; omega
      obtain rfl := HNA.out (by omega)
      obtain rfl := HNA'.out (by omega)
      obtain ⟨u, hu⟩ : ∃ u, u = ns[i] := ⟨_, rfl⟩
      obtain ⟨v, hv⟩ : ∃ v, v = ns'[i] := ⟨_, rfl⟩
      have CN : Hid (∀ wx, Below wB.heap.size wB wx → wx.cell? ⟨nb, noff + i, none⟩ = some (.string u)) := fun wx hx => by rw [hu]; exact HNC.out wx hx i hlt
      have CN' : Hid (∀ wx, Below wB.heap.size wB wx → wx.cell? ⟨nb', noff' + i, none⟩ = some (.string v)) := fun wx hx => by rw [hv]; exact HNC'.out wx hx i hi2
      have HU : Hid (u = ns[i]) := hu
      have HV : Hid (v = ns'[i]) := hv
      have heq := toList_eqb u v
      have hBd : Below wB.heap.size wB wr.drew := HB.out.drew
      have HBd : Hid (Below wB.heap.size wB wr.drew) := hBd
      clear hu hv
      by_cases huv : u = v
      · rw [decide_eq_true huv] at heq
        have HQ2 : Hid (∀ j (h1 : j < ns.length) (h2 : j < ns'.length), j < i + 1 → ns[j] = ns'[j]) := fun j h1 h2 hj => by
          rcases Nat.lt_succ_iff_lt_or_eq.1 hj with h3 | h3
          · exact HQ.out j h1 h2 h3
          · subst h3
            rw [← HU.out, ← HV.out]
            exact huv
        clear huv HQ
        go_wp2_with fail
        refine wp_region_permA [(false, 0), (false, 1), (false, 2), (false, 3), (false, 4), (false, 5), (false, 6), (false, 7), (false, 8), (false, 9), (false, 10)] (fun wx => Below wB.heap.size wB wx) (by kernel_rfl) (by kernel_rfl) hBd ?_
        refine a_value (some 53) ?_ rfl rfl (by rfl) (fun w hw => ?_) ?_
        rotate_left
        · go_simp
          with_reducible rfl
        simp only [Act.put, List.setIfInBounds_toArray, List.set_cons_zero, List.set_cons_succ]
        refine a_value (some 54) ?_ rfl rfl (by rfl) (fun w hw => ?_) ?_
        rotate_left
        · have c := CA3.out _ hw
          go_simp
          with_reducible rfl
        simp only [Act.put, List.setIfInBounds_toArray, List.set_cons_zero, List.set_cons_succ]
        refine a_move (some 55) _ rfl rfl rfl (by rfl) ?_
        simp only [Act.put, List.setIfInBounds_toArray, List.set_cons_zero, List.set_cons_succ]
        refine a_value (some 56) ?_ rfl rfl (by rfl) (fun w hw => ?_) ?_
        rotate_left
        · go_simp
          with_reducible rfl
        simp only [Act.put, List.setIfInBounds_toArray, List.set_cons_zero, List.set_cons_succ]
        refine a_value (some 57) ?_ rfl rfl (by rfl) (fun w hw => ?_) ?_
        rotate_left
        · have c := CN.out _ hw
          go_simp
          with_reducible rfl
        simp only [Act.put, List.setIfInBounds_toArray, List.set_cons_zero, List.set_cons_succ]
        refine a_value (some 58) ?_ rfl rfl (by rfl) (fun w hw => ?_) ?_
        rotate_left
        · go_simp
          with_reducible rfl
        simp only [Act.put, List.setIfInBounds_toArray, List.set_cons_zero, List.set_cons_succ]
        refine a_value (some 59) ?_ rfl rfl (by rfl) (fun w hw => ?_) ?_
        rotate_left
        · have c := CB3.out _ hw
          go_simp
          with_reducible rfl
        simp only [Act.put, List.setIfInBounds_toArray, List.set_cons_zero, List.set_cons_succ]
        refine a_move (some 60) _ rfl rfl rfl (by rfl) ?_
        simp only [Act.put, List.setIfInBounds_toArray, List.set_cons_zero, List.set_cons_succ]
        refine a_value (some 61) ?_ rfl rfl (by rfl) (fun w hw => ?_) ?_
        rotate_left
        · go_simp
          with_reducible rfl
        simp only [Act.put, List.setIfInBounds_toArray, List.set_cons_zero, List.set_cons_succ]
        refine a_value (some 62) ?_ rfl rfl (by rfl) (fun w hw => ?_) ?_
        rotate_left
        · have c := CN'.out _ hw
          go_simp
          with_reducible rfl
        simp only [Act.put, List.setIfInBounds_toArray, List.set_cons_zero, List.set_cons_succ]
        refine a_value (some 63) ?_ rfl rfl (by rfl) (fun w hw => ?_) ?_
        rotate_left
        · go_simp
          with_reducible rfl
        simp only [Act.put, List.setIfInBounds_toArray, List.set_cons_zero, List.set_cons_succ]
        refine a_done ?_
        try simp only [Exit.then]
        go_wp2
        go_roundw
        case rel => exact ⟨i + 1, by go_num, by omega, HBd, HQ2⟩
        case measure => simp [intOf]; omega
      · rw [decide_eq_false huv] at heq
        have HNE : Hid (ns ≠ ns') := fun e => huv (by rw [HU.out, HV.out]; subst e; rfl)
        clear huv HQ
        go_wp2_with fail
        refine wp_region_permA [(false, 0), (false, 1), (false, 2), (false, 3), (false, 4), (false, 5), (false, 6), (false, 7), (false, 8), (false, 9), (false, 10)] (fun wx => Below wB.heap.size wB wx) (by kernel_rfl) (by kernel_rfl) hBd ?_
        refine a_value (some 53) ?_ rfl rfl (by rfl) (fun w hw => ?_) ?_
        rotate_left
        · go_simp
          with_reducible rfl
        simp only [Act.put, List.setIfInBounds_toArray, List.set_cons_zero, List.set_cons_succ]
        refine a_value (some 54) ?_ rfl rfl (by rfl) (fun w hw => ?_) ?_
        rotate_left
        · have c := CA3.out _ hw
          go_simp
          with_reducible rfl
        simp only [Act.put, List.setIfInBounds_toArray, List.set_cons_zero, List.set_cons_succ]
        refine a_move (some 55) _ rfl rfl rfl (by rfl) ?_
        simp only [Act.put, List.setIfInBounds_toArray, List.set_cons_zero, List.set_cons_succ]
        refine a_value (some 56) ?_ rfl rfl (by rfl) (fun w hw => ?_) ?_
        rotate_left
        · go_simp
          with_reducible rfl
        simp only [Act.put, List.setIfInBounds_toArray, List.set_cons_zero, List.set_cons_succ]
        refine a_value (some 57) ?_ rfl rfl (by rfl) (fun w hw => ?_) ?_
        rotate_left
        · have c := CN.out _ hw
          go_simp
          with_reducible rfl
        simp only [Act.put, List.setIfInBounds_toArray, List.set_cons_zero, List.set_cons_succ]
        refine a_value (some 58) ?_ rfl rfl (by rfl) (fun w hw => ?_) ?_
        rotate_left
        · go_simp
          with_reducible rfl
        simp only [Act.put, List.setIfInBounds_toArray, List.set_cons_zero, List.set_cons_succ]
        refine a_value (some 59) ?_ rfl rfl (by rfl) (fun w hw => ?_) ?_
        rotate_left
        · have c := CB3.out _ hw
          go_simp
          with_reducible rfl
        simp only [Act.put, List.setIfInBounds_toArray, List.set_cons_zero, List.set_cons_succ]
        refine a_move (some 60) _ rfl rfl rfl (by rfl) ?_
        simp only [Act.put, List.setIfInBounds_toArray, List.set_cons_zero, List.set_cons_succ]
        refine a_value (some 61) ?_ rfl rfl (by rfl) (fun w hw => ?_) ?_
        rotate_left
        · go_simp
          with_reducible rfl
        simp only [Act.put, List.setIfInBounds_toArray, List.set_cons_zero, List.set_cons_succ]
        refine a_value (some 62) ?_ rfl rfl (by rfl) (fun w hw => ?_) ?_
        rotate_left
        · have c := CN'.out _ hw
          go_simp
          with_reducible rfl
        simp only [Act.put, List.setIfInBounds_toArray, List.set_cons_zero, List.set_cons_succ]
        refine a_value (some 63) ?_ rfl rfl (by rfl) (fun w hw => ?_) ?_
        rotate_left
        · go_simp
          with_reducible rfl
        simp only [Act.put, List.setIfInBounds_toArray, List.set_cons_zero, List.set_cons_succ]
        refine a_done ?_
        try simp only [Exit.then]
        go_wp2
        go_ret
        exact ⟨by rw [decide_eq_false HNE.out, Bool.false_and]; rfl, HBB.out _ HBd.out⟩
    · have hlt' : ¬ (i : Int) < (ns.length : Int) := by omega
      have HNS : Hid (ns = ns') := List.ext_getElem HT3.out (fun j h1 h2 => HQ.out j h1 h2 (by omega))
      obtain ⟨wE, rfl⟩ : ∃ x, x = wr := ⟨wr, rfl⟩
      clear HQ
      go_wp2_with fail
      clear ca hlt'
      go_loopw [6] (fun iv wx => ∃ i : Nat, iv = .int .i64 i ∧ i ≤ ks.length ∧ Hid (Below wB.heap.size wB wx) ∧ Hid (sameL (ks.drop i) (ks'.drop i) = sameL ks ks')) (fun iv _ => ks.length - (intOf iv).toNat)
      case atStart => exact ⟨0, rfl, Nat.zero_le _, HB, rfl⟩
      case round =>
        obtain ⟨j, rfl, hj, HB2, HQ⟩ := hrel
        have ca := CA4.out _ HB2.out
        by_cases hjl : j < ks.length
        · have hjl' : (j : Int) < (ks.length : Int) := by omega
          have hj2 : j < ks'.length := by have := HT4.out; omega
          obtain rfl := HKA.out (by omega)
          obtain rfl := HKA'.out (by omega)
          have hBd : Below wB.heap.size wB wr.drew := HB2.out.drew
          have hsi : (Tryd.prog.info? 26).map (·.size) = some (Cs j).toList.length := by rw [infoN, Array.length_toList, (HK.out _ hBd).size j hjl]
          have hsi' : (Tryd.prog.info? 26).map (·.size) = some (Cs' j).toList.length := by rw [infoN, Array.length_toList, (HK'.out _ hBd).size j hj2]
          have HC : Hid (Calls Tryd.prog 18 #[.agg (Cs j), .agg (Cs' j)] wr.drew fun e w' => e = .returned (.bool (sameN ks[j] ks'[j])) ∧ Below wr.drew.heap.size wr.drew w') := HIH.out j hjl ks'[j] wr.drew (Cs' j) (HE.out _ hBd j hjl) (HE'.out _ hBd j hj2)
          have hnx := sameL_next ks ks' j hjl hj2
          rw [HQ.out] at hnx
          have HNX : Hid _ := hnx
          clear hnx HQ
          go_wp2_with fail
          refine wp_region_permA [(false, 0), (false, 1), (false, 2), (false, 3), (false, 4), (false, 5), (false, 6), (false, 7), (false, 8), (false, 9), (true, 10), (false, 11)] (fun wx => Below wB.heap.size wB wx) (by kernel_rfl) (by kernel_rfl) hBd ?_
          refine a_value (some 71) ?_ rfl rfl (by rfl) (fun w hw => ?_) ?_
          rotate_left
          · go_simp
            with_reducible rfl
          simp only [Act.put, List.setIfInBounds_toArray, List.set_cons_zero, List.set_cons_succ]
          refine a_value (some 72) ?_ rfl rfl (by rfl) (fun w hw => ?_) ?_
          rotate_left
          · have c := CA4.out _ hw
            go_simp
            with_reducible rfl
          simp only [Act.put, List.setIfInBounds_toArray, List.set_cons_zero, List.set_cons_succ]
          refine a_move (some 73) _ rfl rfl rfl (by rfl) ?_
          simp only [Act.put, List.setIfInBounds_toArray, List.set_cons_zero, List.set_cons_succ]
          refine a_value (some 74) ?_ rfl rfl (by rfl) (fun w hw => ?_) ?_
          rotate_left
          · go_simp
            with_reducible rfl
          simp only [Act.put, List.setIfInBounds_toArray, List.set_cons_zero, List.set_cons_succ]
          refine a_load_mid (some 75) 26 _ rfl rfl rfl (by rfl) kb (koff + j * 5) (by go_simp) (Cs j).toList _ (fun wx hw => (HK.out wx hw).range j hjl) Tryd.underlying26 rfl hsi ?_
          simp only [Array.toArray_toList]
          simp only [Act.put, List.setIfInBounds_toArray, List.set_cons_zero, List.set_cons_succ]
          refine a_value (some 76) ?_ rfl rfl (by rfl) (fun w hw => ?_) ?_
          rotate_left
          · go_simp
            with_reducible rfl
          simp only [Act.put, List.setIfInBounds_toArray, List.set_cons_zero, List.set_cons_succ]
          refine a_value (some 77) ?_ rfl rfl (by rfl) (fun w hw => ?_) ?_
          rotate_left
          · have c := CB4.out _ hw
            go_simp
            with_reducible rfl
          simp only [Act.put, List.setIfInBounds_toArray, List.set_cons_zero, List.set_cons_succ]
          refine a_move (some 78) _ rfl rfl rfl (by rfl) ?_
          simp only [Act.put, List.setIfInBounds_toArray, List.set_cons_zero, List.set_cons_succ]
          refine a_value (some 79) ?_ rfl rfl (by rfl) (fun w hw => ?_) ?_
          rotate_left
          · go_simp
            with_reducible rfl
          simp only [Act.put, List.setIfInBounds_toArray, List.set_cons_zero, List.set_cons_succ]
          refine a_load_mid (some 80) 26 _ rfl rfl rfl (by rfl) kb' (koff' + j * 5) (by go_simp) (Cs' j).toList _ (fun wx hw => (HK'.out wx hw).range j hj2) Tryd.underlying26 rfl hsi' ?_
          simp only [Array.toArray_toList]
          simp only [Act.put, List.setIfInBounds_toArray, List.set_cons_zero, List.set_cons_succ]
          refine a_call (some 81) rfl rfl (by rfl) 18 #[.agg (Cs j), .agg (Cs' j)] (by go_simp) (Calls.mono HC.out ?_)
          rintro er w2 ⟨rfl, hb2⟩
          have hS2 : Below wB.heap.size wB w2 := hBd.trans (hb2.mono hBd.size)
          have HS2 : Hid (Below wB.heap.size wB w2) := hS2
          refine ⟨_, rfl, hS2, ?_⟩
          simp only [Act.put, List.setIfInBounds_toArray, List.set_cons_zero, List.set_cons_succ]
          refine a_value (some 82) ?_ rfl rfl (by rfl) (fun w hw => ?_) ?_
          rotate_left
          · go_simp
            with_reducible rfl
          simp only [Act.put, List.setIfInBounds_toArray, List.set_cons_zero, List.set_cons_succ]
          refine a_done ?_
          try simp only [Exit.then]
          clear HC hb2 hS2
          cases hsm : sameN ks[j] ks'[j] with
          | true =>
            have HNX2 : Hid (sameL (ks.drop (j + 1)) (ks'.drop (j + 1)) = sameL ks ks') := by
              have := HNX.out
              rw [hsm, Bool.true_and] at this
              exact this.symm
            clear hsm HNX
            go_wp2
            go_roundw
            case rel => exact ⟨j + 1, by go_num, by omega, HS2, HNX2⟩
            case measure => simp [intOf]; omega
          | false =>
            have HNX2 : Hid (sameL ks ks' = false) := by
              have := HNX.out
              rw [hsm, Bool.false_and] at this
              exact this
            clear hsm HNX
            go_wp2
            go_ret
            exact ⟨by rw [decide_eq_true HNS.out, Bool.true_and, HNX2.out]; rfl, HBB.out _ HS2.out⟩
        · have hjl' : ¬ (j : Int) < (ks.length : Int) := by omega
          have HNX2 : Hid (sameL ks ks' = true) := by
            have := HQ.out
            rw [sameL_end ks ks' j hjl (by have := HT4.out; omega)] at this
            exact this.symm
          clear HQ
          go_wp2
          go_ret
          exact ⟨by rw [decide_eq_true HNS.out, Bool.true_and, HNX2.out]; rfl, HBB.out _ HB2.out⟩
theorem sameT_ok (n m : Nd) (w : World) (C D : Array Value) (h : NodeAt w n C) (h' : NodeAt w m D) : Calls Tryd.prog 18 #[.agg C, .agg D] w fun e w' => e = .returned (.bool (sameN n m)) ∧ Below w.heap.size w w' := by
  have key : ∀ N : Nat, ∀ n : Nd, n.count ≤ N → ∀ (m : Nd) (w : World) (C D : Array Value), NodeAt w n C → NodeAt w m D → Calls Tryd.prog 18 #[.agg C, .agg D] w fun e w' => e = .returned (.bool (sameN n m)) ∧ Below w.heap.size w w' := by
    intro N
    induction N with
    | zero => intro n hn; have := n.count_pos; omega
    | succ N ih => exact sameT_step N ih
  exact key n.count n (Nat.le_refl _) m w C D h h'
end Go.Proofs.YtpkbfljoakodoaaDoor
