/- The walk of the law TreeRights. -/
import Derived.Test.YtdbnnljlbfjobaaOwn
import Derived.Test.YtdbnnljlbfjobaaSmallN
namespace Go.Proofs.Ytdbnnljlbfjobaa
open Go.RowKit

theorem names_ok (w : World) : Calls Try.prog 10 #[] w fun e w' => e = .returned (.bool true) ∧ Below w.heap.size w w' := by
  go_enter Try.func10, Try.ntmps10
  go_wp2
  go_ret
  exact ⟨rfl, Below.refl _ _⟩
set_option maxRecDepth 20000 in
set_option maxHeartbeats 4000000 in
theorem law_rights (n : Nd) (w : World) (C : Array Value) (h : NodeAt w n C) : Calls Try.prog 3 #[.agg C] w fun e w' => e = .returned (.bool true) ∧ Below w.heap.size w w' := by
  have hb0 : Below w.heap.size w (w.alloc (.cells C 26)) := (Below.refl _ _).alloc (Nat.le_refl _) _
  have HR : Hid _ := Row.new w C 26
  have HS : Hid _ := small_ok n 0 _ C (by omega) (h.keep hb0)
  have hsi : (Try.prog.info? 26).map (·.size) = some C.size := by rw [infoN, h.size]
  have hsi2 : (Try.prog.info? 26).map (·.size) = some C.toList.length := by rw [infoN, Array.length_toList, h.size]
  have HNA : Hid (∀ wx, Below w.heap.size w wx → NodeAt wx n C) := fun wx hb => h.keep hb
  have HCN : Hid (smallN n 0 < 3000 → n.count ≤ 6000) := fun hs => by have := (smallN_count n 0 (by omega)).1; omega
  have hbd := smallN_bd n 0
  obtain ⟨sm, hsm⟩ : ∃ sm, sm = smallN n 0 := ⟨_, rfl⟩
  rw [← hsm] at HS HCN hbd
  clear hsm h
  go_enter Try.func3, Try.ntmps3
  generalize hwB : w.alloc (.cells C 26) = wB at *
  go_wp2_with (refine wpList_load_row rfl 26 _ rfl w.heap.size rfl 26 C (0, 0) _ HR.out Try.underlying26 rfl hsi ?_)
  refine Calls.mono HS.out ?_
  rintro er w1 ⟨rfl, hbw1⟩
  have hB1 : Hid (Below w.heap.size w w1) := hb0.trans (hbw1.mono hb0.size)
  have HR1 : Hid (Row w1 w.heap.size C 26) := Row.below HR.out hbw1 (Row.lt HR.out)
  clear HS hbw1 HR
  by_cases hsm : 3000 ≤ sm
  · have hsm' : (3000 : Int) ≤ sm := by omega
    clear HCN
    go_wp2
    go_ret
    exact ⟨rfl, hB1.out⟩
  have hsm' : ¬ (3000 : Int) ≤ sm := by omega
  have hcn := HCN.out (by omega)
  have HO : Hid _ := own_ok n w1 C (HNA.out w1 hB1.out) hcn
  clear HCN
  go_wp2_with (refine wpList_load_row rfl 26 _ rfl w.heap.size rfl 26 C (0, 0) _ HR1.out Try.underlying26 rfl hsi ?_)
  refine Calls.mono HO.out ?_
  rintro er w2 ⟨C', rfl, hno, hbw2⟩
  have hn2 := hno.at'
  have hC5 := hn2.size
  have hone := hn2.one
  have hsi3 : (Try.prog.info? 26).map (·.size) = some C'.size := by rw [infoN, hC5]
  have hsi' : (Try.prog.info? 26).map (·.size) = some C'.toList.length := by rw [infoN, Array.length_toList, hC5]
  have hB2 : Below w.heap.size w w2 := hB1.out.trans (hbw2.mono hB1.out.size)
  have hba : Below w2.heap.size w2 (w2.alloc (.cells C' 26)) := (Below.refl _ _).alloc (Nat.le_refl _) _
  have hRX := Row.new w2 C' 26
  have hRB : Row (w2.alloc (.cells C' 26)) w.heap.size C 26 := ((Row.below HR1.out hbw2 (Row.lt HR1.out)).below hba (Row.below HR1.out hbw2 (Row.lt HR1.out)).lt)
  have hNX := hn2.keep hba
  have hBS : Below w.heap.size w (w2.alloc (.cells C' 26)) := hB2.trans (hba.mono hB2.size)
  go_wp2_with (refine wpList_store_new rfl 26 _ _ rfl w2 _ C' 26 rfl w2.heap.size rfl rfl rfl hsi3 hC5.symm hone ?_)
  generalize hwS : w2.alloc (.cells C' 26) = wS at *
  have HX : Hid (∀ wx, Below wS.heap.size wS wx → Row wx w2.heap.size C' 26) := fun wx hb => hRX.below hb hRX.lt
  have HB : Hid (∀ wx, Below wS.heap.size wS wx → Row wx w.heap.size C 26) := fun wx hb => hRB.below hb hRB.lt
  have HNX : Hid (∀ wx, Below wS.heap.size wS wx → NodeAt wx n C') := fun wx hb => hNX.keep hb
  have HNB : Hid (∀ wx, Below wS.heap.size wS wx → NodeAt wx n C) := fun wx hb => HNA.out wx (hBS.trans (hb.mono hBS.size))
  have HBS : Hid _ := hBS
  obtain ⟨rE, hrE⟩ : ∃ rE, rE = rightE n := ⟨_, rfl⟩
  obtain ⟨sE, hsE⟩ : ∃ sE, sE = secE n := ⟨_, rfl⟩
  have HC1 : Hid (∀ wx, Below wS.heap.size wS wx → Calls Try.prog 6 #[.agg C'] wx fun e w' => e = .returned (.int .i64 rE) ∧ Below wx.heap.size wx w') := fun wx hb => by rw [hrE]; exact right_ok n wx C' (HNX.out wx hb) hcn
  have HC2 : Hid (∀ wx, Below wS.heap.size wS wx → Calls Try.prog 7 #[.agg C] wx fun e w' => e = .returned (.int .i64 rE) ∧ Below wx.heap.size wx w') := fun wx hb => by rw [hrE]; exact rright_ok n wx C (HNB.out wx hb) hcn
  have HC3 : Hid (∀ wx, Below wS.heap.size wS wx → Calls Try.prog 8 #[.agg C'] wx fun e w' => e = .returned (.int .i64 (sE : Nat)) ∧ Below wx.heap.size wx w') := fun wx hb => by rw [hsE]; exact sectors_ok n wx C' (HNX.out wx hb) hcn
  have HC4 : Hid (∀ wx, Below wS.heap.size wS wx → Calls Try.prog 9 #[.agg C] wx fun e w' => e = .returned (.int .i64 (sE : Nat)) ∧ Below wx.heap.size wx w') := fun wx hb => by rw [hsE]; exact rsectors_ok n wx C (HNB.out wx hb) hcn
  have hBd : Below wS.heap.size wS wS.drew := (Below.refl _ _).drew
  clear hRX hRB hNX hBS hba hn2 hno HO HR1 HNX HNB hrE hsE hone hC5 hB2 hbw2 HNA
  go_wp2_with fail
  refine wp_region_permA [(false, 0), (false, 2), (true, 1), (true, 3), (false, 4), (false, 5), (false, 6), (false, 8), (true, 7), (true, 9), (false, 10), (false, 11), (false, 12), (true, 13), (false, 14), (false, 15)] (fun wx => Below wS.heap.size wS wx) (by kernel_rfl) (by kernel_rfl) hBd ?_
  refine a_load_mid (some 9) 26 _ rfl rfl rfl (by rfl) w2.heap.size 0 (by go_simp) C'.toList _ (fun wx hw => Row.range (HX.out wx hw)) Try.underlying26 rfl hsi' ?_
  simp only [Array.toArray_toList]
  simp only [Act.put, List.setIfInBounds_toArray, List.set_cons_zero, List.set_cons_succ]
  refine a_load_mid (some 11) 26 _ rfl rfl rfl (by rfl) w.heap.size 0 (by go_simp) C.toList _ (fun wx hw => Row.range (HB.out wx hw)) Try.underlying26 rfl hsi2 ?_
  simp only [Array.toArray_toList]
  simp only [Act.put, List.setIfInBounds_toArray, List.set_cons_zero, List.set_cons_succ]
  refine a_call (some 10) rfl rfl (by rfl) 6 #[.agg C'] (by go_simp) (Calls.mono (HC1.out _ hBd) ?_)
  rintro er wa ⟨rfl, hbwa⟩
  have hSwa : Below wS.heap.size wS wa := hBd.trans (hbwa.mono hBd.size)
  refine ⟨_, rfl, hSwa, ?_⟩
  simp only [Act.put, List.setIfInBounds_toArray, List.set_cons_zero, List.set_cons_succ]
  refine a_call (some 12) rfl rfl (by rfl) 7 #[.agg C] (by go_simp) (Calls.mono (HC2.out _ hSwa) ?_)
  rintro er wb ⟨rfl, hbwb⟩
  have hSwb : Below wS.heap.size wS wb := hSwa.trans (hbwb.mono hSwa.size)
  refine ⟨_, rfl, hSwb, ?_⟩
  simp only [Act.put, List.setIfInBounds_toArray, List.set_cons_zero, List.set_cons_succ]
  refine a_value (some 13) ?_ rfl rfl (by rfl) (fun w hw => ?_) ?_
  rotate_left
  · go_simp
    with_reducible rfl
  simp only [Act.put, List.setIfInBounds_toArray, List.set_cons_zero, List.set_cons_succ]
  refine a_move (some 14) _ rfl rfl rfl (by rfl) ?_
  simp only [Act.put, List.setIfInBounds_toArray, List.set_cons_zero, List.set_cons_succ]
  refine a_load_mid (some 15) 26 _ rfl rfl rfl (by rfl) w2.heap.size 0 (by go_simp) C'.toList _ (fun wx hw => Row.range (HX.out wx hw)) Try.underlying26 rfl hsi' ?_
  simp only [Array.toArray_toList]
  simp only [Act.put, List.setIfInBounds_toArray, List.set_cons_zero, List.set_cons_succ]
  refine a_load_mid (some 17) 26 _ rfl rfl rfl (by rfl) w.heap.size 0 (by go_simp) C.toList _ (fun wx hw => Row.range (HB.out wx hw)) Try.underlying26 rfl hsi2 ?_
  simp only [Array.toArray_toList]
  simp only [Act.put, List.setIfInBounds_toArray, List.set_cons_zero, List.set_cons_succ]
  refine a_call (some 16) rfl rfl (by rfl) 8 #[.agg C'] (by go_simp) (Calls.mono (HC3.out _ hSwb) ?_)
  rintro er wc ⟨rfl, hbwc⟩
  have hSwc : Below wS.heap.size wS wc := hSwb.trans (hbwc.mono hSwb.size)
  refine ⟨_, rfl, hSwc, ?_⟩
  simp only [Act.put, List.setIfInBounds_toArray, List.set_cons_zero, List.set_cons_succ]
  refine a_call (some 18) rfl rfl (by rfl) 9 #[.agg C] (by go_simp) (Calls.mono (HC4.out _ hSwc) ?_)
  rintro er wd ⟨rfl, hbwd⟩
  have hSwd : Below wS.heap.size wS wd := hSwc.trans (hbwd.mono hSwc.size)
  refine ⟨_, rfl, hSwd, ?_⟩
  simp only [Act.put, List.setIfInBounds_toArray, List.set_cons_zero, List.set_cons_succ]
  refine a_value (some 19) ?_ rfl rfl (by rfl) (fun w hw => ?_) ?_
  rotate_left
  · go_simp
    with_reducible rfl
  simp only [Act.put, List.setIfInBounds_toArray, List.set_cons_zero, List.set_cons_succ]
  refine a_value (some 20) ?_ rfl rfl (by rfl) (fun w hw => ?_) ?_
  rotate_left
  · go_simp
    with_reducible rfl
  simp only [Act.put, List.setIfInBounds_toArray, List.set_cons_zero, List.set_cons_succ]
  refine a_move (some 21) _ rfl rfl rfl (by rfl) ?_
  simp only [Act.put, List.setIfInBounds_toArray, List.set_cons_zero, List.set_cons_succ]
  refine a_call (some 22) rfl rfl (by rfl) 10 #[] (by go_simp) (Calls.mono (names_ok _) ?_)
  rintro er we ⟨rfl, hbwe⟩
  have hSwe : Below wS.heap.size wS we := hSwd.trans (hbwe.mono hSwd.size)
  refine ⟨_, rfl, hSwe, ?_⟩
  simp only [Act.put, List.setIfInBounds_toArray, List.set_cons_zero, List.set_cons_succ]
  refine a_value (some 23) ?_ rfl rfl (by rfl) (fun w hw => ?_) ?_
  rotate_left
  · go_simp
    with_reducible rfl
  simp only [Act.put, List.setIfInBounds_toArray, List.set_cons_zero, List.set_cons_succ]
  refine a_value (some 2) ?_ rfl rfl (by rfl) (fun w hw => ?_) ?_
  rotate_left
  · go_simp
    with_reducible rfl
  simp only [Act.put, List.setIfInBounds_toArray, List.set_cons_zero, List.set_cons_succ]
  refine a_done ?_
  try simp only [Exit.then]
  go_wp2
  go_ret
  exact ⟨rfl, HBS.out.trans (hSwe.mono HBS.out.size)⟩
end Go.Proofs.Ytdbnnljlbfjobaa
