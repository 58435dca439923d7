/- My own work: the walk of ScanMoves. -/
import Derived.Test.YtpkbfljoakodoaaDoorMvK
namespace Go.Proofs.YtpkbfljoakodoaaDoor
open Go.RowKit Go.Sort
open S2 (bl bl_len bl_inj splitB Tab NTab arr arr_size dg dg_bd dg_past dg_range pathE path_split path_size path_signs makeV mayB refMake_ok)

set_option maxRecDepth 100000 in
set_option maxHeartbeats 16000000 in
theorem law_moves (aa : Option Addr) (ah : ByteArray) (ac : Nat) (ba : Option Addr) (bh : ByteArray) (bc : Nat) (h : Nat → Int) (w : World) (hA : BytesAt w aa ah ac) (hB : BytesAt w ba bh bc) (hh : ∀ i, 0 ≤ h i ∧ h i < 256) (hT : Tab w) (hNT : NTab w) (hm : MxTab w) :
    Calls Tryd.prog 5 #[.slice aa ah.size ac, .slice ba bh.size bc, .agg (arr h 64)] w fun e w' => e = .returned (.bool true) ∧ Below w.heap.size w w' := by
  obtain ⟨DD, hDD⟩ : ∃ D, D = arr h 64 := ⟨_, rfl⟩
  obtain ⟨A0, hA0⟩ : ∃ A0, A0 = arr (dg h 0) 32 := ⟨_, rfl⟩
  obtain ⟨A1, hA1⟩ : ∃ A1, A1 = arr (dg h 32) 32 := ⟨_, rfl⟩
  have hi0 : (Tryd.prog.info? 45).map (·.size) = some A0.toList.length := by rw [Array.length_toList, hA0, arr_size]; kernel_rfl
  have hi1 : (Tryd.prog.info? 45).map (·.size) = some A1.toList.length := by rw [Array.length_toList, hA1, arr_size]; kernel_rfl
  have hb0 : Below w.heap.size w (w.alloc (.cells DD 46)) := (Below.refl _ _).alloc (Nat.le_refl _) _
  have HRD : Hid (Row (w.alloc (.cells DD 46)) w.heap.size DD 46) := Row.new w _ _
  obtain ⟨wB, hwB⟩ : ∃ x, x = w.alloc (.cells DD 46) := ⟨_, rfl⟩
  rw [← hwB] at hb0 HRD
  have HL0 : Hid (∀ wx, Below wB.heap.size wB wx → (Instr.loadAt 45 (.pointer (some ⟨w.heap.size, 0, none⟩))).run Tryd.prog wx = .ok (.agg A0) wx) := fun wx hx => by
    have hr : Row wx w.heap.size (arr h 64) 46 := by rw [← hDD]; exact Row.below HRD.out hx (Row.lt HRD.out)
    have e := run_loadAt_mid (P := Tryd.prog) wx w.heap.size 0 45 A0.toList _ (by rw [hA0]; exact dg_range hr 0 (by omega)) Tryd.underlying45 rfl hi0
    simpa using e
  have HL1 : Hid (∀ wx, Below wB.heap.size wB wx → (Instr.loadAt 45 (.pointer (some ⟨w.heap.size, 32, none⟩))).run Tryd.prog wx = .ok (.agg A1) wx) := fun wx hx => by
    have hr : Row wx w.heap.size (arr h 64) 46 := by rw [← hDD]; exact Row.below HRD.out hx (Row.lt HRD.out)
    have e := run_loadAt_mid (P := Tryd.prog) wx w.heap.size 32 45 A1.toList _ (by rw [hA1]; exact dg_range hr 32 (by omega)) Tryd.underlying45 rfl hi1
    simpa using e
  have m0 : mayB ⟨#[107]⟩ ⟨#[97]⟩ = true := by kernel_rfl
  have m1 : mayB ⟨#[107]⟩ ⟨#[98]⟩ = true := by kernel_rfl
  obtain ⟨P0, hP0⟩ : ∃ P, P = pathE ⟨#[107]⟩ (dg h 0) ⟨#[97]⟩ := ⟨_, rfl⟩
  obtain ⟨P1, hP1⟩ : ∃ P, P = pathE ⟨#[107]⟩ (dg h 32) ⟨#[98]⟩ := ⟨_, rfl⟩
  have HS0 : Hid (splitB (bl P0) = true) := by show _ = _; rw [hP0]; exact path_split _ m0
  have HS1 : Hid (splitB (bl P1) = true) := by show _ = _; rw [hP1]; exact path_split _ m1
  have hs0 : P0.size = 41 := by rw [hP0, path_size]; rfl
  have hs1 : P1.size = 41 := by rw [hP1, path_size]; rfl
  have HM0 : Hid (∀ wx, Calls Tryd.prog 19 #[.string ⟨#[107]⟩, .agg A0, .string ⟨#[97]⟩] wx fun e w' => e = .returned (.tuple #[.string P0, .int .i64 0]) ∧ Below wx.heap.size wx w') := fun wx => by
    have e := refMake_ok ⟨#[107]⟩ (dg h 0) ⟨#[97]⟩ wx (by decide) (by decide) (dg_bd hh 0) (fun i hi => dg_past h 0 i hi)
    rw [S2.makeV_yes (dg h 0) m0, ← hP0, ← hA0] at e
    exact e
  have HM1 : Hid (∀ wx, Calls Tryd.prog 19 #[.string ⟨#[107]⟩, .agg A1, .string ⟨#[98]⟩] wx fun e w' => e = .returned (.tuple #[.string P1, .int .i64 0]) ∧ Below wx.heap.size wx w') := fun wx => by
    have e := refMake_ok ⟨#[107]⟩ (dg h 32) ⟨#[98]⟩ wx (by decide) (by decide) (dg_bd hh 32) (fun i hi => dg_past h 32 i hi)
    rw [S2.makeV_yes (dg h 32) m1, ← hP1, ← hA1] at e
    exact e
  obtain ⟨G0, hG0⟩ : ∃ G, G = P0.extract 7 39 := ⟨_, rfl⟩
  have HGl : Hid ((bl G0).length = 32 ∧ bl G0 = sgn P0) := ⟨by rw [hG0, sgn_ex]; exact sgn_len HS0.out, by rw [hG0, sgn_ex]⟩
  have hl0 := HL0.out wB (Below.refl _ _)
  have hM0 := HM0.out wB
  have HT : Hid (Tab w) := hT
  have HNT : Hid (NTab w) := hNT
  have HM : Hid (MxTab w) := hm
  have HA : Hid (BytesAt w aa ah ac) := hA
  have HB : Hid (BytesAt w ba bh bc) := hB
  have HB0 : Hid _ := hb0
  have hacap := hA.cap
  have hbcap := hB.cap
  have hle1 := hA.le
  have hle2 := hB.le
  unfold maxLen at hacap hbcap
  rw [← hDD]
  have hwB' := hwB.symm
  clear hDD hA0 hA1 hP0 hP1 m0 m1 hT hNT hm hA hB hb0 hwB
  go_enter Tryd.func5, Tryd.ntmps5
  go_wp2_with (refine S2.wpList_load_want rfl 45 _ rfl w.heap.size 0 rfl A0 hl0 ?_)
  refine hM0.mono ?_
  rintro e w1 ⟨rfl, hb1⟩
  have hl1 := HL1.out w1 hb1
  have hM1 := HM1.out w1
  have HB1 : Hid (Below w.heap.size w w1) := HB0.out.trans (hb1.mono HB0.out.size)
  clear hM0 hl0 hb1
  go_wp2_with (refine S2.wpList_load_want rfl 45 _ rfl w.heap.size 32 rfl A1 hl1 ?_)
  refine hM1.mono ?_
  rintro e w2 ⟨rfl, hb2⟩
  have HB2 : Hid (Below w.heap.size w w2) := HB1.out.trans (hb2.mono HB1.out.size)
  clear hM1 hl1 hb2 hwB' HM0 HM1 HL0 HL1 HRD
  by_cases h1 : 2000 < ah.size
  · have h1' : (2000 : Int) < (ah.size : Int) := by omega
    go_wp2
    go_ret
    exact ⟨rfl, HB2.out⟩
  by_cases h2 : 2000 < bh.size
  · have h1' : ¬ (2000 : Int) < (ah.size : Int) := by omega
    have h2' : (2000 : Int) < (bh.size : Int) := by omega
    go_wp2
    go_ret
    exact ⟨rfl, HB2.out⟩
  have h1' : ¬ (2000 : Int) < (ah.size : Int) := by omega
  have h2' : ¬ (2000 : Int) < (bh.size : Int) := by omega
  have HBd : Hid (Below w2.heap.size w2 w2.drew) := (Below.refl _ _).drew
  have HX : Hid (∀ wx, Below w2.heap.size w2 wx → Below w.heap.size w wx) := fun wx hx => HB2.out.trans (hx.mono HB2.out.size)
  go_wp2_with fail
  refine wp_region_permA [(false, 1), (false, 3), (false, 4), (false, 6), (true, 0), (true, 2), (true, 5), (true, 7), (false, 8)] (fun wx => Below w2.heap.size w2 wx) (by kernel_rfl) (by kernel_rfl) HBd.out ?_
  refine a_move (some 38) _ rfl rfl rfl (by rfl) ?_
  simp only [Act.put, List.setIfInBounds_toArray, List.set_cons_zero, List.set_cons_succ]
  refine a_move (some 40) _ rfl rfl rfl (by rfl) ?_
  simp only [Act.put, List.setIfInBounds_toArray, List.set_cons_zero, List.set_cons_succ]
  have hG0' := hG0.symm
  clear hG0
  refine a_value (some 41) (.string G0) rfl rfl (by rfl) (fun w hw => ?_) ?_
  · go_simp
  simp only [Act.put, List.setIfInBounds_toArray, List.set_cons_zero, List.set_cons_succ]
  refine a_move (some 43) _ rfl rfl rfl (by rfl) ?_
  simp only [Act.put, List.setIfInBounds_toArray, List.set_cons_zero, List.set_cons_succ]
  obtain ⟨wd, hwd⟩ : ∃ x, x = w2.drew := ⟨_, rfl⟩
  have HBwd : Hid (Below w2.heap.size w2 wd) := by rw [hwd]; exact HBd.out
  rw [← hwd]
  clear hwd
  have hbe : Below w2.heap.size w2 (wd.alloc (.cells #[] 5)) := HBwd.out.alloc HBwd.out.size _
  have hoe : Buf (wd.alloc (.cells #[] 5)) w2.heap.size (.slice (some ⟨wd.heap.size, 0, none⟩) 0 0) [] := own_empty wd 5 1 w2.heap.size HBwd.out.size
  refine a_alone (some 37) (.slice (some ⟨wd.heap.size, 0, none⟩) 0 0) (wd.alloc (.cells #[] 5)) rfl rfl (by rfl) (by kernel_rfl) hbe ?_
  simp only [Act.put, List.setIfInBounds_toArray, List.set_cons_zero, List.set_cons_succ]
  obtain ⟨we, hwe⟩ : ∃ x, x = wd.alloc (.cells #[] 5) := ⟨_, rfl⟩
  rw [← hwe] at hbe hoe
  rw [← hwe]
  clear hwe
  have hal := bl_len ah
  have hbl := bl_len bh
  have hgl := HGl.out.1
  refine a_wp rfl (by rfl) ?_
  refine apw_src (some 39) rfl (.tmp 37) (.tmp 38) 22 rfl w2.heap.size _ [] rfl hoe _ rfl (bl ah) (src_bytes (HA.out.keep (HX.out we hbe))) (by simp; omega) hbe.size ?_
  intro v39 wf m39
  have hbf : Below w2.heap.size w2 wf := hbe.trans (m39.below hoe hbe.size)
  refine ⟨hbf, ?_⟩
  simp only [Act.put, List.setIfInBounds_toArray, List.set_cons_zero, List.set_cons_succ]
  have hbuf := m39.buf
  rw [List.nil_append] at hbuf
  refine a_wp rfl (by rfl) ?_
  refine apw_src (some 42) rfl (.tmp 39) (.tmp 41) 9 rfl w2.heap.size _ (bl ah) rfl hbuf _ rfl (bl G0) (by
    have hS := Src.ofString (P := Tryd.prog) wf Tryd.underlying9 G0
    rw [bl_len]
    exact hS) (by omega) hbf.size ?_
  intro v42 wg m42
  have hbg : Below w2.heap.size w2 wg := hbf.trans (m42.below hbuf hbf.size)
  refine ⟨hbg, ?_⟩
  simp only [Act.put, List.setIfInBounds_toArray, List.set_cons_zero, List.set_cons_succ]
  have hbug := m42.buf
  refine a_wp rfl (by rfl) ?_
  refine apw_src (some 44) rfl (.tmp 42) (.tmp 43) 22 rfl w2.heap.size _ (bl ah ++ bl G0) rfl hbug _ rfl (bl bh) (src_bytes (HB.out.keep (HX.out wg hbg))) (by rw [List.length_append]; omega) hbg.size ?_
  intro v44 w3 m44
  have hb3 : Below w2.heap.size w2 w3 := hbg.trans (m44.below hbug hbg.size)
  refine ⟨hb3, ?_⟩
  simp only [Act.put, List.setIfInBounds_toArray, List.set_cons_zero, List.set_cons_succ]
  obtain ⟨X, hX⟩ : ∃ X, X = bl ah ++ bl G0 ++ bl bh := ⟨_, rfl⟩
  have hXl : X.length = ah.size + 32 + bh.size := by rw [hX, List.length_append, List.length_append]; omega
  have hb44 := m44.buf
  rw [← hX] at hb44
  obtain ⟨a11, c11, rfl⟩ := buf_slice hb44
  obtain ⟨D, hD⟩ : ∃ D : ByteArray, D = ⟨X.toArray⟩ := ⟨_, rfl⟩
  have hDs : D.size = X.length := by rw [hD]; show X.toArray.size = _; simp
  have hBD := buf_bytes hb44 (by unfold big; omega)
  rw [← hD] at hBD
  rw [← hDs]
  have HO0 : Hid (occ (sgn P0) (bl D) = true) := by
    show _ = _
    have e : bl D = bl ah ++ bl G0 ++ bl bh := by rw [hD, ← hX]
    rw [e, ← HGl.out.2]
    exact occ_mid _ _ _ HGl.out.1
  have HDl : Hid (D.size ≤ 31744) := by show _ ≤ _; omega
  have HBD : Hid (BytesAt w3 a11 D c11) := hBD
  have HB3 : Hid (Below w.heap.size w w3) := HX.out w3 hb3
  clear hal hbl hgl hbe hoe m39 hbf hbuf m42 hbg hbug m44 hb3 hX hXl hb44 hD hDs hBD HBwd HBd HA HB HX hG0' h1 h2 h1' h2' hacap hbcap hle1 hle2
  refine a_value (some 11) (.slice a11 D.size c11) rfl rfl (by rfl) (fun w hw => ?_) ?_
  · go_simp
  simp only [Act.put, List.setIfInBounds_toArray, List.set_cons_zero, List.set_cons_succ]
  refine a_done ?_
  try simp only [Exit.then]
  -- the node
  obtain ⟨C1, hC1⟩ : ∃ C, C = nodeV 1 false a11 D.size c11 none 0 0 none 0 0 := ⟨_, rfl⟩
  obtain ⟨w4, hw4⟩ : ∃ x, x = w3.alloc (.cells #[.string ⟨#[102]⟩] 9) := ⟨_, rfl⟩
  obtain ⟨w5, hw5⟩ : ∃ x, x = w4.alloc (.cells C1 26) := ⟨_, rfl⟩
  obtain ⟨C, hC⟩ : ∃ C, C = nodeV 2 false none 0 0 (some ⟨w3.heap.size, 0, none⟩) 1 1 (some ⟨w4.heap.size, 0, none⟩) 1 1 := ⟨_, rfl⟩
  have HE1 : Hid _ := hC1
  have HE4 : Hid _ := hw4
  have HE5 : Hid _ := hw5
  have HEC : Hid _ := hC
  have HC5 : Hid (C.size = 5) := by show _ = _; rw [hC]; rfl
  have HCi : Hid ((Tryd.prog.info? 26).map (·.size) = some C.size) := by show _ = _; rw [infoN, HC5.out]
  have HC1 : Hid (C.all (·.oneCell') = true) := by show _ = _; rw [hC]; exact nodeV_one _ _ _ _ _ _ _ _ _ _ _
  have hb4 : Below w3.heap.size w3 w4 := by rw [hw4]; exact (Below.refl _ _).alloc (Nat.le_refl _) _
  have hb5 : Below w4.heap.size w4 w5 := by rw [hw5]; exact (Below.refl _ _).alloc (Nat.le_refl _) _
  have hb35 : Below w3.heap.size w3 w5 := hb4.trans (hb5.mono hb4.size)
  have hr4 : Row w5 w3.heap.size #[.string ⟨#[102]⟩] 9 := by
    have e := Row.new w3 #[.string ⟨#[102]⟩] 9
    rw [← hw4] at e
    exact Row.below e hb5 (Row.lt e)
  have hr5 : Row w5 w4.heap.size C1 26 := by rw [hw5]; exact Row.new _ _ _
  have hND : NodeAt w5 (dN D) C := by
    have hk : NodeAt w5 (.mk 1 false D [] []) C1 := by
      rw [hC1]
      refine NodeAt.mk (ks := []) (ns := []) (kb := 0) (koff := 0) (Cs := fun _ => #[]) (by decide) (HBD.out.keep hb35) ⟨⟨0, 0, fun h => absurd h (by simp), fun i h => absurd h (by simp)⟩, fun _ => ⟨rfl, rfl⟩, Nat.le_refl _, by decide, by decide, fun s hs => (by cases hs)⟩ ⟨fun h => absurd h (by simp), fun i h => absurd h (by simp), fun i h => absurd h (by simp), fun _ => ⟨rfl, rfl⟩, Nat.le_refl _, by decide⟩ (fun i h => absurd h (by simp))
    rw [hC]
    refine NodeAt.mk (d := ⟨#[]⟩) (ns := [⟨#[102]⟩]) (ks := [.mk 1 false D [] []]) (kb := w4.heap.size) (koff := 0) (Cs := fun _ => C1) (by decide) ⟨⟨0, 0, fun h => absurd h (by decide), fun i h => absurd h (by show ¬ i < 0; omega)⟩, fun _ => ⟨rfl, rfl⟩, Nat.le_refl _, by decide, by decide⟩
      (strs_lit [⟨#[102]⟩] hr4 (fun s hs => by rw [List.mem_singleton.1 hs]; decide) (by decide) (by decide)) ⟨fun _ => rfl, fun i hi j hj => ?_, fun i hi => by rw [hC1]; rfl, (fun h => nomatch h), Nat.le_refl _, by decide⟩ (fun i hi => ?_)
    · obtain rfl : i = 0 := by simpa using hi
      rw [show 0 + 0 * 5 + j = j by omega, hr5.cell]
    · obtain rfl : i = 0 := by simpa using hi
      exact hk
  have hb6 : Below w5.heap.size w5 (w5.alloc (.cells C 26)) := (Below.refl _ _).alloc (Nat.le_refl _) _
  have HB5 : Hid (Below w.heap.size w w5) := HB3.out.trans (hb35.mono HB3.out.size)
  have HB6 : Hid (Below w.heap.size w (w5.alloc (.cells C 26))) := HB5.out.trans (hb6.mono HB5.out.size)
  have HNX : Hid (∀ wx, Below (w5.alloc (.cells C 26)).heap.size (w5.alloc (.cells C 26)) wx → NodeAt wx (dN D) C ∧ Row wx w5.heap.size C 26 ∧ Below w.heap.size w wx) := fun wx hx => ⟨(hND.keep hb6).keep hx, Row.below (Row.new w5 C 26) hx (Row.lt (Row.new w5 C 26)), HB6.out.trans (hx.mono HB6.out.size)⟩
  have HTX : Hid (∀ wx, Below w.heap.size w wx → Tab wx ∧ NTab wx ∧ MxTab wx) := fun wx hx => ⟨HT.out.below hx HT.out.pos, S2.NTab.keep HNT.out hx, HM.out.keep hx⟩
  obtain ⟨w6, hw6⟩ : ∃ x, x = w5.alloc (.cells C 26) := ⟨_, rfl⟩
  rw [← hw6] at HNX HB6
  have hw6' := hw6.symm
  obtain ⟨w7, hw7⟩ : ∃ x, x = w6.alloc (.cells #[.string P1, .string P0] 9) := ⟨_, rfl⟩
  have HE7 : Hid _ := hw7
  have hb7 : Below w6.heap.size w6 w7 := by rw [hw7]; exact (Below.refl _ _).alloc (Nat.le_refl _) _
  have h67 := HNX.out w6 (Below.refl _ _)
  have h77 := HNX.out w7 hb7
  have HR6 : Hid (Row w6 w5.heap.size C 26) := h67.2.1
  have h16 : (dN D).count ≤ 16000 := by simp [Nd.count, Nd.countL]
  have hbig : (41 : Nat) ≤ big := by decide
  have hsb : ∀ s ∈ [P1, P0], s.size ≤ big := fun s hs => by
    rcases List.mem_cons.1 hs with rfl | hs
    · rw [hs1]; exact hbig
    · rw [List.mem_singleton.1 hs, hs0]; exact hbig
  have hnd := node_ts (dN D) (some ⟨w6.heap.size, 0, none⟩) [P1, P0] 2 w7 C h77.1 h16 (strs_lit [P1, P0] (by rw [hw7]; exact Row.new _ _ _) hsb (by show 2 * 16 ≤ big; decide) (by show 2 ≤ maxLen; decide)) (HTX.out w7 h77.2.2).1 (HTX.out w7 h77.2.2).2.1
  rw [texts_dN HDl.out] at hnd
  clear hC1 hw4 hw5 hC hb4 hb5 hb35 hr4 hr5 hND hb6 hw6 hw7 h67 HBD HB3 HB5 HB6
  go_wp2_with (first
    | (refine wpList_run rfl (.buildSlice 23 1 #[(0, .const (.string ⟨#[102]⟩))]) rfl (.slice (some ⟨w3.heap.size, 0, none⟩) 1 1) w4 (by rw [HE4.out]; kernel_rfl) ?_)
    | (refine wpList_run rfl (.build 26 #[(0, .const (.int .i64 1)), (2, .tmp 46)]) rfl (.agg C1) w4 (by rw [HE1.out]; kernel_rfl) ?_)
    | (refine wpList_run rfl (.buildSlice 24 1 #[(0, .tmp 47)]) rfl (.slice (some ⟨w4.heap.size, 0, none⟩) 1 1) w5 (by rw [HE5.out, HE1.out]; kernel_rfl) ?_)
    | (refine wpList_run rfl (.build 26 #[(0, .const (.int .i64 2)), (3, .tmp 45), (4, .tmp 48)]) rfl (.agg C) w5 (by rw [HEC.out]; kernel_rfl) ?_)
    | (refine wpList_store_new rfl 26 _ _ rfl w5 nodeZ C 26 rfl w5.heap.size rfl rfl rfl HCi.out HC5.out.symm HC1.out ?_; rw [hw6'])
    | (refine wpList_load_row rfl 26 _ rfl w5.heap.size rfl 26 C (0, 0) _ HR6.out Tryd.underlying26 rfl HCi.out ?_)
    | (refine wpList_run rfl (.buildSlice 23 2 #[(0, .tmp 51), (1, .tmp 52)]) rfl (.slice (some ⟨w6.heap.size, 0, none⟩) 2 2) w7 (by rw [HE7.out]; kernel_rfl) ?_))
  refine hnd.mono ?_
  rintro e w8 ⟨v8, rfl, hT8, hb8⟩
  have hb68 : Below w6.heap.size w6 w8 := hb7.trans (hb8.mono hb7.size)
  have h88 := HNX.out w8 hb68
  have hhas := has_ok v8 _ P0 w8 hT8
  have hmem : P0 ∈ ubsM [⟨#[102]⟩, D] [P1, P0] := found_mem (by simp) HS0.out (t := D) (by simp) HO0.out
  clear hnd hb7 h77 hT8 hb8
  go_wp2_with fail
  refine hhas.mono ?_
  rintro e w8' ⟨x8, rfl, hx8, rfl⟩
  obtain rfl : x8 = true := hx8.2 hmem
  have HR8 : Hid (Row w8' w5.heap.size C 26) := h88.2.1
  have HX8 : Hid (∀ wx, Below w8'.heap.size w8' wx → Below w6.heap.size w6 wx) := fun wx hx => hb68.trans (hx.mono hb68.size)
  have hre := replace_ok (dN D) P0 P1 w8' C h88.1 h16 (by rw [hs0]; decide) (by rw [hs1]; decide) (HTX.out w8' h88.2.2).1 (HTX.out w8' h88.2.2).2.1 (HTX.out w8' h88.2.2).2.2
  have HE01 : Hid (repE (dN D) P0 P1 = 0) := by show _ = _; unfold repE; rw [HS0.out, HS1.out]; exact right_dN HDl.out
  have HE10 : Hid (repE (dN D) P1 P0 = 0) := by show _ = _; unfold repE; rw [HS0.out, HS1.out]; exact right_dN HDl.out
  obtain ⟨D9, hD9⟩ : ∃ X : ByteArray, X = ⟨(rpl (sgn P0) (sgn P1) (bl D)).toArray⟩ := ⟨_, rfl⟩
  obtain ⟨D11, hD11⟩ : ∃ X : ByteArray, X = ⟨(rpl (sgn P1) (sgn P0) (bl D)).toArray⟩ := ⟨_, rfl⟩
  have hg0 := sgn_len HS0.out
  have hg1 := sgn_len HS1.out
  have hn0 : sgn P0 ≠ [] := fun e => by rw [e] at hg0; simp at hg0
  have hn1 : sgn P1 ≠ [] := fun e => by rw [e] at hg1; simp at hg1
  have HN01 : Hid (repN (dN D) P0 P1 = dN D9) := by show _ = _; unfold repN; rw [if_pos HE01.out, rp_dN _ _ hn0, hD9]
  have HN10 : Hid (repN (dN D) P1 P0 = dN D11) := by show _ = _; unfold repN; rw [if_pos HE10.out, rp_dN _ _ hn1, hD11]
  have HD9s : Hid (D9.size = D.size) := by
    show _ = _
    rw [hD9]
    show (rpl (sgn P0) (sgn P1) (bl D)).toArray.size = _
    rw [List.size_toArray, rpl_length hn0 (by rw [hg0, hg1]), bl_len]
  have HO9 : Hid (occ (sgn P1) (bl D9) = true) := by
    show _ = _
    have e : bl D9 = rpl (sgn P0) (sgn P1) (bl D) := by rw [hD9]
    rw [e]
    exact occ_rpl hg0 hg1 HO0.out
  clear hhas hmem hx8 hb68 h88 hD9 hD11 hg0 hg1 hn0 hn1 HGl HO0
  go_wp2_with (refine wpList_load_row rfl 26 _ rfl w5.heap.size rfl 26 C (0, 0) _ HR8.out Tryd.underlying26 rfl HCi.out ?_)
  refine hre.mono ?_
  rintro e w9 ⟨C9, rfl, hN9, hb9⟩
  rw [HE01.out]
  have hA9 := hN9.at'
  rw [HN01.out] at hA9
  have hC95 := hA9.size
  have h19 := NodeAt.one hA9
  have hi9 : (Tryd.prog.info? 26).map (·.size) = some C9.size := by rw [infoN, hC95]
  have hbx : Below w9.heap.size w9 (w9.alloc (.cells C9 26)) := (Below.refl _ _).alloc (Nat.le_refl _) _
  have hb10 : Below w8'.heap.size w8' (w9.alloc (.cells C9 26)) := hb9.trans (hbx.mono hb9.size)
  have hA10 := hA9.keep hbx
  obtain ⟨w10, hw10⟩ : ∃ x, x = w9.alloc (.cells C9 26) := ⟨_, rfl⟩
  have hr10 : Row w10 w9.heap.size C9 26 := by rw [hw10]; exact Row.new _ _ _
  rw [← hw10] at hb10 hA10
  have hw10' := hw10.symm
  obtain ⟨xa, xc, na, nc, kb, koff, kc, da, dc, hCl, hk1, hk2, hcell⟩ := dN_lit hA10
  have c4 := (hr10.cell 4).trans (by rw [hCl]; rfl : _ = some (Value.slice (some ⟨kb, koff, none⟩) 1 kc))
  rw [HD9s.out] at hcell
  have h1010 := HNX.out w10 (HX8.out w10 hb10)
  have HR10 : Hid (Row w10 w5.heap.size C 26) := h1010.2.1
  have HRr : Hid _ := hr10
  have HA10 : Hid _ := hA10
  have HCl : Hid _ := hCl
  have HX10 : Hid (∀ wx, Below w10.heap.size w10 wx → Below w6.heap.size w6 wx) := fun wx hx => (HX8.out w10 hb10).trans (hx.mono (HX8.out w10 hb10).size)
  have hbk := replace_ok (dN D) P1 P0 w10 C h1010.1 h16 (by rw [hs1]; decide) (by rw [hs0]; decide) (HTX.out w10 h1010.2.2).1 (HTX.out w10 h1010.2.2).2.1 (HTX.out w10 h1010.2.2).2.2
  unfold maxLen at hk2
  clear hre hN9 hb9 hA9 hbx hb10 hA10 hw10 hr10 hCl h1010 HR8
  go_wp2_with (first
    | (refine wpList_store_new rfl 26 _ _ rfl w9 nodeZ C9 26 rfl w9.heap.size rfl rfl rfl hi9 hC95.symm h19 ?_; rw [hw10'])
    | (refine wpList_load_row rfl 26 _ rfl w5.heap.size rfl 26 C (0, 0) _ HR10.out Tryd.underlying26 rfl HCi.out ?_))
  refine hbk.mono ?_
  rintro e w11 ⟨C11, rfl, hN11, hb11⟩
  rw [HE10.out]
  have hA11 := hN11.at'
  rw [HN10.out] at hA11
  have hC11 := hA11.size
  have h111 := NodeAt.one hA11
  have hi11 : (Tryd.prog.info? 26).map (·.size) = some C11.size := by rw [infoN, hC11]
  have hby : Below w11.heap.size w11 (w11.alloc (.cells C11 26)) := (Below.refl _ _).alloc (Nat.le_refl _) _
  have hb12 : Below w10.heap.size w10 (w11.alloc (.cells C11 26)) := hb11.trans (hby.mono hb11.size)
  obtain ⟨w12, hw12⟩ : ∃ x, x = w11.alloc (.cells C11 26) := ⟨_, rfl⟩
  have hr12 : Row w12 w11.heap.size C11 26 := by rw [hw12]; exact Row.new _ _ _
  have hA12 := hA11.keep hby
  rw [← hw12] at hb12 hA12
  have hw12' := hw12.symm
  obtain ⟨ya, yc, ma, mc, lb, loff, lc, ea, ec, hDl, hl1, hl2, _⟩ := dN_lit hA12
  obtain ⟨w13, hw13⟩ : ∃ x, x = w12.alloc (.cells #[.string P1] 9) := ⟨_, rfl⟩
  have HE13 : Hid _ := hw13
  have hb13 : Below w12.heap.size w12 w13 := by rw [hw13]; exact (Below.refl _ _).alloc (Nat.le_refl _) _
  have hb1013 : Below w10.heap.size w10 w13 := hb12.trans (hb13.mono hb12.size)
  have HRr12 : Hid (Row w12 w9.heap.size C9 26) := Row.below HRr.out hb12 (Row.lt HRr.out)
  have h1313 := HNX.out w13 (HX10.out w13 hb1013)
  have h169 : (dN D9).count ≤ 16000 := by simp [Nd.count, Nd.countL]
  have hnd := node_ts (dN D9) (some ⟨w12.heap.size, 0, none⟩) [P1] 1 w13 C9 (HA10.out.keep hb1013) h169 (strs_lit [P1] (by rw [hw13]; exact Row.new _ _ _) (fun s hs => by rw [List.mem_singleton.1 hs, hs1]; exact hbig) (by show 1 * 16 ≤ big; decide) (by show 1 ≤ maxLen; decide)) (HTX.out w13 h1313.2.2).1 (HTX.out w13 h1313.2.2).2.1
  rw [texts_dN (by rw [HD9s.out]; exact HDl.out)] at hnd
  have HR12 : Hid _ := hr12
  have HDl12 : Hid _ := hDl
  have HX13 : Hid (∀ wx, Below w13.heap.size w13 wx → Below w.heap.size w wx ∧ Row wx w11.heap.size C11 26) := fun wx hx => ⟨(HNX.out wx (HX10.out wx (hb1013.trans (hx.mono hb1013.size)))).2.2, Row.below hr12 (hb13.trans (hx.mono hb13.size)) (Row.lt hr12)⟩
  unfold maxLen at hl2
  clear hbk hN11 hb11 hA11 hby hb12 hw12 hr12 hA12 hw13 hb13 hb1013 h1313 hcell c4 hw10' hDl
  go_wp2_with (first
    | (refine wpList_store_new rfl 26 _ _ rfl w11 nodeZ C11 26 rfl w11.heap.size rfl rfl rfl hi11 hC11.symm h111 ?_; rw [hw12'])
    | (refine S2.wpList_load_want rfl 26 _ rfl w9.heap.size 0 rfl C9 (by
         simp only [Instr.loadAt, Instr.sureAddr, Sem.run_bind, Sem.run_pure, Result.andThen_ok, run_loadVar_row w12 w9.heap.size 26 26 C9 (0, 0) _ HRr12.out Tryd.underlying26 rfl hi9]) ?_)
    | (refine wpList_runG rfl (.buildSlice 23 1 #[(0, .tmp 96)]) rfl (.slice (some ⟨w12.heap.size, 0, none⟩) 1 1) w13 (by rw [HE13.out]; kernel_rfl) ?_))
  refine hnd.mono ?_
  rintro e w14 ⟨v14, rfl, hT14, hb14⟩
  have h14 := HX13.out w14 hb14
  have c12 := (h14.2.cell 4).trans (by rw [HDl12.out]; rfl : _ = some (Value.slice (some ⟨lb, loff, none⟩) 1 lc))
  have hhas := has_ok v14 _ P1 w14 hT14
  have hmem : P1 ∈ ubsM [⟨#[102]⟩, D9] [P1] := found_mem (by simp) HS1.out (t := D9) (by simp) HO9.out
  have HBE : Hid _ := h14.1
  clear hnd hT14 hb14 h14
  go_wp2_with fail
  refine hhas.mono ?_
  rintro e w14' ⟨x14, rfl, hx14, rfl⟩
  obtain rfl : x14 = true := hx14.2 hmem
  clear hhas hmem hx14
  go_wp2
  go_ret
  exact ⟨rfl, HBE.out⟩
end Go.Proofs.YtpkbfljoakodoaaDoor
