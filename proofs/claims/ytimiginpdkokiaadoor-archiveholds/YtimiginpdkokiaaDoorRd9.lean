/- My own work: the walk of node. -/
import Derived.Test.YtimiginpdkokiaaDoorRd8
namespace Go.Proofs.YtimiginpdkokiaaDoor
open Go.RowKit

theorem resultsNode : Tryd.f43.results = #[.cell 4 26, .tmp 5] := by kernel_rfl
theorem nodeF_word {f : Nat → Int} {L k p q q2 q3 : Nat} {wd : ByteArray} (h1 : passF f L p [wOpen] = .ok q) (h2 : passF f L q [wType] = .ok q2) (h3 : wordF f L q2 [wFile, wLink, wDir] = .ok (wd, q3)) : nodeF f L (k + 1) p = if wd = wFile then fileF f L q3 else if wd = wLink then linkF f L q3 else dirF (nodeF f L k) f L (L + 1) q3 [] [] := by
  conv => lhs; unfold nodeF
  rw [h1]
  simp only [h2, h3]
set_option maxRecDepth 20000 in
set_option maxHeartbeats 4000000 in
theorem node_zero (I : Inp) (p : Nat) (w : World) (h : Rdr w I p) : Calls Tryd.prog 43 #[.pointer (some ⟨I.gR, 0, none⟩), .int .i64 33] w fun r w' => NodePost I w (nodeF I.f I.L 0 p) r w' := by
  have hb0 : Below w.heap.size w (w.alloc (.cells node0 26)) := (Below.refl _ _).alloc (Nat.le_refl _) _
  have HR0 : Hid (Row (w.alloc (.cells node0 26)) w.heap.size node0 26) := Row.new w _ 26
  have HRd0 : Hid (Rdr (w.alloc (.cells node0 26)) I p) := h.keep hb0
  have HG0 : Hid (Gr I w (w.alloc (.cells node0 26))) := Gr.of hb0
  have HSZ : Hid (w.heap.size + 1 = (w.alloc (.cells node0 26)).heap.size) := by show _ = _; simp
  have HH : Hid (Rdr w I p) := h
  have hgR := h.lts.1
  obtain ⟨NP, hNP⟩ : ∃ NP, NP = NodePost I w (nodeF I.f I.L 0 p) := ⟨_, rfl⟩
  have HP : Hid (∀ r w', NodePost I w (nodeF I.f I.L 0 p) r w' → NP r w') := fun r w' h => by rw [hNP]; exact h
  rw [← hNP]
  clear hNP h hb0
  go_enter Tryd.func43, Tryd.ntmps43
  go_wp2_with (refine b_texts rfl _ [wOpen] rfl (Nat.succ_pos _) (Nat.le_of_ble_eq_true rfl) rfl ?_)
  generalize w.alloc (.cells node0 26) = w0 at *
  refine Calls.mono (pass1_ok I p w0 HRd0.out [wOpen] (Nat.le_of_ble_eq_true rfl) _ HSZ.out _ rfl _ rfl) ?_
  rintro r w1 ⟨hg1, hpost⟩
  have hR1 : Row w1 w.heap.size node0 26 := hg1.row HR0.out (by omega)
  have HG1 : Hid (Gr I w w1) := HG0.out.trans hg1
  have hs1 := hg1.size
  clear hg1 HR0 HRd0
  cases h1 : passF I.f I.L p [wOpen] with
  | error er =>
    rw [h1] at hpost
    obtain ⟨ev, rfl, he⟩ := hpost
    have HE : Hid (ErrAt w1 ev er) := he
    obtain ⟨z1, z2, rfl, _⟩ := he
    have HS : Hid (nodeF I.f I.L 0 p = .error er) := by show _ = _; unfold nodeF; rw [h1]
    clear h1
    go_wp2_with (refine wpList_store_row rfl 26 _ _ rfl w.heap.size node0 rfl rfl 26 node0 hR1 info0 rfl node0_one ?_)
    refine bodyPost_ret (results_cell_row2 resultsNode _ _ w.heap.size 26 node0 (0, 0) _ rfl (Row.setRow hR1) Tryd.underlying26 rfl info0) rfl ?_
    exact HP.out _ _ (NodePost.bad HS.out HG1.out (Nat.le_refl _) hR1 HE.out)
  | ok q =>
    rw [h1] at hpost
    obtain ⟨rfl, hr1⟩ := hpost
    have HS : Hid (nodeF I.f I.L 0 p = .error 3) := by show _ = _; unfold nodeF; rw [h1]
    have HW : Hid (Calls Tryd.prog 44 #[.pointer (some ⟨I.gR, 0, none⟩), .int .i64 3] w1 fun r w' => ∃ ev, r = .returned ev ∧ ErrAt w' ev 3 ∧ Below w1.heap.size w1 w') := wrong_ok I q w1 hr1 3
    clear h1 hr1
    go_wp2_with fail
    refine Calls.mono HW.out ?_
    rintro r w2 ⟨ev, rfl, he, hb2⟩
    have HE : Hid (ErrAt w2 ev 3) := he
    have HG2 : Hid (Gr I w w2) := HG1.out.trans (Gr.of hb2)
    have hR2 : Row w2 w.heap.size node0 26 := hR1.below hb2 hR1.lt
    clear he hb2 HW hR1
    go_wp2_with (refine wpList_store_row rfl 26 _ _ rfl w.heap.size node0 rfl rfl 26 node0 hR2 info0 rfl node0_one ?_)
    refine bodyPost_ret (results_cell_row2 resultsNode _ _ w.heap.size 26 node0 (0, 0) _ rfl (Row.setRow hR2) Tryd.underlying26 rfl info0) rfl ?_
    exact HP.out _ _ (NodePost.bad HS.out HG2.out (Nat.le_refl _) hR2 HE.out)
set_option maxRecDepth 20000 in
set_option maxHeartbeats 4000000 in
theorem node_succ (I : Inp) (p : Nat) (w : World) (h : Rdr w I p) (k lv : Nat) (hlv : lv ≤ 32) (HREC : ∀ q wx, Rdr wx I q → Calls Tryd.prog 43 #[.pointer (some ⟨I.gR, 0, none⟩), .int .i64 ((lv : Int) + 1)] wx fun r w' => NodePost I wx (nodeF I.f I.L k q) r w') : Calls Tryd.prog 43 #[.pointer (some ⟨I.gR, 0, none⟩), .int .i64 lv] w fun r w' => NodePost I w (nodeF I.f I.L (k + 1) p) r w' := by
  have hb0 : Below w.heap.size w (w.alloc (.cells node0 26)) := (Below.refl _ _).alloc (Nat.le_refl _) _
  have HR0 : Hid (Row (w.alloc (.cells node0 26)) w.heap.size node0 26) := Row.new w _ 26
  have HRd0 : Hid (Rdr (w.alloc (.cells node0 26)) I p) := h.keep hb0
  have HG0 : Hid (Gr I w (w.alloc (.cells node0 26))) := Gr.of hb0
  have HSZ : Hid (w.heap.size + 1 = (w.alloc (.cells node0 26)).heap.size) := by show _ = _; simp
  have HH : Hid (Rdr w I p) := h
  have hl32 : ¬ (32 : Int) < (lv : Int) := by omega
  have HRC : Hid (∀ q wx, Rdr wx I q → Calls Tryd.prog 43 #[.pointer (some ⟨I.gR, 0, none⟩), .int .i64 ((lv : Int) + 1)] wx fun r w' => NodePost I wx (nodeF I.f I.L k q) r w') := HREC
  have hgR := h.lts.1
  have HBD : Hid (∀ i, 0 ≤ I.f i ∧ I.f i < 256) := h.bd
  obtain ⟨NP, hNP⟩ : ∃ NP, NP = NodePost I w (nodeF I.f I.L (k + 1) p) := ⟨_, rfl⟩
  have HP : Hid (∀ r w', NodePost I w (nodeF I.f I.L (k + 1) p) r w' → NP r w') := fun r w' h => by rw [hNP]; exact h
  rw [← hNP]
  clear hNP h hb0 HREC
  go_enter Tryd.func43, Tryd.ntmps43
  go_wp2_with (refine b_texts rfl _ [wOpen] rfl (Nat.succ_pos _) (Nat.le_of_ble_eq_true rfl) rfl ?_)
  generalize w.alloc (.cells node0 26) = w0 at *
  refine Calls.mono (pass1_ok I p w0 HRd0.out [wOpen] (Nat.le_of_ble_eq_true rfl) _ HSZ.out _ rfl _ rfl) ?_
  rintro r w1 ⟨hg1, hpost⟩
  have hR1 : Row w1 w.heap.size node0 26 := hg1.row HR0.out (by omega)
  have HG1 : Hid (Gr I w w1) := HG0.out.trans hg1
  have hs1 := hg1.size
  clear hg1 HR0 HRd0
  cases h1 : passF I.f I.L p [wOpen] with
  | error er =>
    rw [h1] at hpost
    obtain ⟨ev, rfl, he⟩ := hpost
    have HE : Hid (ErrAt w1 ev er) := he
    obtain ⟨z1, z2, rfl, _⟩ := he
    have HS : Hid (nodeF I.f I.L (k + 1) p = .error er) := by show _ = _; unfold nodeF; rw [h1]
    clear h1
    go_wp2_with (refine wpList_store_row rfl 26 _ _ rfl w.heap.size node0 rfl rfl 26 node0 hR1 info0 rfl node0_one ?_)
    refine bodyPost_ret (results_cell_row2 resultsNode _ _ w.heap.size 26 node0 (0, 0) _ rfl (Row.setRow hR1) Tryd.underlying26 rfl info0) rfl ?_
    exact HP.out _ _ (NodePost.bad HS.out HG1.out (Nat.le_refl _) hR1 HE.out)
  | ok q =>
    rw [h1] at hpost
    obtain ⟨rfl, hr1⟩ := hpost
    have HR1 : Hid (Rdr w1 I q) := hr1
    have H1 : Hid (passF I.f I.L p [wOpen] = .ok q) := h1
    clear h1 hr1
    go_wp2_with (refine b_texts rfl _ [wType] rfl (Nat.succ_pos _) (Nat.le_of_ble_eq_true rfl) rfl ?_)
    refine Calls.mono (pass1_ok I q w1 HR1.out [wType] (Nat.le_of_ble_eq_true rfl) _ rfl _ rfl _ rfl) ?_
    rintro r w2 ⟨hg2, hpost⟩
    have hR2 : Row w2 w.heap.size node0 26 := hg2.row hR1 (by omega)
    have HG2 : Hid (Gr I w w2) := HG1.out.trans hg2
    have hs2 := hg2.size
    clear hg2 hR1 HR1 HG1
    cases h2 : passF I.f I.L q [wType] with
    | error er =>
      rw [h2] at hpost
      obtain ⟨ev, rfl, he⟩ := hpost
      have HE : Hid (ErrAt w2 ev er) := he
      obtain ⟨z1, z2, rfl, _⟩ := he
      have HS : Hid (nodeF I.f I.L (k + 1) p = .error er) := by show _ = _; unfold nodeF; rw [H1.out]; simp only [h2]
      clear h2
      go_wp2_with (refine wpList_store_row rfl 26 _ _ rfl w.heap.size node0 rfl rfl 26 node0 hR2 info0 rfl node0_one ?_)
      refine bodyPost_ret (results_cell_row2 resultsNode _ _ w.heap.size 26 node0 (0, 0) _ rfl (Row.setRow hR2) Tryd.underlying26 rfl info0) rfl ?_
      exact HP.out _ _ (NodePost.bad HS.out HG2.out (Nat.le_refl _) hR2 HE.out)
    | ok q2 =>
      rw [h2] at hpost
      obtain ⟨rfl, hr2⟩ := hpost
      have HR2 : Hid (Rdr w2 I q2) := hr2
      have H2 : Hid (passF I.f I.L q [wType] = .ok q2) := h2
      clear h2 hr2
      go_wp2_with (refine b_texts rfl _ [wFile, wLink, wDir] rfl (Nat.succ_pos _) (Nat.le_of_ble_eq_true rfl) rfl ?_)
      refine Calls.mono (oneOf1_ok I q2 w2 HR2.out [wFile, wLink, wDir] (Nat.le_of_ble_eq_true rfl) _ rfl _ rfl _ rfl) ?_
      rintro r w3 ⟨hg3, hpost⟩
      have hR3 : Row w3 w.heap.size node0 26 := hg3.row hR2 (by omega)
      have HG3 : Hid (Gr I w w3) := HG2.out.trans hg3
      have HSL : Hid (w0.heap.size ≤ w3.heap.size) := by have := hg3.size; show _ ≤ _; omega
      clear hg3 hR2 HR2 HG2
      cases h3 : wordF I.f I.L q2 [wFile, wLink, wDir] with
      | error er =>
        rw [h3] at hpost
        obtain ⟨ev, rfl, he⟩ := hpost
        have HE : Hid (ErrAt w3 ev er) := he
        obtain ⟨z1, z2, rfl, _⟩ := he
        have HS : Hid (nodeF I.f I.L (k + 1) p = .error er) := by show _ = _; unfold nodeF; rw [H1.out]; simp only [H2.out, h3]
        clear h3
        go_wp2_with (refine wpList_store_row rfl 26 _ _ rfl w.heap.size node0 rfl rfl 26 node0 hR3 info0 rfl node0_one ?_)
        refine bodyPost_ret (results_cell_row2 resultsNode _ _ w.heap.size 26 node0 (0, 0) _ rfl (Row.setRow hR3) Tryd.underlying26 rfl info0) rfl ?_
        exact HP.out _ _ (NodePost.bad HS.out HG3.out (Nat.le_refl _) hR3 HE.out)
      | ok x =>
        obtain ⟨wd, q3⟩ := x
        rw [h3] at hpost
        obtain ⟨rfl, hr3⟩ := hpost
        have HR3 : Hid (Rdr w3 I q3) := hr3
        have hm := (word_sound HBD.out h3).1
        simp only [List.mem_cons, List.not_mem_nil, or_false] at hm
        have HN : Hid (nodeF I.f I.L (k + 1) p = if wd = wFile then fileF I.f I.L q3 else if wd = wLink then linkF I.f I.L q3 else dirF (nodeF I.f I.L k) I.f I.L (I.L + 1) q3 [] []) := nodeF_word H1.out H2.out h3
        clear h3 hr3
        rcases hm with rfl | rfl | rfl
        · have HS : Hid (nodeF I.f I.L (k + 1) p = fileF I.f I.L q3) := by show _ = _; rw [HN.out, if_pos rfl]
          have HD : Hid (Calls Tryd.prog 56 #[.pointer (some ⟨I.gR, 0, none⟩)] w3 fun r w' => NodePost I w3 (fileF I.f I.L q3) r w') := file_ok I q3 w3 HR3.out
          clear HN
          go_wp2_with fail
          refine Calls.mono HD.out ?_
          rintro r w4 hp
          obtain ⟨C, ev, rfl, h5, h1⟩ := hp.shape
          have HPN : Hid _ := hp
          have hRt : Row w4 w.heap.size node0 26 := hp.1.row hR3 (by omega)
          have hCi : (Tryd.prog.info? 26).map (·.size) = some C.size := by rw [infoN, h5]
          clear hp
          go_wp2_with (refine wpList_store_row rfl 26 _ _ rfl w.heap.size C rfl rfl 26 node0 hRt hCi (show node0.size = C.size by rw [h5]; rfl) h1 ?_)
          refine bodyPost_ret (results_cell_row2 resultsNode _ _ w.heap.size 26 C (0, 0) _ rfl hRt.setRow Tryd.underlying26 rfl hCi) rfl ?_
          refine HP.out _ _ ?_
          rw [HS.out]
          exact NodePost.out HG3.out (Nat.le_refl _) (by have := HSZ.out; have := HSL.out; omega) HH.out hRt HPN.out
        · have HS : Hid (nodeF I.f I.L (k + 1) p = linkF I.f I.L q3) := by show _ = _; rw [HN.out, if_neg (by decide), if_pos rfl]
          have HD : Hid (Calls Tryd.prog 57 #[.pointer (some ⟨I.gR, 0, none⟩)] w3 fun r w' => NodePost I w3 (linkF I.f I.L q3) r w') := link_ok I q3 w3 HR3.out
          clear HN
          go_wp2_with fail
          refine Calls.mono HD.out ?_
          rintro r w4 hp
          obtain ⟨C, ev, rfl, h5, h1⟩ := hp.shape
          have HPN : Hid _ := hp
          have hRt : Row w4 w.heap.size node0 26 := hp.1.row hR3 (by omega)
          have hCi : (Tryd.prog.info? 26).map (·.size) = some C.size := by rw [infoN, h5]
          clear hp
          go_wp2_with (refine wpList_store_row rfl 26 _ _ rfl w.heap.size C rfl rfl 26 node0 hRt hCi (show node0.size = C.size by rw [h5]; rfl) h1 ?_)
          refine bodyPost_ret (results_cell_row2 resultsNode _ _ w.heap.size 26 C (0, 0) _ rfl hRt.setRow Tryd.underlying26 rfl hCi) rfl ?_
          refine HP.out _ _ ?_
          rw [HS.out]
          exact NodePost.out HG3.out (Nat.le_refl _) (by have := HSZ.out; have := HSL.out; omega) HH.out hRt HPN.out
        · have HS : Hid (nodeF I.f I.L (k + 1) p = dirF (nodeF I.f I.L k) I.f I.L (I.L + 1) q3 [] []) := by show _ = _; rw [HN.out, if_neg (by decide), if_neg (by decide)]
          have HD : Hid (Calls Tryd.prog 58 #[.pointer (some ⟨I.gR, 0, none⟩), .int .i64 lv] w3 fun r w' => NodePost I w3 (dirF (nodeF I.f I.L k) I.f I.L (I.L + 1) q3 [] []) r w') := dir_ok I q3 k lv HRC.out (by omega) w3 HR3.out
          clear HN
          go_wp2_with fail
          refine Calls.mono HD.out ?_
          rintro r w4 hp
          obtain ⟨C, ev, rfl, h5, h1⟩ := hp.shape
          have HPN : Hid _ := hp
          have hRt : Row w4 w.heap.size node0 26 := hp.1.row hR3 (by omega)
          have hCi : (Tryd.prog.info? 26).map (·.size) = some C.size := by rw [infoN, h5]
          clear hp
          go_wp2_with (refine wpList_store_row rfl 26 _ _ rfl w.heap.size C rfl rfl 26 node0 hRt hCi (show node0.size = C.size by rw [h5]; rfl) h1 ?_)
          refine bodyPost_ret (results_cell_row2 resultsNode _ _ w.heap.size 26 C (0, 0) _ rfl hRt.setRow Tryd.underlying26 rfl hCi) rfl ?_
          refine HP.out _ _ ?_
          rw [HS.out]
          exact NodePost.out HG3.out (Nat.le_refl _) (by have := HSZ.out; have := HSL.out; omega) HH.out hRt HPN.out
theorem node_ok (I : Inp) : ∀ (k lv : Nat), lv + k = 33 → ∀ (q : Nat) (w : World), Rdr w I q → Calls Tryd.prog 43 #[.pointer (some ⟨I.gR, 0, none⟩), .int .i64 lv] w fun r w' => NodePost I w (nodeF I.f I.L k q) r w'
  | 0, lv, hl, q, w, h => by
    obtain rfl : lv = 33 := by omega
    exact node_zero I q w h
  | k + 1, lv, hl, q, w, h => node_succ I q w h k lv (by omega) (fun q' wx hx => by
    have := node_ok I k (lv + 1) (by omega) q' wx hx
    rw [Int.natCast_add] at this
    exact this)
end Go.Proofs.YtimiginpdkokiaaDoor
