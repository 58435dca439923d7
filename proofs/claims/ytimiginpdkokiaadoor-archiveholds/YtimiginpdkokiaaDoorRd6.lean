/- My own work: the walks of file and link. -/
import Derived.Test.YtimiginpdkokiaaDoorRd5
namespace Go.Proofs.YtimiginpdkokiaaDoor
open Go.RowKit

set_option maxRecDepth 20000 in
set_option maxHeartbeats 4000000 in
theorem file_ok (I : Inp) (p : Nat) (w : World) (h : Rdr w I p) : Calls Tryd.prog 56 #[.pointer (some ⟨I.gR, 0, none⟩)] w fun r w' => NodePost I w (fileF I.f I.L p) r w' := by
  have hb0 : Below w.heap.size w (w.alloc (.cells node0 26)) := (Below.refl _ _).alloc (Nat.le_refl _) _
  have HR0 : Hid (Row (w.alloc (.cells node0 26)) w.heap.size node0 26) := Row.new w _ 26
  have HRd0 : Hid (Rdr (w.alloc (.cells node0 26)) I p) := h.keep hb0
  have HG0 : Hid (Gr I w (w.alloc (.cells node0 26))) := Gr.of hb0
  have HSZ : Hid (w.heap.size + 1 = (w.alloc (.cells node0 26)).heap.size) := by show _ = _; simp
  have HH : Hid (Rdr w I p) := h
  have hgR := h.lts.1
  have HBD : Hid (∀ i, 0 ≤ I.f i ∧ I.f i < 256) := h.bd
  obtain ⟨NP, hNP⟩ : ∃ NP, NP = NodePost I w (fileF I.f I.L p) := ⟨_, rfl⟩
  have HP : Hid (∀ r w', NodePost I w (fileF I.f I.L p) r w' → NP r w') := fun r w' h => by rw [hNP]; exact h
  rw [← hNP]
  clear hNP h hb0
  go_enter Tryd.func56, Tryd.ntmps56
  go_wp2_with (refine b_texts rfl _ [wExec, wData] rfl (Nat.succ_pos _) (Nat.le_of_ble_eq_true rfl) rfl ?_)
  generalize w.alloc (.cells node0 26) = w0 at *
  refine Calls.mono (oneOf1_ok I p w0 HRd0.out [wExec, wData] (Nat.le_of_ble_eq_true rfl) _ HSZ.out _ rfl _ rfl) ?_
  rintro r w1 ⟨hg1, hpost⟩
  have hR1 : Row w1 w.heap.size node0 26 := hg1.row HR0.out (by omega)
  have HG1 : Hid (Gr I w w1) := HG0.out.trans hg1
  have hs1 := hg1.size
  clear hg1 HR0 HRd0
  cases hw : wordF I.f I.L p [wExec, wData] with
  | error er =>
    rw [hw] at hpost
    obtain ⟨ev, rfl, he⟩ := hpost
    have HE : Hid (ErrAt w1 ev er) := he
    obtain ⟨q1, q2, rfl, _⟩ := he
    have HS : Hid (fileF I.f I.L p = .error er) := by show _ = _; unfold fileF; rw [hw]
    clear hw
    go_wp2_with (refine wpList_store_row rfl 26 _ _ rfl w.heap.size node0 rfl rfl 26 node0 hR1 info0 rfl node0_one ?_)
    refine bodyPost_ret (results_cell_row2 resultsFile _ _ w.heap.size 26 node0 (0, 0) _ rfl (Row.setRow hR1) Tryd.underlying26 rfl info0) rfl ?_
    exact HP.out _ _ (NodePost.bad HS.out HG1.out (Nat.le_refl _) hR1 HE.out)
  | ok x =>
    obtain ⟨wd, q⟩ := x
    rw [hw] at hpost
    obtain ⟨rfl, hr1⟩ := hpost
    have HR1 : Hid (Rdr w1 I q) := hr1
    have hm := (word_sound HBD.out hw).1
    simp only [List.mem_cons, List.not_mem_nil, or_false] at hm
    clear hr1
    rcases hm with rfl | rfl
    · have HW : Hid (fileF I.f I.L p = match passF I.f I.L q [wNone, wData] with | .error e => .error e | .ok q2 => dataF I.f I.L q2 1 true) := by show _ = _; unfold fileF; rw [hw]; exact if_pos rfl
      clear hw
      go_wp2_with (refine b_texts rfl _ [wNone, wData] rfl (Nat.succ_pos _) (Nat.le_of_ble_eq_true rfl) rfl ?_)
      refine Calls.mono (pass1_ok I q w1 HR1.out [wNone, wData] (Nat.le_of_ble_eq_true rfl) _ rfl _ rfl _ rfl) ?_
      rintro r w2 ⟨hg2, hpost⟩
      have hR2 : Row w2 w.heap.size node0 26 := hg2.row hR1 (by omega)
      have HG2 : Hid (Gr I w w2) := HG1.out.trans hg2
      have HSL : Hid (w0.heap.size ≤ w2.heap.size) := by have := hg2.size; show _ ≤ _; omega
      clear hg2 hR1 HR1
      cases hps : passF I.f I.L q [wNone, wData] with
      | error er =>
        rw [hps] at hpost HW
        obtain ⟨ev, rfl, he⟩ := hpost
        have HE : Hid (ErrAt w2 ev er) := he
        obtain ⟨q1, q2, rfl, _⟩ := he
        clear hps
        go_wp2_with (refine wpList_store_row rfl 26 _ _ rfl w.heap.size node0 rfl rfl 26 node0 hR2 info0 rfl node0_one ?_)
        refine bodyPost_ret (results_cell_row2 resultsFile _ _ w.heap.size 26 node0 (0, 0) _ rfl (Row.setRow hR2) Tryd.underlying26 rfl info0) rfl ?_
        exact HP.out _ _ (NodePost.bad HW.out HG2.out (Nat.le_refl _) hR2 HE.out)
      | ok q2 =>
        rw [hps] at hpost HW
        obtain ⟨rfl, hr2⟩ := hpost
        have HD : Hid (Calls Tryd.prog 71 #[.pointer (some ⟨I.gR, 0, none⟩), .agg (nodeV 1 true none 0 0 none 0 0 none 0 0)] w2 fun r w' => NodePost I w2 (dataF I.f I.L q2 1 true) r w') := data_ok I q2 w2 hr2 1 true (by omega)
        have HR2 : Hid _ := hR2
        clear hps hr2
        go_wp2_with fail
        refine Calls.mono HD.out ?_
        rintro r w3 hp
        obtain ⟨C, ev, rfl, h5, h1⟩ := hp.shape
        have HPN : Hid _ := hp
        have hRt : Row w3 w.heap.size node0 26 := hp.1.row hR2 (by omega)
        have hCi : (Tryd.prog.info? 26).map (·.size) = some C.size := by rw [infoN, h5]
        clear hp
        go_wp2_with (refine wpList_store_row rfl 26 _ _ rfl w.heap.size C rfl rfl 26 node0 hRt hCi (show node0.size = C.size by rw [h5]; rfl) h1 ?_)
        refine bodyPost_ret (results_cell_row2 resultsFile _ _ w.heap.size 26 C (0, 0) _ rfl hRt.setRow Tryd.underlying26 rfl hCi) rfl ?_
        refine HP.out _ _ ?_
        rw [HW.out]
        exact NodePost.out HG2.out (Nat.le_refl _) (by have := HSZ.out; have := HSL.out; omega) HH.out hRt HPN.out
    · have HW : Hid (fileF I.f I.L p = dataF I.f I.L q 1 false) := by show _ = _; unfold fileF; rw [hw]; simp only; rw [if_neg (by decide)]
      have HSL : Hid (w0.heap.size ≤ w1.heap.size) := hs1
      have HD : Hid (Calls Tryd.prog 71 #[.pointer (some ⟨I.gR, 0, none⟩), .agg (nodeV 1 false none 0 0 none 0 0 none 0 0)] w1 fun r w' => NodePost I w1 (dataF I.f I.L q 1 false) r w') := data_ok I q w1 HR1.out 1 false (by omega)
      clear hw
      go_wp2_with fail
      refine Calls.mono HD.out ?_
      rintro r w3 hp
      obtain ⟨C, ev, rfl, h5, h1⟩ := hp.shape
      have HPN : Hid _ := hp
      have hRt : Row w3 w.heap.size node0 26 := hp.1.row hR1 (by omega)
      have hCi : (Tryd.prog.info? 26).map (·.size) = some C.size := by rw [infoN, h5]
      clear hp
      go_wp2_with (refine wpList_store_row rfl 26 _ _ rfl w.heap.size C rfl rfl 26 node0 hRt hCi (show node0.size = C.size by rw [h5]; rfl) h1 ?_)
      refine bodyPost_ret (results_cell_row2 resultsFile _ _ w.heap.size 26 C (0, 0) _ rfl hRt.setRow Tryd.underlying26 rfl hCi) rfl ?_
      refine HP.out _ _ ?_
      rw [HW.out]
      exact NodePost.out HG1.out (Nat.le_refl _) (by have := HSZ.out; have := HSL.out; omega) HH.out hRt HPN.out
set_option maxRecDepth 20000 in
set_option maxHeartbeats 4000000 in
theorem link_ok (I : Inp) (p : Nat) (w : World) (h : Rdr w I p) : Calls Tryd.prog 57 #[.pointer (some ⟨I.gR, 0, none⟩)] w fun r w' => NodePost I w (linkF I.f I.L p) r w' := by
  have hb0 : Below w.heap.size w (w.alloc (.cells node0 26)) := (Below.refl _ _).alloc (Nat.le_refl _) _
  have HR0 : Hid (Row (w.alloc (.cells node0 26)) w.heap.size node0 26) := Row.new w _ 26
  have HRd0 : Hid (Rdr (w.alloc (.cells node0 26)) I p) := h.keep hb0
  have HG0 : Hid (Gr I w (w.alloc (.cells node0 26))) := Gr.of hb0
  have HSZ : Hid (w.heap.size + 1 = (w.alloc (.cells node0 26)).heap.size) := by show _ = _; simp
  have HH : Hid (Rdr w I p) := h
  have hgR := h.lts.1
  obtain ⟨NP, hNP⟩ : ∃ NP, NP = NodePost I w (linkF I.f I.L p) := ⟨_, rfl⟩
  have HP : Hid (∀ r w', NodePost I w (linkF I.f I.L p) r w' → NP r w') := fun r w' h => by rw [hNP]; exact h
  rw [← hNP]
  clear hNP h hb0
  go_enter Tryd.func57, Tryd.ntmps57
  go_wp2_with (refine b_texts rfl _ [wTarget] rfl (Nat.succ_pos _) (Nat.le_of_ble_eq_true rfl) rfl ?_)
  generalize w.alloc (.cells node0 26) = w0 at *
  refine Calls.mono (pass1_ok I p w0 HRd0.out [wTarget] (Nat.le_of_ble_eq_true rfl) _ HSZ.out _ rfl _ rfl) ?_
  rintro r w1 ⟨hg1, hpost⟩
  have hR1 : Row w1 w.heap.size node0 26 := hg1.row HR0.out (by omega)
  have HG1 : Hid (Gr I w w1) := HG0.out.trans hg1
  have HSL : Hid (w0.heap.size ≤ w1.heap.size) := hg1.size
  clear hg1 HR0 HRd0
  cases hps : passF I.f I.L p [wTarget] with
  | error er =>
    rw [hps] at hpost
    obtain ⟨ev, rfl, he⟩ := hpost
    have HE : Hid (ErrAt w1 ev er) := he
    obtain ⟨q1, q2, rfl, _⟩ := he
    have HS : Hid (linkF I.f I.L p = .error er) := by show _ = _; unfold linkF; rw [hps]
    clear hps
    go_wp2_with (refine wpList_store_row rfl 26 _ _ rfl w.heap.size node0 rfl rfl 26 node0 hR1 info0 rfl node0_one ?_)
    refine bodyPost_ret (results_cell_row2 resultsLink _ _ w.heap.size 26 node0 (0, 0) _ rfl (Row.setRow hR1) Tryd.underlying26 rfl info0) rfl ?_
    exact HP.out _ _ (NodePost.bad HS.out HG1.out (Nat.le_refl _) hR1 HE.out)
  | ok q =>
    rw [hps] at hpost
    obtain ⟨rfl, hr1⟩ := hpost
    have HS : Hid (linkF I.f I.L p = dataF I.f I.L q 3 false) := by show _ = _; unfold linkF; rw [hps]
    have HD : Hid (Calls Tryd.prog 71 #[.pointer (some ⟨I.gR, 0, none⟩), .agg (nodeV 3 false none 0 0 none 0 0 none 0 0)] w1 fun r w' => NodePost I w1 (dataF I.f I.L q 3 false) r w') := data_ok I q w1 hr1 3 false (by omega)
    clear hps hr1
    go_wp2_with fail
    refine Calls.mono HD.out ?_
    rintro r w3 hp
    obtain ⟨C, ev, rfl, h5, h1⟩ := hp.shape
    have HPN : Hid _ := hp
    have hRt : Row w3 w.heap.size node0 26 := hp.1.row hR1 (by omega)
    have hCi : (Tryd.prog.info? 26).map (·.size) = some C.size := by rw [infoN, h5]
    clear hp
    go_wp2_with (refine wpList_store_row rfl 26 _ _ rfl w.heap.size C rfl rfl 26 node0 hRt hCi (show node0.size = C.size by rw [h5]; rfl) h1 ?_)
    refine bodyPost_ret (results_cell_row2 resultsLink _ _ w.heap.size 26 C (0, 0) _ rfl hRt.setRow Tryd.underlying26 rfl hCi) rfl ?_
    refine HP.out _ _ ?_
    rw [HS.out]
    exact NodePost.out HG1.out (Nat.le_refl _) (by have := HSZ.out; have := HSL.out; omega) HH.out hRt HPN.out
end Go.Proofs.YtimiginpdkokiaaDoor
