/- My own work: the walks of archive and errnoOf. -/
import Derived.Test.YtimiginpdkokiaaDoorRd9
import Derived.Test.YtimiginpdkokiaaDoorDecE
import Derived.Test.YtimiginpdkokiaaDoorAs
namespace Go.Proofs.YtimiginpdkokiaaDoor
open Go.RowKit

theorem resultsArch : Tryd.f25.results = #[.cell 2 26, .tmp 3] := by kernel_rfl
/-- What archive tells. -/
def ArchPost (I : Inp) (w : World) (spec : Except Int Nd) (r : Ending) (w' : World) : Prop :=
  Gr I w w' ∧ match spec with
    | .error e => ∃ C ev, r = .returned (.tuple #[.agg C, ev]) ∧ C.size = 5 ∧ C.all (fun x => x.oneCell') = true ∧ ErrAt w' ev e
    | .ok n => ∃ C, r = .returned (.tuple #[.agg C, .nilIface]) ∧ NodeOn w' (fun b => w.heap.size ≤ b ∧ b < w'.heap.size) n C
theorem ArchPost.bad {I : Inp} {w w1 : World} {g : Nat} {ev : Value} {e : Int} {Z C : Array Value} {spec : Except Int Nd} (hs : spec = .error e) (hgr : Gr I w w1) (hlt : w.heap.size ≤ g) (hr : Row w1 g Z 26) (h5 : C.size = 5) (hC : C.all (fun x => x.oneCell') = true) (he : ErrAt w1 ev e) : ArchPost I w spec (.returned (.tuple #[.agg C, ev])) (w1.setRow g C) := by
  subst hs
  obtain ⟨g', q, h7, h8⟩ := he
  exact ⟨Gr.setRow hgr hlt, C, ev, rfl, h5, hC, g', q, h7, h8.other (row_apart h8 hr (by decide))⟩
set_option maxRecDepth 20000 in
set_option maxHeartbeats 8000000 in
theorem archive_ok (I : Inp) (w : World) (h : Rdr w I 0) : Calls Tryd.prog 25 #[.pointer (some ⟨I.gR, 0, none⟩)] w fun r w' => ArchPost I w (archF I.f I.L) r w' := by
  have hb0 : Below w.heap.size w (w.alloc (.cells node0 26)) := (Below.refl _ _).alloc (Nat.le_refl _) _
  have HR0 : Hid (Row (w.alloc (.cells node0 26)) w.heap.size node0 26) := Row.new w _ 26
  have HRd0 : Hid (Rdr (w.alloc (.cells node0 26)) I 0) := h.keep hb0
  have HG0 : Hid (Gr I w (w.alloc (.cells node0 26))) := Gr.of hb0
  have HSZ : Hid (w.heap.size + 1 = (w.alloc (.cells node0 26)).heap.size) := by show _ = _; simp
  have hgR := h.lts.1
  have HLT : Hid (0 < I.L → I.b < w.heap.size) := h.lts.2
  have hsm := h.small
  obtain ⟨NP, hNP⟩ : ∃ NP, NP = ArchPost I w (archF I.f I.L) := ⟨_, rfl⟩
  have HP : Hid (∀ r w', ArchPost I w (archF I.f I.L) r w' → NP r w') := fun r w' h => by rw [hNP]; exact h
  rw [← hNP]
  clear hNP h hb0
  go_enter Tryd.func25, Tryd.ntmps25
  go_wp2_with (refine b_texts rfl _ [wFirst] rfl (Nat.succ_pos _) (Nat.le_of_ble_eq_true rfl) rfl ?_)
  generalize w.alloc (.cells node0 26) = w0 at *
  refine Calls.mono (pass1_ok I 0 w0 HRd0.out [wFirst] (Nat.le_of_ble_eq_true rfl) _ HSZ.out _ rfl _ rfl) ?_
  rintro r w1 ⟨hg1, hpost⟩
  have hR1 : Row w1 w.heap.size node0 26 := hg1.row HR0.out (by omega)
  have HG1 : Hid (Gr I w w1) := HG0.out.trans hg1
  have hs1 := hg1.size
  clear hg1 HR0 HRd0
  cases h1 : passF I.f I.L 0 [wFirst] with
  | error er =>
    rw [h1] at hpost
    obtain ⟨ev, rfl, he⟩ := hpost
    have HE : Hid (ErrAt w1 ev er) := he
    obtain ⟨z1, z2, rfl, _⟩ := he
    have HS : Hid (archF I.f I.L = .error er) := by show _ = _; unfold archF; rw [h1]
    clear h1
    go_wp2_with (refine wpList_store_row rfl 26 _ _ rfl w.heap.size node0 rfl rfl 26 node0 hR1 info0 rfl node0_one ?_)
    refine bodyPost_ret (results_cell_row2 resultsArch _ _ w.heap.size 26 node0 (0, 0) _ rfl (Row.setRow hR1) Tryd.underlying26 rfl info0) rfl ?_
    exact HP.out _ _ (ArchPost.bad HS.out HG1.out (Nat.le_refl _) hR1 rfl node0_one HE.out)
  | ok q =>
    rw [h1] at hpost
    obtain ⟨rfl, hr1⟩ := hpost
    have HND : Hid (Calls Tryd.prog 43 #[.pointer (some ⟨I.gR, 0, none⟩), .int .i64 1] w1 fun r w' => NodePost I w1 (nodeF I.f I.L 32 q) r w') := node_ok I 32 1 (by omega) q w1 hr1
    have H1 : Hid (passF I.f I.L 0 [wFirst] = .ok q) := h1
    clear h1 hr1
    go_wp2_with fail
    refine Calls.mono HND.out ?_
    clear HND
    rintro r w2 hp2
    obtain ⟨C, ev, rfl, h5, hC1⟩ := hp2.shape
    have hg2 := hp2.1
    have hs2 := hg2.size
    have hCi : (Tryd.prog.info? 26).map (·.size) = some C.size := by rw [infoN, h5]
    have hba : Below w2.heap.size w2 (w2.alloc (.cells C 26)) := (Below.refl _ _).alloc (Nat.le_refl _) _
    have hR2 := hg2.row hR1 (by omega)
    have HR3 : Hid (Row (w2.alloc (.cells C 26)) w.heap.size node0 26) := hR2.below hba hR2.lt
    have HR5 : Hid (Row (w2.alloc (.cells C 26)) w2.heap.size C 26) := Row.new w2 C _
    have HG3 : Hid (Gr I w (w2.alloc (.cells C 26))) := HG1.out.trans (hg2.trans (Gr.of hba))
    have HP2 : Hid (NodePost I w1 (nodeF I.f I.L 32 q) (.returned (.tuple #[.agg C, ev])) w2) := hp2
    have HNE : Hid (w2.heap.size ≠ w.heap.size) := by have := HSZ.out; show _ ≠ _; omega
    have HSL : Hid (w.heap.size + 1 ≤ w1.heap.size) := by have := HSZ.out; show _ ≤ _; omega
    clear hp2 hg2 hR1 hR2
    cases h2 : nodeF I.f I.L 32 q with
    | error er =>
      rw [h2] at HP2
      obtain ⟨_, C', ev', he1, _, _, he⟩ := HP2.out
      simp only [Ending.returned.injEq, Value.tuple.injEq, Array.mk.injEq, List.cons.injEq, Value.agg.injEq, and_true] at he1
      obtain ⟨rfl, rfl⟩ := he1
      have HE : Hid (ErrAt (w2.alloc (.cells C 26)) ev er) := he.keep hba
      obtain ⟨z1, z2, rfl, _⟩ := he
      have HS : Hid (archF I.f I.L = .error er) := by show _ = _; unfold archF; rw [H1.out]; simp only [h2]
      clear h2 HP2 hba
      go_wp2_with (refine wpList_store_new rfl 26 _ _ rfl w2 _ C 26 rfl w2.heap.size rfl rfl rfl hCi h5.symm hC1 ?_)
      generalize w2.alloc (.cells C 26) = w3 at *
      refine wp_region_permA [(false, 0), (false, 1), (false, 2), (false, 3), (false, 4), (false, 5), (false, 6), (false, 7), (false, 8), (false, 9), (false, 10), (false, 11), (false, 12), (false, 13)] (fun _ => True) (by kernel_rfl) (by kernel_rfl) trivial ?_
      refine a_move (some 19) _ rfl rfl rfl (by rfl) ?_
      simp only [Act.put, List.setIfInBounds_toArray, List.set_cons_zero, List.set_cons_succ]
      refine a_value (some 20) ?_ rfl rfl (by rfl) (fun w hw => ?_) ?_
      rotate_left
      · go_simp
        with_reducible rfl
      simp only [Act.put, List.setIfInBounds_toArray, List.set_cons_zero, List.set_cons_succ]
      refine a_move (some 21) _ rfl rfl rfl (by rfl) ?_
      simp only [Act.put, List.setIfInBounds_toArray, List.set_cons_zero, List.set_cons_succ]
      refine a_skip (some 22) rfl rfl (by rfl) ?_
      simp only [Act.put, List.setIfInBounds_toArray, List.set_cons_zero, List.set_cons_succ]
      refine a_skip (some 23) rfl rfl (by rfl) ?_
      simp only [Act.put, List.setIfInBounds_toArray, List.set_cons_zero, List.set_cons_succ]
      refine a_skip (some 24) rfl rfl (by rfl) ?_
      simp only [Act.put, List.setIfInBounds_toArray, List.set_cons_zero, List.set_cons_succ]
      refine a_skip (some 25) rfl rfl (by rfl) ?_
      simp only [Act.put, List.setIfInBounds_toArray, List.set_cons_zero, List.set_cons_succ]
      refine a_skip (some 26) rfl rfl (by rfl) ?_
      simp only [Act.put, List.setIfInBounds_toArray, List.set_cons_zero, List.set_cons_succ]
      refine a_skip (some 27) rfl rfl (by rfl) ?_
      simp only [Act.put, List.setIfInBounds_toArray, List.set_cons_zero, List.set_cons_succ]
      refine a_skip (some 28) rfl rfl (by rfl) ?_
      simp only [Act.put, List.setIfInBounds_toArray, List.set_cons_zero, List.set_cons_succ]
      refine a_skip (some 29) rfl rfl (by rfl) ?_
      simp only [Act.put, List.setIfInBounds_toArray, List.set_cons_zero, List.set_cons_succ]
      refine a_skip (some 30) rfl rfl (by rfl) ?_
      simp only [Act.put, List.setIfInBounds_toArray, List.set_cons_zero, List.set_cons_succ]
      refine a_skip (some 31) rfl rfl (by rfl) ?_
      simp only [Act.put, List.setIfInBounds_toArray, List.set_cons_zero, List.set_cons_succ]
      refine a_value (some 32) ?_ rfl rfl (by rfl) (fun w hw => ?_) ?_
      rotate_left
      · go_simp
        with_reducible rfl
      simp only [Act.put, List.setIfInBounds_toArray, List.set_cons_zero, List.set_cons_succ]
      refine a_done ?_
      try simp only [Exit.then]
      have hR5d : Row w3.drew w2.heap.size C 26 := Row.drew HR5.out
      have hR3d : Row w3.drew w.heap.size node0 26 := Row.drew HR3.out
      have HEd : Hid (ErrAt w3.drew (.iface 93 (.pointer (some ⟨z1, 0, none⟩))) er) := HE.out.keep (Below.refl _ _).drew
      have HGd : Hid (Gr I w w3.drew) := HG3.out.trans (Gr.of (Below.refl _ _).drew)
      clear HE HG3 HR5 HR3
      go_wp2_with (first
        | refine wpList_load_row rfl 26 _ rfl w2.heap.size rfl 26 C (0, 0) _ hR5d Tryd.underlying26 rfl hCi ?_
        | refine wpList_store_row rfl 26 _ _ rfl w.heap.size C rfl rfl 26 node0 hR3d hCi (show node0.size = C.size by rw [h5]; rfl) hC1 ?_)
      refine bodyPost_ret (results_cell_row2 resultsArch _ _ w.heap.size 26 C (0, 0) _ rfl hR3d.setRow Tryd.underlying26 rfl hCi) rfl ?_
      exact HP.out _ _ (ArchPost.bad HS.out HGd.out (Nat.le_refl _) hR3d h5 hC1 HEd.out)
    | ok x =>
      obtain ⟨n, q2⟩ := x
      rw [h2] at HP2
      obtain ⟨_, C', he1, hno, hr2⟩ := HP2.out
      simp only [Ending.returned.injEq, Value.tuple.injEq, Array.mk.injEq, List.cons.injEq, Value.agg.injEq, and_true] at he1
      obtain ⟨rfl, rfl⟩ := he1
      have HNO : Hid (NodeOn (w2.alloc (.cells C 26)) (fun b => w1.heap.size ≤ b ∧ b < (w2.alloc (.cells C 26)).heap.size) n C) := hno.gr (I := I) (Nat.lt_of_lt_of_le hgR (Nat.le_trans (Nat.le_succ _) HSL.out)) (Gr.of hba)
      have HRd : Hid (Rdr (w2.alloc (.cells C 26)) I q2) := hr2.keep hba
      have H2 : Hid (nodeF I.f I.L 32 q = .ok (n, q2)) := h2
      have hq2 := hr2.le
      clear h2 HP2 hba hno hr2
      go_wp2_with (refine wpList_store_new rfl 26 _ _ rfl w2 _ C 26 rfl w2.heap.size rfl rfl rfl hCi h5.symm hC1 ?_)
      generalize w2.alloc (.cells C 26) = w3 at *
      have hRow : Row w3.drew I.gR #[.slice I.a I.L I.c, .int .i64 q2] 64 := Row.drew HRd.out.row
      have HC0 : Hid (∀ wx, Row wx I.gR #[.slice I.a I.L I.c, .int .i64 q2] 64 → wx.cell? ⟨I.gR, 0, none⟩ = some (.slice I.a I.L I.c)) := fun wx hr => hr.cell 0
      have HC1 : Hid (∀ wx, Row wx I.gR #[.slice I.a I.L I.c, .int .i64 q2] 64 → wx.cell? ⟨I.gR, 1, none⟩ = some (.int .i64 q2)) := fun wx hr => hr.cell 1
      have hR5d : Row w3.drew w2.heap.size C 26 := Row.drew HR5.out
      have hR3d : Row w3.drew w.heap.size node0 26 := Row.drew HR3.out
      have HGd : Hid (Gr I w w3.drew) := HG3.out.trans (Gr.of (Below.refl _ _).drew)
      have HNd : Hid (NodeOn w3.drew (fun b => w1.heap.size ≤ b ∧ b < w3.drew.heap.size) n C) := HNO.out.gr (I := I) (Nat.lt_of_lt_of_le hgR (Nat.le_trans (Nat.le_succ _) HSL.out)) (Gr.of (Below.refl _ _).drew)
      have HRdd : Hid (Rdr w3.drew I q2) := HRd.out.keep (Below.refl _ _).drew
      clear HG3 HR5 HR3 HNO HRd
      by_cases hlt : q2 < I.L
      · have hlt' : (q2 : Int) < (I.L : Int) := by omega
        have HS : Hid (archF I.f I.L = .error 10) := by show _ = _; unfold archF; rw [H1.out]; simp only [H2.out]; rw [if_pos hlt]
        have HW : Hid (Calls Tryd.prog 44 #[.pointer (some ⟨I.gR, 0, none⟩), .int .i64 10] w3.drew fun r w' => ∃ ev, r = .returned ev ∧ ErrAt w' ev 10 ∧ Below w3.drew.heap.size w3.drew w') := wrong_ok I q2 w3.drew HRdd.out 10
        refine wp_region_permA [(false, 0), (false, 1), (false, 2), (false, 3), (false, 4), (false, 5), (false, 6), (false, 7), (false, 8), (false, 9), (false, 10), (false, 11), (false, 12), (false, 13)] (fun wx => Row wx I.gR #[.slice I.a I.L I.c, .int .i64 q2] 64) (by kernel_rfl) (by kernel_rfl) hRow ?_
        refine a_move (some 19) _ rfl rfl rfl (by rfl) ?_
        simp only [Act.put, List.setIfInBounds_toArray, List.set_cons_zero, List.set_cons_succ]
        refine a_value (some 20) ?_ rfl rfl (by rfl) (fun w hw => ?_) ?_
        rotate_left
        · go_simp
          with_reducible rfl
        simp only [Act.put, List.setIfInBounds_toArray, List.set_cons_zero, List.set_cons_succ]
        refine a_move (some 21) _ rfl rfl rfl (by rfl) ?_
        simp only [Act.put, List.setIfInBounds_toArray, List.set_cons_zero, List.set_cons_succ]
        refine a_move (some 22) _ rfl rfl rfl (by rfl) ?_
        simp only [Act.put, List.setIfInBounds_toArray, List.set_cons_zero, List.set_cons_succ]
        refine a_value (some 23) ?_ rfl rfl (by rfl) (fun w hw => ?_) ?_
        rotate_left
        · go_simp
          with_reducible rfl
        simp only [Act.put, List.setIfInBounds_toArray, List.set_cons_zero, List.set_cons_succ]
        refine a_value (some 24) ?_ rfl rfl (by rfl) (fun w hw => ?_) ?_
        rotate_left
        · go_simp
          with_reducible rfl
        simp only [Act.put, List.setIfInBounds_toArray, List.set_cons_zero, List.set_cons_succ]
        refine a_value (some 25) ?_ rfl rfl (by rfl) (fun w hw => ?_) ?_
        rotate_left
        · have c := HC1.out _ hw
          go_simp
          with_reducible rfl
        simp only [Act.put, List.setIfInBounds_toArray, List.set_cons_zero, List.set_cons_succ]
        refine a_move (some 26) _ rfl rfl rfl (by rfl) ?_
        simp only [Act.put, List.setIfInBounds_toArray, List.set_cons_zero, List.set_cons_succ]
        refine a_value (some 27) ?_ rfl rfl (by rfl) (fun w hw => ?_) ?_
        rotate_left
        · go_simp
          with_reducible rfl
        simp only [Act.put, List.setIfInBounds_toArray, List.set_cons_zero, List.set_cons_succ]
        refine a_value (some 28) ?_ rfl rfl (by rfl) (fun w hw => ?_) ?_
        rotate_left
        · go_simp
          with_reducible rfl
        simp only [Act.put, List.setIfInBounds_toArray, List.set_cons_zero, List.set_cons_succ]
        refine a_value (some 29) ?_ rfl rfl (by rfl) (fun w hw => ?_) ?_
        rotate_left
        · have c := HC0.out _ hw
          go_simp
          with_reducible rfl
        simp only [Act.put, List.setIfInBounds_toArray, List.set_cons_zero, List.set_cons_succ]
        refine a_value (some 30) ?_ rfl rfl (by rfl) (fun w hw => ?_) ?_
        rotate_left
        · go_simp
          with_reducible rfl
        simp only [Act.put, List.setIfInBounds_toArray, List.set_cons_zero, List.set_cons_succ]
        refine a_value (some 31) ?_ rfl rfl (by rfl) (fun w hw => ?_) ?_
        rotate_left
        · go_simp
          with_reducible rfl
        simp only [Act.put, List.setIfInBounds_toArray, List.set_cons_zero, List.set_cons_succ]
        refine a_value (some 32) ?_ rfl rfl (by rfl) (fun w hw => ?_) ?_
        rotate_left
        · go_simp
          with_reducible rfl
        simp only [Act.put, List.setIfInBounds_toArray, List.set_cons_zero, List.set_cons_succ]
        refine a_done ?_
        try simp only [Exit.then]
        go_wp2_with fail
        refine Calls.mono HW.out ?_
        rintro r w4 ⟨ev, rfl, he, hb4⟩
        have HE : Hid (ErrAt w4 ev 10) := he
        have hR54 : Row w4 w2.heap.size C 26 := hR5d.below hb4 hR5d.lt
        have hR34 : Row w4 w.heap.size node0 26 := hR3d.below hb4 hR3d.lt
        have HG4 : Hid (Gr I w w4) := HGd.out.trans (Gr.of hb4)
        clear he hb4 HW hR5d hR3d hRow
        go_wp2_with (first
          | refine wpList_load_row rfl 26 _ rfl w2.heap.size rfl 26 C (0, 0) _ hR54 Tryd.underlying26 rfl hCi ?_
          | refine wpList_store_row rfl 26 _ _ rfl w.heap.size C rfl rfl 26 node0 hR34 hCi (show node0.size = C.size by rw [h5]; rfl) hC1 ?_)
        refine bodyPost_ret (results_cell_row2 resultsArch _ _ w.heap.size 26 C (0, 0) _ rfl hR34.setRow Tryd.underlying26 rfl hCi) rfl ?_
        exact HP.out _ _ (ArchPost.bad HS.out HG4.out (Nat.le_refl _) hR34 h5 hC1 HE.out)
      · have hlt' : ¬ (q2 : Int) < (I.L : Int) := by omega
        have HS : Hid (archF I.f I.L = .ok n) := by show _ = _; unfold archF; rw [H1.out]; simp only [H2.out]; rw [if_neg hlt]
        refine wp_region_permA [(false, 0), (false, 1), (false, 2), (false, 3), (false, 4), (false, 5), (false, 6), (false, 7), (false, 8), (false, 9), (false, 10), (false, 11), (false, 12), (false, 13)] (fun wx => Row wx I.gR #[.slice I.a I.L I.c, .int .i64 q2] 64) (by kernel_rfl) (by kernel_rfl) hRow ?_
        refine a_move (some 19) _ rfl rfl rfl (by rfl) ?_
        simp only [Act.put, List.setIfInBounds_toArray, List.set_cons_zero, List.set_cons_succ]
        refine a_value (some 20) ?_ rfl rfl (by rfl) (fun w hw => ?_) ?_
        rotate_left
        · go_simp
          with_reducible rfl
        simp only [Act.put, List.setIfInBounds_toArray, List.set_cons_zero, List.set_cons_succ]
        refine a_move (some 21) _ rfl rfl rfl (by rfl) ?_
        simp only [Act.put, List.setIfInBounds_toArray, List.set_cons_zero, List.set_cons_succ]
        refine a_move (some 22) _ rfl rfl rfl (by rfl) ?_
        simp only [Act.put, List.setIfInBounds_toArray, List.set_cons_zero, List.set_cons_succ]
        refine a_value (some 23) ?_ rfl rfl (by rfl) (fun w hw => ?_) ?_
        rotate_left
        · go_simp
          with_reducible rfl
        simp only [Act.put, List.setIfInBounds_toArray, List.set_cons_zero, List.set_cons_succ]
        refine a_value (some 24) ?_ rfl rfl (by rfl) (fun w hw => ?_) ?_
        rotate_left
        · go_simp
          with_reducible rfl
        simp only [Act.put, List.setIfInBounds_toArray, List.set_cons_zero, List.set_cons_succ]
        refine a_value (some 25) ?_ rfl rfl (by rfl) (fun w hw => ?_) ?_
        rotate_left
        · have c := HC1.out _ hw
          go_simp
          with_reducible rfl
        simp only [Act.put, List.setIfInBounds_toArray, List.set_cons_zero, List.set_cons_succ]
        refine a_move (some 26) _ rfl rfl rfl (by rfl) ?_
        simp only [Act.put, List.setIfInBounds_toArray, List.set_cons_zero, List.set_cons_succ]
        refine a_value (some 27) ?_ rfl rfl (by rfl) (fun w hw => ?_) ?_
        rotate_left
        · go_simp
          with_reducible rfl
        simp only [Act.put, List.setIfInBounds_toArray, List.set_cons_zero, List.set_cons_succ]
        refine a_value (some 28) ?_ rfl rfl (by rfl) (fun w hw => ?_) ?_
        rotate_left
        · go_simp
          with_reducible rfl
        simp only [Act.put, List.setIfInBounds_toArray, List.set_cons_zero, List.set_cons_succ]
        refine a_value (some 29) ?_ rfl rfl (by rfl) (fun w hw => ?_) ?_
        rotate_left
        · have c := HC0.out _ hw
          go_simp
          with_reducible rfl
        simp only [Act.put, List.setIfInBounds_toArray, List.set_cons_zero, List.set_cons_succ]
        refine a_value (some 30) ?_ rfl rfl (by rfl) (fun w hw => ?_) ?_
        rotate_left
        · go_simp
          with_reducible rfl
        simp only [Act.put, List.setIfInBounds_toArray, List.set_cons_zero, List.set_cons_succ]
        refine a_value (some 31) ?_ rfl rfl (by rfl) (fun w hw => ?_) ?_
        rotate_left
        · go_simp
          with_reducible rfl
        simp only [Act.put, List.setIfInBounds_toArray, List.set_cons_zero, List.set_cons_succ]
        refine a_value (some 32) ?_ rfl rfl (by rfl) (fun w hw => ?_) ?_
        rotate_left
        · go_simp
          with_reducible rfl
        simp only [Act.put, List.setIfInBounds_toArray, List.set_cons_zero, List.set_cons_succ]
        refine a_done ?_
        try simp only [Exit.then]
        go_wp2_with (first
          | refine wpList_load_row rfl 26 _ rfl w2.heap.size rfl 26 C (0, 0) _ hR5d Tryd.underlying26 rfl hCi ?_
          | refine wpList_store_row rfl 26 _ _ rfl w.heap.size C rfl rfl 26 node0 hR3d hCi (show node0.size = C.size by rw [h5]; rfl) hC1 ?_)
        refine bodyPost_ret (results_cell_row2 resultsArch _ _ w.heap.size 26 C (0, 0) _ rfl hR3d.setRow Tryd.underlying26 rfl hCi) rfl ?_
        refine HP.out _ _ ?_
        rw [HS.out]
        have hss : (w3.drew.setRow w.heap.size C).heap.size = w3.drew.heap.size := by simp [World.setRow]
        have hsl := HSL.out
        exact ⟨Gr.setRow HGd.out (Nat.le_refl _), C, rfl, (HNd.out.keep (w' := w3.drew.setRow w.heap.size C) fun b hb => setRow_other w3.drew _ b C (by omega)).mono fun b hb => ⟨by omega, by rw [hss]; exact hb.2⟩⟩
/-- What errors.As reads of errors.errorType. -/
def GH (w : World) : Prop := w.cell? ⟨2, 0, none⟩ = some (.iface 131 (.agg #[.pointer (some ⟨3, 60, none⟩)]))
theorem GH.below {w w' : World} (h : GH w) (hb : Below w.heap.size w w') : GH w' := (hb.cell (World.block_lt_of_cell? _ _ h)).trans h
set_option maxRecDepth 20000 in
theorem errnoOf_nil (w : World) : Calls Tryd.prog 26 #[.nilIface] w fun ev w' => ev = .returned (.int .i64 0) ∧ Below w.heap.size w w' := by
  have hb : Below w.heap.size w (w.alloc (.cells #[.pointer none] 93)) := (Below.refl _ _).alloc (Nat.le_refl _) _
  go_enter Tryd.func26, Tryd.ntmps26
  go_wp2_with fail
  refine Calls.mono (AsK.as_nil _ _) ?_
  rintro ev w1 ⟨rfl, rfl⟩
  go_wp2
  go_ret
  exact ⟨rfl, hb⟩
set_option maxRecDepth 20000 in
theorem errnoOf_err (ev : Value) (e : Int) (w : World) (h : GH w) (he : ErrAt w ev e) : Calls Tryd.prog 26 #[ev] w fun r w' => r = .returned (.int .i64 e) ∧ Below w.heap.size w w' := by
  obtain ⟨g, q, rfl, hr⟩ := he
  have hb : Below w.heap.size w (w.alloc (.cells #[.pointer none] 93)) := (Below.refl _ _).alloc (Nat.le_refl _) _
  have HA := AsK.as_hit ⟨g, 0, none⟩ ⟨w.heap.size, 0, none⟩ (.pointer none) (w.alloc (.cells #[.pointer none] 93)) (h.below hb) (by simp) (by simp)
  have HA' : Calls Tryd.prog 45 #[.iface 93 (.pointer (some ⟨g, 0, none⟩)), .iface 95 (.pointer (some ⟨w.heap.size, 0, none⟩))] (w.alloc (.cells #[.pointer none] 93)) fun ev w' => ev = .returned (.bool true) ∧ Below w.heap.size w w' ∧ w'.cell? ⟨w.heap.size, 0, none⟩ = some (.pointer (some ⟨g, 0, none⟩)) := HA.mono fun ev w' ⟨he, hw⟩ => ⟨he, by
    subst hw
    exact ((((hb.alloc hb.size _).alloc (by simp; omega) _).alloc (by simp; omega) _).alloc (by simp; omega) _).setCell (Nat.le_refl _) _, by
    subst hw
    exact ((((((Row.new w #[.pointer none] 93).alloc _).alloc _).alloc _).alloc _).setCell (i := 0) (.pointer (some ⟨g, 0, none⟩))).cell 0⟩
  have HH : Hid _ := HA'
  have HR : Hid (∀ wx, Below w.heap.size w wx → wx.cell? ⟨g, 0, none⟩ = some (.int .i64 e)) := fun wx hx => ((hr.below hx hr.lt).cell 0).trans rfl
  clear HA HA' hb h hr
  go_enter Tryd.func26, Tryd.ntmps26
  go_wp2_with fail
  refine Calls.mono HH.out ?_
  rintro ev w1 ⟨rfl, hb1, ct⟩
  have ce := HR.out w1 hb1
  clear HH
  go_wp2
  go_ret
  exact ⟨rfl, hb1⟩
end Go.Proofs.YtimiginpdkokiaaDoor
