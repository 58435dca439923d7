/- My own work: the walks of data, file and link. -/
import Derived.Test.YtimiginpdkokiaaDoorRd4
namespace Go.Proofs.YtimiginpdkokiaaDoor
open Go.RowKit

theorem resultsData : Tryd.f71.results = #[.cell 4 26, .tmp 5] := by kernel_rfl
theorem resultsFile : Tryd.f56.results = #[.cell 2 26, .tmp 3] := by kernel_rfl
theorem resultsLink : Tryd.f57.results = #[.cell 2 26, .tmp 3] := by kernel_rfl
theorem info0 : (Tryd.prog.info? 26).map (·.size) = some node0.size := infoN
theorem dataF_err {f : Nat → Int} {L p : Nat} {k : Int} {e : Bool} {er : Int} (h : nextF f L p = .error er) : dataF f L p k e = .error er := by unfold dataF; rw [h]
theorem dataF_err2 {f : Nat → Int} {L p s n q : Nat} {k : Int} {e : Bool} {er : Int} (h : nextF f L p = .ok (s, n, q)) (h2 : passF f L q [wShut] = .error er) : dataF f L p k e = .error er := by unfold dataF; rw [h]; simp only [h2]
theorem dataF_ok {f : Nat → Int} {L p s n q q2 : Nat} {k : Int} {e : Bool} (h : nextF f L p = .ok (s, n, q)) (h2 : passF f L q [wShut] = .ok q2) : dataF f L p k e = .ok (.mk k e (textF f s n) [] [], q2) := by unfold dataF; rw [h]; simp only [h2]
/-- An error that came at once: the result's own cell has nothing. -/
theorem NodePost.bad {I : Inp} {w w1 : World} {g : Nat} {ev : Value} {e : Int} {Z : Array Value} {spec : Except Int (Nd × Nat)} (hs : spec = .error e) (hgr : Gr I w w1) (hlt : w.heap.size ≤ g) (hr : Row w1 g Z 26) (he : ErrAt w1 ev e) : NodePost I w spec (.returned (.tuple #[.agg node0, ev])) (w1.setRow g node0) := by
  subst hs
  obtain ⟨g', q, h7, h8⟩ := he
  exact ⟨Gr.setRow hgr hlt, node0, ev, rfl, rfl, node0_one, g', q, h7, h8.other (row_apart h8 hr (by decide))⟩
set_option maxRecDepth 20000 in
set_option maxHeartbeats 4000000 in
theorem data_ok (I : Inp) (p : Nat) (w : World) (h : Rdr w I p) (k : Int) (e : Bool) (hk : -9223372036854775808 ≤ k ∧ k ≤ 9223372036854775807) : Calls Tryd.prog 71 #[.pointer (some ⟨I.gR, 0, none⟩), .agg (nodeV k e none 0 0 none 0 0 none 0 0)] w fun r w' => NodePost I w (dataF I.f I.L p k e) r w' := by
  have hb0 : Below w.heap.size w (w.alloc (.cells (nodeV k e none 0 0 none 0 0 none 0 0) 26)) := (Below.refl _ _).alloc (Nat.le_refl _) _
  have hsz0 : (w.alloc (.cells (nodeV k e none 0 0 none 0 0 none 0 0) 26)).heap.size = w.heap.size + 1 := by simp
  have hb1 : Below w.heap.size w ((w.alloc (.cells (nodeV k e none 0 0 none 0 0 none 0 0) 26)).alloc (.cells node0 26)) := hb0.alloc (by omega) _
  have HR3 : Hid (Row ((w.alloc (.cells (nodeV k e none 0 0 none 0 0 none 0 0) 26)).alloc (.cells node0 26)) w.heap.size (nodeV k e none 0 0 none 0 0 none 0 0) 26) := (Row.new w _ 26).alloc _
  have HR4 : Hid (Row ((w.alloc (.cells (nodeV k e none 0 0 none 0 0 none 0 0) 26)).alloc (.cells node0 26)) (w.heap.size + 1) node0 26) := by
    have := Row.new (w.alloc (.cells (nodeV k e none 0 0 none 0 0 none 0 0) 26)) node0 26
    rw [hsz0] at this
    exact this
  have hRd : Rdr ((w.alloc (.cells (nodeV k e none 0 0 none 0 0 none 0 0) 26)).alloc (.cells node0 26)) I p := h.keep hb1
  have HNX : Hid (Calls Tryd.prog 70 #[.pointer (some ⟨I.gR, 0, none⟩)] ((w.alloc (.cells (nodeV k e none 0 0 none 0 0 none 0 0) 26)).alloc (.cells node0 26)) fun r w' => NextPost I p ((w.alloc (.cells (nodeV k e none 0 0 none 0 0 none 0 0) 26)).alloc (.cells node0 26)) r w') := next_ok I p _ hRd
  have HG0 : Hid (Gr I w ((w.alloc (.cells (nodeV k e none 0 0 none 0 0 none 0 0) 26)).alloc (.cells node0 26))) := Gr.of hb1
  have HSZ : Hid (((w.alloc (.cells (nodeV k e none 0 0 none 0 0 none 0 0) 26)).alloc (.cells node0 26)).heap.size = w.heap.size + 2) := by show _ = _; simp
  have HH : Hid (Rdr w I p) := h
  have hlt := h.lts
  have hbd := h.bd
  have hsm := h.small
  have HBD : Hid (∀ i, 0 ≤ I.f i ∧ I.f i < 256) := hbd
  have HPOST : Hid (∀ r w', NodePost I w (dataF I.f I.L p k e) r w' → NodePost I w (dataF I.f I.L p k e) r w') := fun _ _ h => h
  obtain ⟨NP, hNP⟩ : ∃ NP, NP = NodePost I w (dataF I.f I.L p k e) := ⟨_, rfl⟩
  have HP : Hid (∀ r w', NodePost I w (dataF I.f I.L p k e) r w' → NP r w') := fun r w' h => by rw [hNP]; exact h
  rw [← hNP]
  have hgR := hlt.1
  have HLT : Hid (0 < I.L → I.b < w.heap.size) := hlt.2
  clear hNP h hb0 hb1 hRd hbd HPOST hlt hsz0
  go_enter Tryd.func71, Tryd.ntmps71
  go_wp2_with fail
  generalize (w.alloc (.cells (nodeV k e none 0 0 none 0 0 none 0 0) 26)).alloc (.cells node0 26) = w0 at *
  refine Calls.mono HNX.out ?_
  clear HNX
  rintro r w1 ⟨hg1, hpost⟩
  have HG1 : Hid (Gr I w0 w1) := hg1
  have hR4 : Row w1 (w.heap.size + 1) node0 26 := hg1.row HR4.out (by omega)
  have hR3 : Row w1 w.heap.size (nodeV k e none 0 0 none 0 0 none 0 0) 26 := hg1.row HR3.out (by omega)
  cases hnx : nextF I.f I.L p with
  | error er =>
    rw [hnx] at hpost
    obtain ⟨ev, rfl, he⟩ := hpost
    have HE : Hid (ErrAt w1 ev er) := he
    obtain ⟨q1, q2, rfl, _⟩ := he
    have HS : Hid (dataF I.f I.L p k e = .error er) := dataF_err hnx
    clear hnx hg1 hR3
    go_wp2_with (refine wpList_store_row rfl 26 _ _ rfl (w.heap.size + 1) node0 rfl rfl 26 node0 hR4 info0 rfl node0_one ?_)
    refine bodyPost_ret (results_cell_row2 resultsData _ _ (w.heap.size + 1) 26 node0 (0, 0) _ rfl hR4.setRow Tryd.underlying26 rfl info0) rfl ?_
    exact HP.out _ _ (NodePost.bad HS.out (HG0.out.trans HG1.out) (by omega) hR4 HE.out)
  | ok x =>
    obtain ⟨s, n, q⟩ := x
    rw [hnx] at hpost
    obtain ⟨o, c1, rfl, ho, hn1, hn2, hn3, hr1⟩ := hpost
    have HNXT : Hid (nextF I.f I.L p = .ok (s, n, q)) := hnx
    have hcl : ∀ i, i < n → w1.cell? ⟨I.b, o + i, none⟩ = some (.int .u8 (I.f (s + i))) := fun i hi => by rw [ho (by omega), Nat.add_assoc]; exact hr1.cell (s + i) (by omega)
    have HCL : Hid (Calls Tryd.prog 80 #[.slice (some ⟨I.b, o, none⟩) n c1] w1 fun r w' => ∃ v, r = .returned v ∧ Buf w' w1.heap.size v (textF I.f s n).data.toList ∧ Below w1.heap.size w1 w') := clone_ok I.b o n c1 I.f s HBD.out w1 (by omega) hcl
    have HR1 : Hid (Rdr w1 I q) := hr1
    clear hnx hr1 hg1 ho hcl
    go_wp2_with fail
    refine Calls.mono HCL.out ?_
    rintro r w2 ⟨v, rfl, hv, hb2⟩
    have hl : (textF I.f s n).data.toList.length = n := by rw [Array.length_toList]; exact textF_size I.f s n
    obtain ⟨a2, c2, rfl⟩ := buf_slice hv
    rw [hl] at hv ⊢
    have hR32 := hR3.below hb2 hR3.lt
    have hR42 := hR4.below hb2 hR4.lt
    have hs01 := HG1.out.size
    have hs12 := hb2.size
    have hs0 := HSZ.out
    -- the bytes' store
    have hset : ∀ kk, kk ≠ w.heap.size → (w2.setCell ⟨w.heap.size, 2, none⟩ (.slice a2 n c2)).heap[kk]? = w2.heap[kk]? := fun kk hkk => heap_setCell_other w2 ⟨w.heap.size, 2, none⟩ kk _ hkk
    have hss : (w2.setCell ⟨w.heap.size, 2, none⟩ (.slice a2 n c2)).heap.size = w2.heap.size := by simp
    have hR33 : Row (w2.setCell ⟨w.heap.size, 2, none⟩ (.slice a2 n c2)) w.heap.size (nodeV k e a2 n c2 none 0 0 none 0 0) 26 := hR32.setCell (i := 2) (.slice a2 n c2)
    have hR43 : Row (w2.setCell ⟨w.heap.size, 2, none⟩ (.slice a2 n c2)) (w.heap.size + 1) node0 26 := hR42.setCell_other (by omega) _
    have hG3 : Gr I w (w2.setCell ⟨w.heap.size, 2, none⟩ (.slice a2 n c2)) := by
      have g1 := HG0.out.trans (HG1.out.trans (Gr.of hb2))
      exact ⟨g1.os, g1.tape, g1.output, by rw [hss]; exact g1.size, fun kk hkk hne => (hset kk (by omega)).trans (g1.block kk hkk hne)⟩
    have hRd3 : Rdr (w2.setCell ⟨w.heap.size, 2, none⟩ (.slice a2 n c2)) I q := (HR1.out.keep hb2).stay fun kk hkk => hset kk (by
      rcases hkk with rfl | ⟨hL, rfl⟩
      · omega
      · have := HLT.out hL; omega)
    have hB3 : Buf (w2.setCell ⟨w.heap.size, 2, none⟩ (.slice a2 n c2)) w1.heap.size (.slice a2 n c2) (textF I.f s n).data.toList := by
      exact ownsRow_keep hv (fun g hg _ => hset g (by have := (ownsRow_lt hv g hg).2.1; omega))
    have z2 := hR32.frozen 2
    have cc2 := (hR32.cell 2).trans (rfl : _ = some (Value.slice none 0 0))
    have HR33 : Hid _ := hR33
    have HR43 : Hid (Row (w2.setCell ⟨w.heap.size, 2, none⟩ (.slice a2 n c2)) (w.heap.size + 1) node0 26) := hR43
    have HG3 : Hid (Gr I w (w2.setCell ⟨w.heap.size, 2, none⟩ (.slice a2 n c2))) := hG3
    have HRd3 : Hid (Rdr (w2.setCell ⟨w.heap.size, 2, none⟩ (.slice a2 n c2)) I q) := hRd3
    have HB3 : Hid (Buf (w2.setCell ⟨w.heap.size, 2, none⟩ (.slice a2 n c2)) w1.heap.size (.slice a2 n c2) (textF I.f s n).data.toList) := hB3
    have HSS : Hid ((w2.setCell ⟨w.heap.size, 2, none⟩ (.slice a2 n c2)).heap.size = w2.heap.size) := hss
    clear hR33 hR43 hG3 hRd3 hB3 hset hss hR3 hR4 hv hb2 HR1 HCL hR42 HG0 HG1
    go_wp2_with fail
    generalize w2.setCell ⟨w.heap.size, 2, none⟩ (.slice a2 n c2) = w3 at *
    have hRdr : Row w3.drew w.heap.size (nodeV k e a2 n c2 none 0 0 none 0 0) 26 := Row.drew HR33.out
    have hR4d : Row w3.drew (w.heap.size + 1) node0 26 := Row.drew HR43.out
    have HRdd : Hid (Rdr w3.drew I q) := HRd3.out.keep (Below.refl _ _).drew
    have HGd : Hid (Gr I w w3.drew) := HG3.out.trans (Gr.of (Below.refl _ _).drew)
    have HBd : Hid (Buf w3.drew w1.heap.size (.slice a2 n c2) (textF I.f s n).data.toList) := HB3.out.keep (Below.refl _ _).drew
    have HPS : Hid (Calls Tryd.prog 42 #[.pointer (some ⟨I.gR, 0, none⟩), .slice (some ⟨w3.drew.heap.size, 0, none⟩) 1 1] (w3.drew.alloc (.cells #[.string wShut] 9)) fun r w' => PassPost I q [wShut] w3.drew r w') := pass1_ok I q w3.drew HRdd.out [wShut] (Nat.le_of_ble_eq_true rfl) _ rfl _ rfl _ rfl
    have hdsz : w3.drew.heap.size = w2.heap.size := HSS.out
    have HCC : Hid ((nodeV k e a2 n c2 none 0 0 none 0 0).all (fun x => x.oneCell') = true) := nodeV_one _ _ _ _ _ _ _ _ _ _ _
    refine wp_region_permA [(false, 0), (false, 1), (true, 2), (true, 3), (true, 4), (false, 5)] (fun wx => Row wx w.heap.size (nodeV k e a2 n c2 none 0 0 none 0 0) 26) (by kernel_rfl) (by kernel_rfl) hRdr ?_
    refine a_load_mid (some 20) 26 _ rfl rfl rfl (by rfl) w.heap.size 0 (by go_simp) (nodeV k e a2 n c2 none 0 0 none 0 0).toList _ (fun wx hw => Row.range hw) Tryd.underlying26 rfl infoN ?_
    simp only [Act.put, List.setIfInBounds_toArray, List.set_cons_zero, List.set_cons_succ]
    refine a_move (some 21) _ rfl rfl rfl (by rfl) ?_
    simp only [Act.put, List.setIfInBounds_toArray, List.set_cons_zero, List.set_cons_succ]
    refine a_texts (some 22) _ [wShut] rfl rfl rfl (by rfl) (Nat.succ_pos _) (Nat.le_of_ble_eq_true rfl) (by simp only [List.map_toArray, List.map_cons, List.map_nil]; rfl) (hRdr.alloc _) ?_
    simp only [Act.put, List.setIfInBounds_toArray, List.set_cons_zero, List.set_cons_succ]
    refine a_call (some 23) rfl rfl (by rfl) 42 #[.pointer (some ⟨I.gR, 0, none⟩), .slice (some ⟨w3.drew.heap.size, 0, none⟩) 1 1] (by go_simp) (Calls.mono HPS.out ?_)
    rintro r w4 ⟨hg4, hpost⟩
    have hR34 : Row w4 w.heap.size (nodeV k e a2 n c2 none 0 0 none 0 0) 26 := hg4.row hRdr (by omega)
    have hR44 : Row w4 (w.heap.size + 1) node0 26 := hg4.row hR4d (by omega)
    have HG4 : Hid (Gr I w w4) := HGd.out.trans hg4
    have hs4 := hg4.size
    have HB4 : Hid (Buf w4 w1.heap.size (.slice a2 n c2) (textF I.f s n).data.toList) := ownsRow_keep HBd.out (fun g hg hgl => hg4.block g hgl (fun e1 => by have := (ownsRow_lt HBd.out g hg).2.1; simp only [Option.some.injEq] at e1; omega))
    clear HPS HRdd HGd HBd hg4 HB3 HG3 HRd3 HR43 HR33
    cases hps : passF I.f I.L q [wShut] with
    | error er =>
      rw [hps] at hpost
      obtain ⟨ev, rfl, he⟩ := hpost
      have HS : Hid (dataF I.f I.L p k e = .error er) := dataF_err2 HNXT.out hps
      have HE : Hid (ErrAt (w4.setRow (w.heap.size + 1) (nodeV k e a2 n c2 none 0 0 none 0 0)) ev er) := by
        obtain ⟨g', q', h7, h8⟩ := he
        exact ⟨g', q', h7, h8.other (row_apart h8 hR44 (by decide))⟩
      have HF : Hid (NodePost I w (dataF I.f I.L p k e) (.returned (.tuple #[.agg (nodeV k e a2 n c2 none 0 0 none 0 0), ev])) (w4.setRow (w.heap.size + 1) (nodeV k e a2 n c2 none 0 0 none 0 0))) := by
        show NodePost _ _ _ _ _
        rw [HS.out]
        exact ⟨Gr.setRow HG4.out (by omega), _, ev, rfl, rfl, HCC.out, HE.out⟩
      clear hps he HE HS HNXT
      refine ⟨_, rfl, hR34, ?_⟩
      simp only [Act.put, List.setIfInBounds_toArray, List.set_cons_zero, List.set_cons_succ]
      refine a_store5 (.tmp 4) (.tmp 20) rfl rfl rfl (by rfl) (w.heap.size + 1) rfl (nodeV k e a2 n c2 none 0 0 none 0 0) rfl rfl node0 hR44 rfl HCC.out (hR34.other (by omega)) ?_
      refine a_value (some 5) ?_ rfl rfl (by rfl) (fun w hw => ?_) ?_
      rotate_left
      · go_simp
        with_reducible rfl
      simp only [Act.put, List.setIfInBounds_toArray, List.set_cons_zero, List.set_cons_succ]
      refine a_done ?_
      try simp only [Exit.then]
      go_wp2_with fail
      refine bodyPost_ret (results_cell_row2 resultsData _ _ (w.heap.size + 1) 26 (nodeV k e a2 n c2 none 0 0 none 0 0) (0, 0) _ rfl hR44.setRow Tryd.underlying26 rfl infoN) rfl ?_
      exact HP.out _ _ HF.out
    | ok q2 =>
      rw [hps] at hpost
      obtain ⟨rfl, hr4⟩ := hpost
      have hB5 : Buf (w4.setRow (w.heap.size + 1) (nodeV k e a2 n c2 none 0 0 none 0 0)) w1.heap.size (.slice a2 n c2) (textF I.f s n).data.toList := ownsRow_keep HB4.out (fun g hg _ => setRow_other w4 _ g _ (by have := (ownsRow_lt HB4.out g hg).2.1; omega))
      have HF : Hid (NodePost I w (dataF I.f I.L p k e) (.returned (.tuple #[.agg (nodeV k e a2 n c2 none 0 0 none 0 0), .nilIface])) (w4.setRow (w.heap.size + 1) (nodeV k e a2 n c2 none 0 0 none 0 0))) := by
        show NodePost _ _ _ _ _
        rw [dataF_ok HNXT.out hps]
        refine ⟨Gr.setRow HG4.out (by omega), _, rfl, ?_, hr4.stay fun kk hkk => setRow_other w4 _ kk _ (by
          rcases hkk with rfl | ⟨hL, rfl⟩
          · omega
          · have := HLT.out hL; omega)⟩
        have hts : (textF I.f s n).size = n := textF_size I.f s n
        have := leaf_on k e hk (d := textF I.f s n) (a := a2) (c := c2) (by rw [hts]; exact hB5) (by rw [hts]; unfold big; omega)
        rw [hts] at this
        exact this.mono fun b hb => ⟨by omega, hb.2⟩
      clear hps HNXT hB5 hr4
      refine ⟨_, rfl, hR34, ?_⟩
      simp only [Act.put, List.setIfInBounds_toArray, List.set_cons_zero, List.set_cons_succ]
      refine a_store5 (.tmp 4) (.tmp 20) rfl rfl rfl (by rfl) (w.heap.size + 1) rfl (nodeV k e a2 n c2 none 0 0 none 0 0) rfl rfl node0 hR44 rfl HCC.out (hR34.other (by omega)) ?_
      refine a_value (some 5) ?_ rfl rfl (by rfl) (fun w hw => ?_) ?_
      rotate_left
      · go_simp
        with_reducible rfl
      simp only [Act.put, List.setIfInBounds_toArray, List.set_cons_zero, List.set_cons_succ]
      refine a_done ?_
      try simp only [Exit.then]
      go_wp2_with fail
      refine bodyPost_ret (results_cell_row2 resultsData _ _ (w.heap.size + 1) 26 (nodeV k e a2 n c2 none 0 0 none 0 0) (0, 0) _ rfl hR44.setRow Tryd.underlying26 rfl infoN) rfl ?_
      exact HP.out _ _ HF.out
end Go.Proofs.YtimiginpdkokiaaDoor
