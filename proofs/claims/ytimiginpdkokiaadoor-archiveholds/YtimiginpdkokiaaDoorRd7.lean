/- My own work: the walk of entry. -/
import Derived.Test.YtimiginpdkokiaaDoorRd6
namespace Go.Proofs.YtimiginpdkokiaaDoor
open Go.RowKit

theorem results_tct {P : Program} {fn : Func} {p u v : Tmp} {ty : TypeId} (h : fn.results = #[.tmp u, .cell p ty, .tmp v]) (tmps : Array Value) (w : World) (g : Nat) (t : TypeId) (cs : Array Value) (fr : Nat × Nat) (d : TypeDesc)
    (hp : tmps.getD p undef = .pointer (some ⟨g, 0, none⟩)) (hg : w.heap[g]? = some (.cells cs t fr))
    (hu : P.underlying ty = some d) (hd : (match d with | .struct _ | .array _ _ => true | _ => false) = true) (hi : (P.info? ty).map (·.size) = some cs.size) :
    (results fn tmps).run P w = .ok (.tuple #[tmps.getD u undef, .agg cs, tmps.getD v undef]) w := by
  have hp' : tmps[p]?.getD undef = .pointer (some ⟨g, 0, none⟩) := by simpa using hp
  simp [results, h, hp', asAddr, run_loadVar_row w g t ty cs fr d hg hu hd hi, Result.andThen]
theorem resultsEntry : Tryd.f72.results = #[.tmp 4, .cell 5 26, .tmp 6] := by kernel_rfl
/-- What entry tells. -/
def EntryPost (I : Inp) (w : World) (spec : Except Int (ByteArray × Nd × Nat)) (r : Ending) (w' : World) : Prop :=
  Gr I w w' ∧ match spec with
    | .error e => ∃ t C ev, r = .returned (.tuple #[.string t, .agg C, ev]) ∧ C.size = 5 ∧ C.all (fun x => x.oneCell') = true ∧ ErrAt w' ev e
    | .ok (nm, kd, q) => ∃ C, r = .returned (.tuple #[.string nm, .agg C, .nilIface]) ∧ NodeOn w' (fun b => w.heap.size ≤ b ∧ b < w'.heap.size) kd C ∧ Rdr w' I q
theorem EntryPost.bad {I : Inp} {w w1 : World} {g : Nat} {ev : Value} {e : Int} {Z : Array Value} {spec : Except Int (ByteArray × Nd × Nat)} (hs : spec = .error e) (hgr : Gr I w w1) (hlt : w.heap.size ≤ g) (hr : Row w1 g Z 26) (he : ErrAt w1 ev e) : EntryPost I w spec (.returned (.tuple #[.string ⟨#[]⟩, .agg node0, ev])) (w1.setRow g node0) := by
  subst hs
  obtain ⟨g', q, h7, h8⟩ := he
  exact ⟨Gr.setRow hgr hlt, _, node0, ev, rfl, rfl, node0_one, g', q, h7, h8.other (row_apart h8 hr (by decide))⟩
theorem NodeOn.gr {I : Inp} {w w' : World} {B : Nat} {n : Nd} {C : Array Value} (h : NodeOn w (fun b => B ≤ b ∧ b < w.heap.size) n C) (hB : I.gR < B) (g : Gr I w w') : NodeOn w' (fun b => B ≤ b ∧ b < w'.heap.size) n C :=
  (h.keep (w' := w') fun b hb => g.block b hb.2 (fun e => by simp only [Option.some.injEq] at e; omega)).mono fun b hb => ⟨hb.1, by have := g.size; omega⟩
set_option maxRecDepth 20000 in
set_option maxHeartbeats 8000000 in
theorem entry_ok (I : Inp) (p lv : Nat) (rec : Nat → Except Int (Nd × Nat)) (HREC : ∀ q wx, Rdr wx I q → Calls Tryd.prog 43 #[.pointer (some ⟨I.gR, 0, none⟩), .int .i64 ((lv : Int) + 1)] wx fun r w' => NodePost I wx (rec q) r w') (hlv : lv ≤ 33) (w : World) (h : Rdr w I p) : Calls Tryd.prog 72 #[.pointer (some ⟨I.gR, 0, none⟩), .int .i64 lv] w fun r w' => EntryPost I w (entryF rec I.f I.L p) r w' := by
  have hb0 : Below w.heap.size w (w.alloc (.cells node0 26)) := (Below.refl _ _).alloc (Nat.le_refl _) _
  have HR0 : Hid (Row (w.alloc (.cells node0 26)) w.heap.size node0 26) := Row.new w _ 26
  have HRd0 : Hid (Rdr (w.alloc (.cells node0 26)) I p) := h.keep hb0
  have HG0 : Hid (Gr I w (w.alloc (.cells node0 26))) := Gr.of hb0
  have HSZ : Hid (w.heap.size + 1 = (w.alloc (.cells node0 26)).heap.size) := by show _ = _; simp
  have hgR := h.lts.1
  have HLT : Hid (0 < I.L → I.b < w.heap.size) := h.lts.2
  have hRC : Hid (∀ q wx, Rdr wx I q → Calls Tryd.prog 43 #[.pointer (some ⟨I.gR, 0, none⟩), .int .i64 ((lv : Int) + 1)] wx fun r w' => NodePost I wx (rec q) r w') := HREC
  obtain ⟨NP, hNP⟩ : ∃ NP, NP = EntryPost I w (entryF rec I.f I.L p) := ⟨_, rfl⟩
  have HP : Hid (∀ r w', EntryPost I w (entryF rec I.f I.L p) r w' → NP r w') := fun r w' h => by rw [hNP]; exact h
  rw [← hNP]
  clear hNP h hb0 HREC
  go_enter Tryd.func72, Tryd.ntmps72
  go_wp2_with (refine b_texts rfl _ [wOpen, wName] rfl (Nat.succ_pos _) (Nat.le_of_ble_eq_true rfl) rfl ?_)
  generalize w.alloc (.cells node0 26) = w0 at *
  refine Calls.mono (pass1_ok I p w0 HRd0.out [wOpen, wName] (Nat.le_of_ble_eq_true rfl) _ HSZ.out _ rfl _ rfl) ?_
  rintro r w1 ⟨hg1, hpost⟩
  have hR1 : Row w1 w.heap.size node0 26 := hg1.row HR0.out (by omega)
  have HG1 : Hid (Gr I w w1) := HG0.out.trans hg1
  have hs1 := hg1.size
  clear hg1 HR0 HRd0 HG0
  cases h1 : passF I.f I.L p [wOpen, wName] with
  | error er =>
    rw [h1] at hpost
    obtain ⟨ev, rfl, he⟩ := hpost
    have HE : Hid (ErrAt w1 ev er) := he
    obtain ⟨q1, q2, rfl, _⟩ := he
    have HS : Hid (entryF rec I.f I.L p = .error er) := by show _ = _; unfold entryF; rw [h1]
    clear h1
    go_wp2_with (refine wpList_store_row rfl 26 _ _ rfl w.heap.size node0 rfl rfl 26 node0 hR1 info0 rfl node0_one ?_)
    refine bodyPost_ret (results_tct resultsEntry _ _ w.heap.size 26 node0 (0, 0) _ rfl (Row.setRow hR1) Tryd.underlying26 rfl info0) rfl ?_
    exact HP.out _ _ (EntryPost.bad HS.out HG1.out (Nat.le_refl _) hR1 HE.out)
  | ok q1 =>
    rw [h1] at hpost
    obtain ⟨rfl, hr1⟩ := hpost
    have HNX : Hid (Calls Tryd.prog 70 #[.pointer (some ⟨I.gR, 0, none⟩)] w1 fun r w' => NextPost I q1 w1 r w') := next_ok I q1 w1 hr1
    have H1 : Hid (passF I.f I.L p [wOpen, wName] = .ok q1) := h1
    clear h1 hr1
    go_wp2_with fail
    refine Calls.mono HNX.out ?_
    clear HNX
    rintro r w2 ⟨hg2, hpost⟩
    have hR2 : Row w2 w.heap.size node0 26 := hg2.row hR1 (by omega)
    have HG2 : Hid (Gr I w w2) := HG1.out.trans hg2
    have hs2 := hg2.size
    clear hg2 hR1 HG1
    cases h2 : nextF I.f I.L q1 with
    | error er =>
      rw [h2] at hpost
      obtain ⟨ev, rfl, he⟩ := hpost
      have HE : Hid (ErrAt w2 ev er) := he
      obtain ⟨z1, z2, rfl, _⟩ := he
      have HS : Hid (entryF rec I.f I.L p = .error er) := by show _ = _; unfold entryF; rw [H1.out]; simp only [h2]
      clear h2
      go_wp2_with (refine wpList_store_row rfl 26 _ _ rfl w.heap.size node0 rfl rfl 26 node0 hR2 info0 rfl node0_one ?_)
      refine bodyPost_ret (results_tct resultsEntry _ _ w.heap.size 26 node0 (0, 0) _ rfl (Row.setRow hR2) Tryd.underlying26 rfl info0) rfl ?_
      exact HP.out _ _ (EntryPost.bad HS.out HG2.out (Nat.le_refl _) hR2 HE.out)
    | ok x =>
      obtain ⟨s, n, q2⟩ := x
      rw [h2] at hpost
      obtain ⟨o, c1, rfl, ho, hn1, hn2, hn3, hr2⟩ := hpost
      have H2 : Hid (nextF I.f I.L q1 = .ok (s, n, q2)) := h2
      have HO : Hid (0 < n → o = I.off + s) := ho
      have HR2 : Hid (Rdr w2 I q2) := hr2
      clear h2 ho hr2
      go_wp2_with (refine b_texts rfl _ [wNode] rfl (Nat.succ_pos _) (Nat.le_of_ble_eq_true rfl) rfl ?_)
      refine Calls.mono (pass1_ok I q2 w2 HR2.out [wNode] (Nat.le_of_ble_eq_true rfl) _ rfl _ rfl _ rfl) ?_
      rintro r w3 ⟨hg3, hpost⟩
      have hR3 : Row w3 w.heap.size node0 26 := hg3.row hR2 (by omega)
      have HG3 : Hid (Gr I w w3) := HG2.out.trans hg3
      have hs3 := hg3.size
      clear hg3 hR2 HG2 HR2
      cases h3 : passF I.f I.L q2 [wNode] with
      | error er =>
        rw [h3] at hpost
        obtain ⟨ev, rfl, he⟩ := hpost
        have HE : Hid (ErrAt w3 ev er) := he
        obtain ⟨z1, z2, rfl, _⟩ := he
        have HS : Hid (entryF rec I.f I.L p = .error er) := by show _ = _; unfold entryF; rw [H1.out]; simp only [H2.out, h3]
        clear h3
        go_wp2_with (refine wpList_store_row rfl 26 _ _ rfl w.heap.size node0 rfl rfl 26 node0 hR3 info0 rfl node0_one ?_)
        refine bodyPost_ret (results_tct resultsEntry _ _ w.heap.size 26 node0 (0, 0) _ rfl (Row.setRow hR3) Tryd.underlying26 rfl info0) rfl ?_
        exact HP.out _ _ (EntryPost.bad HS.out HG3.out (Nat.le_refl _) hR3 HE.out)
      | ok q3 =>
        rw [h3] at hpost
        obtain ⟨rfl, hr3⟩ := hpost
        have HND := hRC.out q3 w3 hr3
        have H3 : Hid (passF I.f I.L q2 [wNode] = .ok q3) := h3
        clear h3 hr3 hRC
        go_wp2_with fail
        refine Calls.mono HND ?_
        clear HND
        rintro r w4 hp4
        obtain ⟨C, ev, rfl, h5, hC1⟩ := hp4.shape
        have hg4 := hp4.1
        have hs4 := hg4.size
        have HNE : Hid (w4.heap.size ≠ w.heap.size) := by have := HSZ.out; show _ ≠ _; omega
        have hCi : (Tryd.prog.info? 26).map (·.size) = some C.size := by rw [infoN, h5]
        have hba : Below w4.heap.size w4 (w4.alloc (.cells C 26)) := (Below.refl _ _).alloc (Nat.le_refl _) _
        have hR4 : Row (w4.alloc (.cells C 26)) w.heap.size node0 26 := (hg4.row hR3 (by omega)).below hba (hg4.row hR3 (by omega)).lt
        have HR11 : Hid (Row (w4.alloc (.cells C 26)) w4.heap.size C 26) := Row.new w4 C _
        have HG4 : Hid (Gr I w (w4.alloc (.cells C 26))) := HG3.out.trans (hg4.trans (Gr.of hba))
        have HP4 : Hid (NodePost I w3 (rec q3) (.returned (.tuple #[.agg C, ev])) w4) := hp4
        have HBA : Hid (Below w4.heap.size w4 (w4.alloc (.cells C 26))) := hba
        have HSA : Hid (w4.heap.size + 1 = (w4.alloc (.cells C 26)).heap.size) := by show _ = _; simp
        cases h4 : rec q3 with
        | error er =>
          rw [h4] at HP4
          obtain ⟨_, C', ev', he1, _, _, he⟩ := HP4.out
          simp only [Ending.returned.injEq, Value.tuple.injEq, Array.mk.injEq, List.cons.injEq, Value.agg.injEq, and_true] at he1
          obtain ⟨rfl, rfl⟩ := he1
          have HE : Hid (ErrAt (w4.alloc (.cells C 26)) ev er) := he.keep hba
          obtain ⟨z1, z2, rfl, _⟩ := he
          have HS : Hid (entryF rec I.f I.L p = .error er) := by show _ = _; unfold entryF; rw [H1.out]; simp only [H2.out, H3.out, h4]
          clear h4 hp4 hg4 hba HP4 HBA
          go_wp2_with (first
            | refine wpList_store_new rfl 26 _ _ rfl w4 _ C 26 rfl w4.heap.size rfl rfl rfl hCi h5.symm hC1 ?_
            | refine wpList_store_row rfl 26 _ _ rfl w.heap.size node0 rfl rfl 26 node0 hR4 info0 rfl node0_one ?_)
          refine bodyPost_ret (results_tct resultsEntry _ _ w.heap.size 26 node0 (0, 0) _ rfl (Row.setRow hR4) Tryd.underlying26 rfl info0) rfl ?_
          exact HP.out _ _ (EntryPost.bad HS.out HG4.out (Nat.le_refl _) hR4 HE.out)
        | ok x =>
          obtain ⟨kd, q4⟩ := x
          rw [h4] at HP4
          obtain ⟨_, C', he1, hno, hr4⟩ := HP4.out
          simp only [Ending.returned.injEq, Value.tuple.injEq, Array.mk.injEq, List.cons.injEq, Value.agg.injEq, and_true] at he1
          obtain ⟨rfl, rfl⟩ := he1
          have H4 : Hid (rec q3 = .ok (kd, q4)) := h4
          have HNO : Hid (NodeOn (w4.alloc (.cells C 26)) (fun b => w3.heap.size ≤ b ∧ b < (w4.alloc (.cells C 26)).heap.size) kd C) := hno.gr (I := I) (Nat.lt_of_lt_of_le hgR HG3.out.size) (Gr.of hba)
          have HRd4 : Hid (Rdr (w4.alloc (.cells C 26)) I q4) := hr4.keep hba
          clear h4 hp4 hg4 hba HP4 HBA hno hr4
          go_wp2_with (refine wpList_store_new rfl 26 _ _ rfl w4 _ C 26 rfl w4.heap.size rfl rfl rfl hCi h5.symm hC1 ?_)
          generalize w4.alloc (.cells C 26) = w5 at *
          have hs5 := HSA.out
          have hw3 := HG3.out.size
          have hcl0 : ∀ i, i < n → w5.cell? ⟨I.b, o + i, none⟩ = some (.int .u8 (I.f (s + i))) := fun i hi => by rw [HO.out (by omega), Nat.add_assoc]; exact HRd4.out.cell (s + i) (by omega)
          have hcld : ∀ i, i < n → w5.drew.cell? ⟨I.b, o + i, none⟩ = some (.int .u8 (I.f (s + i))) := fun i hi => by simpa using hcl0 i hi
          have hR11d : Row w5.drew w4.heap.size C 26 := Row.drew HR11.out
          have hR4d : Row w5.drew w.heap.size node0 26 := Row.drew hR4
          have HRdd : Hid (Rdr w5.drew I q4) := HRd4.out.keep (Below.refl _ _).drew
          have HGd : Hid (Gr I w w5.drew) := HG4.out.trans (Gr.of (Below.refl _ _).drew)
          have HNd : Hid (NodeOn w5.drew (fun b => w3.heap.size ≤ b ∧ b < w5.drew.heap.size) kd C) := HNO.out.gr (I := I) (Nat.lt_of_lt_of_le hgR hw3) (Gr.of (Below.refl _ _).drew)
          have HPS : Hid (Calls Tryd.prog 42 #[.pointer (some ⟨I.gR, 0, none⟩), .slice (some ⟨w5.drew.heap.size, 0, none⟩) 1 1] (w5.drew.alloc (.cells #[.string wShut] 9)) fun r w' => PassPost I q4 [wShut] w5.drew r w') := pass1_ok I q4 w5.drew HRdd.out [wShut] (Nat.le_of_ble_eq_true rfl) _ rfl _ rfl _ rfl
          have hdsz : w5.drew.heap.size = w5.heap.size := rfl
          have HBL : Hid (0 < n → I.b < w.heap.size) := fun h => HLT.out (by omega)
          have HBG : Hid (0 < n → I.b ≠ I.gR) := fun h => HRd4.out.ne (by omega)
          clear HRd4 HG4 HNO HR11 hcl0 hR4
          refine wp_region_permA [(false, 0), (false, 1), (false, 2), (false, 3), (true, 4), (true, 5), (false, 6), (true, 7), (false, 8)] (fun wx => Row wx w4.heap.size C 26 ∧ ∀ i, i < n → wx.cell? ⟨I.b, o + i, none⟩ = some (.int .u8 (I.f (s + i)))) (by kernel_rfl) (by kernel_rfl) ⟨hR11d, hcld⟩ ?_
          refine a_move (some 46) _ rfl rfl rfl (by rfl) ?_
          simp only [Act.put, List.setIfInBounds_toArray, List.set_cons_zero, List.set_cons_succ]
          refine a_value (some 47) (.string (textF I.f s n)) rfl rfl (by rfl) (fun wx hw => by
            have hcv := conv_text wx I.b o n c1 I.f s hw.2
            go_simp) ?_
          simp only [Act.put, List.setIfInBounds_toArray, List.set_cons_zero, List.set_cons_succ]
          refine a_load_mid (some 48) 26 _ rfl rfl rfl (by rfl) w4.heap.size 0 (by go_simp) C.toList _ (fun wx hw => Row.range hw.1) Tryd.underlying26 rfl (by rw [infoN, Array.length_toList, h5]) ?_
          simp only [Array.toArray_toList]
          simp only [Act.put, List.setIfInBounds_toArray, List.set_cons_zero, List.set_cons_succ]
          refine a_move (some 49) _ rfl rfl rfl (by rfl) ?_
          simp only [Act.put, List.setIfInBounds_toArray, List.set_cons_zero, List.set_cons_succ]
          refine a_texts (some 50) _ [wShut] rfl rfl rfl (by rfl) (Nat.succ_pos _) (Nat.le_of_ble_eq_true rfl) (by simp only [List.map_toArray, List.map_cons, List.map_nil]; rfl) ⟨hR11d.alloc _, fun i hi => (World.cell?_of_block (w := w5.drew) (Below.heap_alloc w5.drew _ I.b (World.block_lt_of_cell? w5.drew _ (hcld i hi)))).trans (hcld i hi)⟩ ?_
          simp only [Act.put, List.setIfInBounds_toArray, List.set_cons_zero, List.set_cons_succ]
          refine a_call (some 51) rfl rfl (by rfl) 42 #[.pointer (some ⟨I.gR, 0, none⟩), .slice (some ⟨w5.drew.heap.size, 0, none⟩) 1 1] (by go_simp) (Calls.mono HPS.out ?_)
          rintro r w6 ⟨hg6, hpost⟩
          have hR116 : Row w6 w4.heap.size C 26 := hg6.row hR11d (by omega)
          have hR46 : Row w6 w.heap.size node0 26 := hg6.row hR4d (by omega)
          have hcl6 : ∀ i, i < n → w6.cell? ⟨I.b, o + i, none⟩ = some (.int .u8 (I.f (s + i))) := fun i hi => (World.cell?_of_block (w := w5.drew) (hg6.block I.b (World.block_lt_of_cell? w5.drew _ (hcld i hi)) (fun e => HBG.out (by omega) (Option.some.inj e)))).trans (hcld i hi)
          have HCLS : Hid (∀ i, i < n → (w6.setRow w.heap.size C).cell? ⟨I.b, o + i, none⟩ = some (.int .u8 (I.f (s + i)))) := fun i hi => (World.cell?_of_block (w := w6) (setRow_other w6 w.heap.size I.b C (by have := HBL.out (by omega); omega))).trans (hcl6 i hi)
          have HG6 : Hid (Gr I w w6) := HGd.out.trans hg6
          have HN6 : Hid (NodeOn w6 (fun b => w3.heap.size ≤ b ∧ b < w6.heap.size) kd C) := HNd.out.gr (I := I) (Nat.lt_of_lt_of_le hgR hw3) hg6
          have hs6 : (w6.setRow w.heap.size C).heap.size = w6.heap.size := by simp [World.setRow]
          clear HPS HRdd HGd HNd hg6 hcld hR11d hR4d
          cases h6 : passF I.f I.L q4 [wShut] with
          | error er =>
            rw [h6] at hpost
            obtain ⟨ev, rfl, he⟩ := hpost
            have HF : Hid (EntryPost I w (entryF rec I.f I.L p) (.returned (.tuple #[.string (textF I.f s n), .agg C, ev])) (w6.setRow w.heap.size C)) := by
              show EntryPost _ _ _ _ _
              rw [show entryF rec I.f I.L p = .error er by unfold entryF; rw [H1.out]; simp only [H2.out, H3.out, H4.out, h6]]
              obtain ⟨g', q', h7, h8⟩ := he
              exact ⟨Gr.setRow HG6.out (Nat.le_refl _), _, C, ev, rfl, h5, hC1, g', q', h7, h8.other (row_apart h8 hR46 (by decide))⟩
            clear h6 he H1 H2 H3 H4 HN6 hs6
            refine ⟨_, rfl, ⟨hR116, hcl6⟩, ?_⟩
            simp only [Act.put, List.setIfInBounds_toArray, List.set_cons_zero, List.set_cons_succ]
            refine a_value (some 4) ?_ rfl rfl (by rfl) (fun w hw => ?_) ?_
            rotate_left
            · go_simp
              with_reducible rfl
            simp only [Act.put, List.setIfInBounds_toArray, List.set_cons_zero, List.set_cons_succ]
            refine a_store5 (.tmp 5) (.tmp 48) rfl rfl rfl (by rfl) w.heap.size rfl C rfl h5 node0 hR46 rfl hC1 ⟨hR116.other HNE.out, HCLS.out⟩ ?_
            refine a_value (some 6) ?_ rfl rfl (by rfl) (fun w hw => ?_) ?_
            rotate_left
            · go_simp
              with_reducible rfl
            simp only [Act.put, List.setIfInBounds_toArray, List.set_cons_zero, List.set_cons_succ]
            refine a_done ?_
            try simp only [Exit.then]
            go_wp2_with fail
            refine bodyPost_ret (results_tct resultsEntry _ _ w.heap.size 26 C (0, 0) _ rfl hR46.setRow Tryd.underlying26 rfl hCi) rfl ?_
            exact HP.out _ _ HF.out
          | ok q5 =>
            rw [h6] at hpost
            obtain ⟨rfl, hr6⟩ := hpost
            have HF : Hid (EntryPost I w (entryF rec I.f I.L p) (.returned (.tuple #[.string (textF I.f s n), .agg C, .nilIface])) (w6.setRow w.heap.size C)) := by
              show EntryPost _ _ _ _ _
              rw [show entryF rec I.f I.L p = .ok (textF I.f s n, kd, q5) by unfold entryF; rw [H1.out]; simp only [H2.out, H3.out, H4.out, h6]]
              refine ⟨Gr.setRow HG6.out (Nat.le_refl _), C, rfl, (HN6.out.keep (w' := w6.setRow w.heap.size C) fun b hb => setRow_other w6 _ b C (by have := HSZ.out; omega)).mono fun b hb => ⟨by omega, by rw [hs6]; exact hb.2⟩, ?_⟩
              exact hr6.stay fun k hk => setRow_other w6 _ k C (by
                rcases hk with rfl | ⟨hL, rfl⟩
                · omega
                · have := HLT.out hL; omega)
            clear h6 hr6 H1 H2 H3 H4 HN6 hs6
            refine ⟨_, rfl, ⟨hR116, hcl6⟩, ?_⟩
            simp only [Act.put, List.setIfInBounds_toArray, List.set_cons_zero, List.set_cons_succ]
            refine a_value (some 4) ?_ rfl rfl (by rfl) (fun w hw => ?_) ?_
            rotate_left
            · go_simp
              with_reducible rfl
            simp only [Act.put, List.setIfInBounds_toArray, List.set_cons_zero, List.set_cons_succ]
            refine a_store5 (.tmp 5) (.tmp 48) rfl rfl rfl (by rfl) w.heap.size rfl C rfl h5 node0 hR46 rfl hC1 ⟨hR116.other HNE.out, HCLS.out⟩ ?_
            refine a_value (some 6) ?_ rfl rfl (by rfl) (fun w hw => ?_) ?_
            rotate_left
            · go_simp
              with_reducible rfl
            simp only [Act.put, List.setIfInBounds_toArray, List.set_cons_zero, List.set_cons_succ]
            refine a_done ?_
            try simp only [Exit.then]
            go_wp2_with fail
            refine bodyPost_ret (results_tct resultsEntry _ _ w.heap.size 26 C (0, 0) _ rfl hR46.setRow Tryd.underlying26 rfl hCi) rfl ?_
            exact HP.out _ _ HF.out
end Go.Proofs.YtimiginpdkokiaaDoor
