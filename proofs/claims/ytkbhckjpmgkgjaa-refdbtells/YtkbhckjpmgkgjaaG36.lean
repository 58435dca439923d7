/- My own work: New once more: where the graph lies; what is written elsewhere leaves it as it is. -/
import Derived.Test.YtkbhckjpmgkgjaaG35
namespace Go.Proofs.Ytkbhckjpmgkgjaa
open Go.RowKit

theorem own_far {w : World} {B n : Nat} {a : Option Addr} {m c : Nat} {xs : List Value} (h : w.ownsRow B 9 1 (.slice a m c) n xs) : ∀ x, a = some x → B ≤ x.block := fun x hx => by
  obtain ⟨_, ⟨h1, _⟩ | ⟨g, cap, cur, h1, h2, _⟩⟩ := h
  · simp only [Value.slice.injEq] at h1
    rw [h1.1] at hx
    cases hx
  · simp only [Value.slice.injEq] at h1
    rw [h1.1] at hx
    cases hx
    exact h2
/-- A graph all of which lies from a block on. -/
structure GFar (w : World) (B g : Nat) (P dv : List ByteArray) (E : List (Nat × Nat)) : Prop where
  ex : ∃ a c da dc m es clk, Row w g #[.slice a P.length c, .slice da dv.length dc, .map (some m)] 51 ∧ StrsAt w a P c ∧ StrsAt w da dv dc ∧ EdgesAt w m E es clk ∧ B ≤ g ∧ (∀ x, a = some x → B ≤ x.block) ∧ (∀ x, da = some x → B ≤ x.block) ∧ B ≤ m
  up : Up P
  nd : E.Nodup
theorem GFar.at {w : World} {B g : Nat} {P dv : List ByteArray} {E : List (Nat × Nat)} (h : GFar w B g P dv E) : GAt w g P dv E := by
  obtain ⟨a, c, da, dc, m, es, clk, h1, h2, h3, h4, _⟩ := h.ex
  exact ⟨⟨a, c, da, dc, m, es, clk, h1, h2, h3, h4⟩, h.up, h.nd⟩
theorem GFar.keep {w w' : World} {B g : Nat} {P dv : List ByteArray} {E : List (Nat × Nat)} (h : GFar w B g P dv E) (hk : ∀ k, B ≤ k → w'.heap[k]? = w.heap[k]?) : GFar w' B g P dv E := by
  obtain ⟨a, c, da, dc, m, es, clk, h1, h2, h3, h4, h5, h6, h7, h8⟩ := h.ex
  exact ⟨⟨a, c, da, dc, m, es, clk, (hk g h5).trans h1, h2.heap fun _ x hx => hk _ (h6 x hx), h3.heap fun _ x hx => hk _ (h7 x hx), h4.keep (hk m h8), h5, h6, h7, h8⟩, h.up, h.nd⟩
def NewPostB (L : List Inf) (w : World) (e : Ending) (w' : World) : Prop :=
  Below w.heap.size w w' ∧ ((ErrThere L ∧ e = .returned (.tuple #[.pointer none, .int .i64 13])) ∨ (ErrNone L ∧ e = .returned (.tuple #[.pointer none, .int .i64 14])) ∨
    (Fine L ∧ ∃ g P dv E, e = .returned (.tuple #[.pointer (some ⟨g, 0, none⟩), .int .i64 0]) ∧ GFar w' w.heap.size g P dv E ∧ Gr L P dv E))
theorem L2.far {w wr : World} {L : List Inf} {P : List ByteArray} {pa : Option Addr} {pc : Nat} {dv : List ByteArray} {E : List (Nat × Nat)} {es : Array MapEntry} {clk : Nat} (h : L2 w L P pa pc L.length dv E es clk wr) (hn : P.length ≤ 4096) (hl : P.length = L.length) (hm : ∀ x, x ∈ P ↔ x ∈ L.map (·.path)) (hb : ∀ i ∈ L, i.der.size ≤ big) (hfr : ∀ x, pa = some x → w.heap.size ≤ x.block) : GFar wr w.heap.size (w.heap.size + 2) P dv E ∧ Gr L P dv E := by
  obtain ⟨h1, h2⟩ := h.made hn hl hm hb
  refine ⟨⟨⟨pa, pc, some ⟨w.heap.size, 0, none⟩, dv.length, w.heap.size + 1, es, clk, h.st.row, h.st.paths, ?_, h.st.edges, by omega, hfr, (fun x hx => by cases hx; exact Nat.le_refl _), by omega⟩, h1.up, h1.nd⟩, h2⟩
  obtain ⟨a, c, da, dc, m, es', clk', g1, _, g3, _⟩ := h1.ex
  have e := (h.st.row.symm.trans g1)
  simp only [Option.some.injEq, Obj.cells.injEq, Array.mk.injEq, List.cons.injEq, Value.slice.injEq] at e
  obtain ⟨_, ⟨e1, _, e2⟩, _⟩ := e.1
  rw [← e1, ← e2] at g3
  exact g3
set_option maxRecDepth 20000 in
set_option maxHeartbeats 8000000 in
theorem newB_ok (L : List Inf) (a : Option Addr) (c : Nat) (w : World) (h : LsAt w a L c) (hn : L.length ≤ 4096) : Calls Try.prog 6 #[.slice a L.length c] w (NewPostB L w) := by
  have hmk := run_make_row' (P := Try.prog) 23 9 (.string ⟨#[]⟩) 16 Try.underlying23 info9 rfl .i64 .i64 L.length (by omega) (by omega) w
  have hmm := run_makeMap_plain (P := Try.prog) (w.alloc (.cells (madeCells #[.string ⟨#[]⟩] L.length) 9)) 49
  obtain ⟨b, off, ha, hc⟩ := h.ex
  have hle := h.le
  have HL : Hid (LsAt w a L c) := h
  have HA : Hid _ := ha
  have HC : Hid (∀ wx, Below w.heap.size w wx → ∀ i (h : i < L.length), ∃ ra rc, wx.rangeAt b (off + i * 4) (infV L[i] ra rc).toList ∧ InfAt wx L[i] ra rc ∧ InfAt w L[i] ra rc) := fun wx hx i hi => by
    obtain ⟨ra, rc, h3, h4⟩ := hc i hi
    exact ⟨ra, rc, rangeAt_keep h3 hx, h4.keep hx, h4⟩
  obtain ⟨n, hN⟩ : ∃ n, n = L.length := ⟨_, rfl⟩
  rw [← hN] at hmk hmm hn hle
  rw [← hN]
  have HN : Hid _ := hN
  have HS0 : Hid (NSt w n (.slice none 0 0) [] (((w.alloc (.cells (madeCells #[.string ⟨#[]⟩] n) 9)).alloc (.map #[] 0)).alloc (.cells #[.slice none 0 0, .slice (some ⟨w.heap.size, 0, none⟩) n n, .map (some (w.heap.size + 1))] 51))) := by
    refine ⟨(((Below.refl _ _).alloc (Nat.le_refl _) _).alloc (by simp) _).alloc (by simp; omega) _, ?_, ?_, ?_, World.ownsRow_nil _ _ _ _⟩
    · have e := Row.new ((w.alloc (.cells (madeCells #[.string ⟨#[]⟩] n) 9)).alloc (.map #[] 0)) #[.slice none 0 0, .slice (some ⟨w.heap.size, 0, none⟩) n n, .map (some (w.heap.size + 1))] 51
      simpa using e
    · exact ((Row.new w (madeCells #[.string ⟨#[]⟩] n) 9).alloc _).alloc _
    · have e := heap_alloc_new (w.alloc (.cells (madeCells #[.string ⟨#[]⟩] n) 9)) (.map #[] 0)
      rw [World.size_alloc] at e
      exact (Below.heap_alloc _ _ _ (by simp)).trans e
  clear h ha hc hN
  have hn' : ¬ (4096 : Int) < (n : Int) := by omega
  go_enter Try.func6, Try.ntmps6
  go_wp2
  clear hmk hmm
  go_loopw [20] (fun iv wr => ∃ (i : Nat) (pv : Value), iv = .int .i64 i ∧ i ≤ n ∧ NSt w n pv ((L.take i).map (·.path)) wr) (fun iv _ => n - (intOf iv).toNat)
  case atStart => exact ⟨0, _, rfl, Nat.zero_le _, HS0.out⟩
  case round =>
    obtain ⟨i, pv, rfl, hi, hS⟩ := hrel
    by_cases hlt : i < n
    · have hil : i < L.length := by have := HN.out; omega
      obtain rfl := HA.out (by omega)
      obtain ⟨ra, rc, hrg, hif, _⟩ := HC.out wr hS.old i hil
      obtain ⟨x, hx⟩ : ∃ x, x = L[i] := ⟨_, rfl⟩
      rw [← hx] at hrg hif
      have HX : Hid _ := hx
      have HRG : Hid _ := hrg
      have hpb := hif.path
      unfold big at hpb
      obtain ⟨pa, pc, rfl⟩ := own_slice hS.own
      have hlt' : (i : Int) < (n : Int) := by omega
      have hsi : (Try.prog.info? 33).map (·.size) = some (infV x ra rc).toList.length := infoI
      have hlx : ((L.take i).map (·.path)).length = i := by rw [List.length_map, List.length_take]; omega
      have hbA : Below wr.heap.size wr (wr.alloc (.cells (infV x ra rc) 33)) := (Below.refl _ _).alloc (Nat.le_refl _) _
      have hSA := hS.keep hbA
      have HSA : Hid _ := hSA
      have HRA : Hid (Row (wr.alloc (.cells (infV x ra rc) 33)) wr.heap.size (infV x ra rc) 33) := Row.new wr _ _
      have hcl := clone_ok x.path
      have hi33 := infV_size x ra rc
      have hone := infV_one x ra rc
      rw [hlx] at HSA hSA
      clear hx hrg hif hS hbA
      generalize hwA : wr.alloc (.cells (infV x ra rc) 33) = wA at *
      go_wp2_with (first
        | (refine wpList_load_mid rfl 33 _ rfl b (off + i * 4) rfl (infV x ra rc).toList _ HRG.out Try.underlying33 rfl hsi ?_)
        | (refine wpList_store_new rfl 33 _ _ rfl wr info00 (infV x ra rc) 33 rfl wr.heap.size rfl rfl rfl hi33 rfl hone ?_))
      have hwAd : Below wA.heap.size wA wA.drew := (Below.refl _ _).drew
      have hSd := HSA.out.keep hwAd
      have hRd : Row wA.drew wr.heap.size (infV x ra rc) 33 := Row.below HRA.out hwAd (Row.lt HRA.out)
      have hsz := hSd.lt
      have hszA : wr.heap.size < wA.heap.size := Row.lt HRA.out
      refine wp_region_perm [(false, 0), (false, 1), (false, 2), (false, 3), (false, 4), (false, 5), (false, 6), (true, 7), (true, 8), (true, 9), (true, 10), (true, 11), (true, 12)] (fun wx => Row wx (w.heap.size + 2) #[.slice pa i pc, .slice (some ⟨w.heap.size, 0, none⟩) n n, .map (some (w.heap.size + 1))] 51 ∧ Row wx wr.heap.size (infV x ra rc) 33) (by kernel_rfl) (by kernel_rfl) ⟨hSd.row, hRd⟩ ?_
      refine p_value (some 24) (.pointer (some ⟨w.heap.size + 2, 0, none⟩)) rfl rfl (by rfl) (fun wx hw => ?_) ?_
      · go_simp
      simp only [Act.put, List.setIfInBounds_toArray, List.set_cons_zero, List.set_cons_succ]
      refine p_value (some 25) (.pointer (some ⟨w.heap.size + 2, 0, none⟩)) rfl rfl (by rfl) (fun wx hw => ?_) ?_
      · go_simp
      simp only [Act.put, List.setIfInBounds_toArray, List.set_cons_zero, List.set_cons_succ]
      refine p_value (some 26) (.pointer (some ⟨w.heap.size + 2, 0, none⟩)) rfl rfl (by rfl) (fun wx hw => ?_) ?_
      · go_simp
      simp only [Act.put, List.setIfInBounds_toArray, List.set_cons_zero, List.set_cons_succ]
      refine p_value (some 27) (.pointer (some ⟨w.heap.size + 2, 0, none⟩)) rfl rfl (by rfl) (fun wx hw => ?_) ?_
      · go_simp
      simp only [Act.put, List.setIfInBounds_toArray, List.set_cons_zero, List.set_cons_succ]
      refine p_value (some 28) (.slice pa i pc) rfl rfl (by rfl) (fun wx hw => ?_) ?_
      · have hc0 := (hw.1.cell 0).trans (rfl : _ = some (Value.slice pa i pc))
        go_simp
      simp only [Act.put, List.setIfInBounds_toArray, List.set_cons_zero, List.set_cons_succ]
      refine p_value (some 29) (.pointer (some ⟨wr.heap.size, 0, none⟩)) rfl rfl (by rfl) (fun wx hw => ?_) ?_
      · go_simp
      simp only [Act.put, List.setIfInBounds_toArray, List.set_cons_zero, List.set_cons_succ]
      refine p_value (some 30) (.string x.path) rfl rfl (by rfl) (fun wx hw => ?_) ?_
      · have hc0 := (hw.2.cell 0).trans (rfl : _ = some (Value.string x.path))
        go_simp
      simp only [Act.put, List.setIfInBounds_toArray, List.set_cons_zero, List.set_cons_succ]
      refine p_call (some 31) rfl rfl (by rfl) 21 #[.string x.path] (by kernel_rfl) ?_
      refine (hcl wA.drew (by omega)).mono ?_
      rintro e w4 ⟨rfl, hb4⟩
      have hS4 := hSd.keep hb4
      have hR4 : Row w4 wr.heap.size (infV x ra rc) 33 := hRd.below hb4 hRd.lt
      refine ⟨_, rfl, fun _ => ⟨hS4.row, hR4⟩, ?_⟩
      simp only [Act.put, List.setIfInBounds_toArray, List.set_cons_zero, List.set_cons_succ]
      have hb5 : Below w4.heap.size w4 (w4.alloc (.cells #[.string x.path] 9)) := (Below.refl _ _).alloc (Nat.le_refl _) _
      have hS5 := hS4.keep hb5
      have hR5 : Row (w4.alloc (.cells #[.string x.path] 9)) wr.heap.size (infV x ra rc) 33 := hR4.below hb5 hR4.lt
      refine p_alone (some 32) (.slice (some ⟨w4.heap.size, 0, none⟩) 1 1) (w4.alloc (.cells #[.string x.path] 9)) rfl rfl (by rfl) (by kernel_rfl) (fun _ => ⟨hS5.row, hR5⟩) ?_
      simp only [Act.put, List.setIfInBounds_toArray, List.set_cons_zero, List.set_cons_succ]
      refine p_wp rfl (by rfl) ?_
      have hown5 := hS5.own
      rw [hlx] at hown5
      refine ap_one (some 33) rfl (.tmp 28) (.tmp 32) rfl (w.heap.size + 3) _ i _ rfl x.path hown5 rfl (by have := hS4.lt; omega) (by omega) ?_
      intro v6 w6 hown6 hg6
      have hg6' : (w4.alloc (.cells #[.string x.path] 9)).grownBy w6 (Value.slice pa i pc).ownBlock := hg6
      have hlt5 := hS5.lt
      have hne6 : ∀ k, k < w.heap.size + 3 → w6.heap[k]? = (w4.alloc (.cells #[.string x.path] 9)).heap[k]? := fun k hk => hg6'.block k (by omega) (fun e => by have := (ownsRow_lt' hown5 k e.symm).2; omega)
      have hrow6 : Row w6 (w.heap.size + 2) #[.slice pa i pc, .slice (some ⟨w.heap.size, 0, none⟩) n n, .map (some (w.heap.size + 1))] 51 := (hne6 _ (by omega)).trans hS5.row
      have hR6 : Row w6 wr.heap.size (infV x ra rc) 33 := (hg6'.block _ hR5.lt (fun e => by
        obtain ⟨C, hC⟩ := ownsRow_row hown5 _ e.symm
        have h1 : (w4.alloc (.cells #[.string x.path] 9)).heap[wr.heap.size]? = _ := hR5
        rw [hC] at h1
        simp only [Option.some.injEq, Obj.cells.injEq] at h1
        exact absurd h1.2.1 (by decide))).trans hR5
      refine ⟨fun _ => ⟨hrow6, hR6⟩, ?_⟩
      have HT : Hid (NSt w n v6 ((L.take i).map (·.path) ++ [x.path]) (w6.setCell ⟨w.heap.size + 2, 0, none⟩ v6)) := hS5.told (by rw [hlx]; exact hown6) hg6'
      obtain ⟨pa6, pc6, rfl⟩ := own_slice hown6
      simp only [Act.put, List.setIfInBounds_toArray, List.set_cons_zero, List.set_cons_succ]
      refine p_alone (some 34) (.pointer (some ⟨w.heap.size + 2, 0, none⟩)) w6 rfl rfl (by rfl) (by go_simp) (fun _ => ⟨hrow6, hR6⟩) ?_
      simp only [Act.put, List.setIfInBounds_toArray, List.set_cons_zero, List.set_cons_succ]
      refine p_alone (some 35) (.pointer (some ⟨w.heap.size + 2, 0, none⟩)) w6 rfl rfl (by rfl) (by go_simp) (fun _ => ⟨hrow6, hR6⟩) ?_
      simp only [Act.put, List.setIfInBounds_toArray, List.set_cons_zero, List.set_cons_succ]
      have q6 := (hrow6.cell 0).trans (rfl : _ = some (Value.slice pa i pc))
      have f6 := hrow6.frozen 0
      refine p_store (w6.setCell ⟨w.heap.size + 2, 0, none⟩ (.slice pa6 (i + 1) pc6)) rfl rfl (by rfl) (by go_simp) (fun h => absurd rfl h) ?_
      refine p_done ?_
      try simp only [Exit.then]
      clear hown5 hown6 hg6 hg6' hne6 hrow6 hR6 q6 f6 hS5 hR5 hS4 hR4 hSd hRd hb4 hb5 hwAd hlt5
      go_wp2
      go_roundw
      case rel =>
        refine ⟨i + 1, .slice pa6 (i + 1) pc6, by go_num, by omega, ?_⟩
        have e : (L.take (i + 1)).map (·.path) = (L.take i).map (·.path) ++ [x.path] := by
          rw [List.take_succ_eq_append_getElem hil, List.map_append, HX.out]
          rfl
        rw [e]
        exact HT.out
      case measure => simp [intOf]; omega
    · obtain rfl : i = n := by omega
      have hlt' : ¬ (i : Int) < (i : Int) := by omega
      have hX : (L.take i).map (·.path) = L.map (·.path) := by rw [List.take_of_length_le (by have := HN.out; omega)]
      rw [hX] at hS
      obtain ⟨X, hXe⟩ : ∃ X, X = L.map (·.path) := ⟨_, rfl⟩
      rw [← hXe] at hS
      have hXl : X.length = i := by rw [hXe, List.length_map]; exact HN.out.symm
      have HXe : Hid _ := hXe
      obtain ⟨pa, pc, rfl⟩ := own_slice hS.own
      have hown1 := hS.own
      rw [hXl, ← map_gb] at hown1
      rw [hXl] at hS
      have hso := sort_own hown1 (by omega)
      have q1 := (hS.row.cell 0).trans (rfl : _ = some (Value.slice pa i pc))
      have HS1 : Hid _ := hS
      clear hXe hX hS hown1 hi hlt
      go_wp2_with fail
      refine hso.mono ?_
      rintro e w2 ⟨⟨r2, rfl⟩, hown2, hg2⟩
      have hown2' : w2.ownsRow (w.heap.size + 3) 9 1 (.slice pa i pc) i ((sortP X).map Value.string) := by
        rw [← map_gb, sortP_gb]
        exact hown2
      have hS2 : NSt w i (.slice pa i pc) (sortP X) w2 := HS1.out.other (by rw [sortP_len]) (by rw [hXl]; exact hown2') hg2
      have HP0 : Hid (∀ x, x ∈ sortP X ↔ x ∈ X) := sortP_mem X
      have HUp : Hid (Up (sortP X) ↔ X.Nodup) := nodup_sort X
      have hcmp := compact_all (l := (sortP X).map gb) (by rw [sortP_gb]; exact sorted_le _)
      rw [← up_iff] at hcmp
      obtain ⟨P, hP⟩ : ∃ P, P = sortP X := ⟨_, rfl⟩
      have hPl : P.length = i := by rw [hP, sortP_len, hXl]
      rw [← hP] at hown2' hS2 HP0 HUp hcmp
      have HCmp : Hid _ := hcmp
      clear hP hcmp hown2 hg2 hso q1 HS1
      have hclo := clone_own hown2' (by omega)
      have q2 := (hS2.row.cell 0).trans (rfl : _ = some (Value.slice pa i pc))
      have HS2 : Hid _ := hS2
      clear hS2 hown2'
      go_wp2_with fail
      refine hclo.mono ?_
      rintro e w3 ⟨v3, rfl, hown3, hb3⟩
      rw [← map_gb] at hown3
      have hco := compact_own hown3 (by omega)
      clear hclo hown3
      go_wp2_with fail
      refine hco.mono ?_
      rintro e w4 ⟨v4, rfl, hown4, hb4⟩
      clear hco
      have hb24 : Below w2.heap.size w2 w4 := hb3.trans hb4
      have hS4 := HS2.out.keep hb24
      obtain ⟨a4, c4, rfl⟩ := own_slice hown4
      obtain ⟨m4, hm4⟩ : ∃ m4, m4 = (Lib.compact (P.map gb)).length := ⟨_, rfl⟩
      have hm4l : m4 ≤ i := by
        have := Lib.compact_length_le (P.map gb)
        rw [List.length_map, hPl] at this
        omega
      have hcm : m4 = i ↔ Up P := by
        have := HCmp.out
        rw [List.length_map, hPl, ← hm4] at this
        exact this
      rw [← hm4]
      have HS4 : Hid _ := hS4
      clear hown4 hm4 hb3 hb4 hb24 HS2 HCmp q2 hS4
      by_cases hmi : m4 < i
      · have hmi' : (m4 : Int) < (i : Int) := by omega
        go_wp2
        go_ret2
        refine ⟨HS4.out.old, .inl ⟨?_, rfl⟩⟩
        unfold ErrThere
        rw [← HXe.out, ← HUp.out, ← hcm]
        omega
      · have hmi' : ¬ (m4 : Int) < (i : Int) := by omega
        have hUp : Up P := hcm.1 (by omega)
        clear hcm hm4l
        have hbd : ∀ y ∈ L, y.path.size ≤ big ∧ y.der.size ≤ big := fun y hy => by
          obtain ⟨t, ht, rfl⟩ := List.getElem_of_mem hy
          obtain ⟨_, _, _, hif, _⟩ := HC.out w (Below.refl _ _) t ht
          exact ⟨hif.path, hif.der⟩
        have HBd : Hid _ := hbd
        have hG0 := HS4.out.start hPl hn hUp (fun y hy => by
          have h1 := (HP0.out y).1 hy
          rw [HXe.out] at h1
          obtain ⟨z, hz, rfl⟩ := List.mem_map.1 h1
          exact (hbd z hz).1)
        have HL0 : Hid (L2 w L P pa pc 0 (List.replicate i ⟨#[]⟩) [] #[] 0 w4) := ⟨HS4.out.old, hG0, by rw [List.length_replicate, hPl], fun x => ⟨(fun h => by cases h), fun ⟨_, h, _⟩ => by simp at h⟩, (fun _ h => by simp at h), (fun _ h => by simp at h)⟩
        have HND : Hid (X.Nodup) := HUp.out.1 hUp
        have HFr : Hid (∀ x, pa = some x → w.heap.size ≤ x.block) := fun x hx => Nat.le_trans (by omega) (own_far HS4.out.own x hx)
        clear hG0 hbd HS4 HUp
        go_wp2
        go_loopw [54] (fun iv wx => ∃ (j : Nat) (dv : List ByteArray) (E : List (Nat × Nat)) (es : Array MapEntry) (ck : Nat), iv = .int .i64 j ∧ j ≤ i ∧ L2 w L P pa pc j dv E es ck wx) (fun iv _ => i - (intOf iv).toNat)
        case atStart => exact ⟨0, _, _, _, _, rfl, Nat.zero_le _, HL0.out⟩
        case round =>
          obtain ⟨j, dv, E, es, ck, rfl, hj, hL2⟩ := hrel
          by_cases hjl : j < i
          · have hjL : j < L.length := by have := HN.out; omega
            obtain rfl := HA.out (by omega)
            obtain ⟨ra, rc, hrg, hif, hif0⟩ := HC.out wr hL2.old j hjL
            have hfar : 0 < L[j].refs.length → ∀ x, ra = some x → x.block ≠ w.heap.size := fun h0 x hx => by
              obtain ⟨rb, ro, h1, h2⟩ := hif0.refs.ex
              have e := h1 h0
              rw [hx] at e
              cases e
              have := World.block_lt_of_cell? _ _ (h2 0 h0)
              simp only at this
              show rb ≠ w.heap.size
              omega
            obtain ⟨y, hy⟩ : ∃ y, y = L[j] := ⟨_, rfl⟩
            rw [← hy] at hrg hif hfar
            have HY : Hid _ := hy
            have HRG : Hid _ := hrg
            have hjl' : (j : Int) < (i : Int) := by omega
            have hsi : (Try.prog.info? 33).map (·.size) = some (infV y ra rc).toList.length := infoI
            have hi33 := infV_size y ra rc
            have hone := infV_one y ra rc
            have hbA : Below wr.heap.size wr (wr.alloc (.cells (infV y ra rc) 33)) := (Below.refl _ _).alloc (Nat.le_refl _) _
            have hRA : Row (wr.alloc (.cells (infV y ra rc) 33)) wr.heap.size (infV y ra rc) 33 := Row.new wr _ _
            have hLA := hL2.keep hbA
            have hifA := hif.keep hbA
            have qA := (hRA.cell 3).trans (rfl : _ = some (Value.slice ra y.refs.length rc))
            have hkn := knows_ok P (w.heap.size + 2) pa pc y.refs ra rc _ hLA.st.cell0 hLA.st.paths hLA.st.up hifA.refs
            have HLA : Hid _ := hLA
            have HRA : Hid _ := hRA
            have HIf : Hid _ := hifA
            have HFar : Hid _ := hfar
            clear hy hrg hif hif0 hfar hL2 hbA hRA hLA hifA
            obtain ⟨kb, hkb⟩ : ∃ kb, kb = y.refs.all fun x => decide (x ∈ P) := ⟨_, rfl⟩
            rw [← hkb] at hkn
            have HKb : Hid _ := hkb
            clear hkb
            go_wp2_with (first
              | (refine wpList_load_mid rfl 33 _ rfl b (off + j * 4) rfl (infV y ra rc).toList _ HRG.out Try.underlying33 rfl hsi ?_)
              | (refine wpList_store_new rfl 33 _ _ rfl wr info00 (infV y ra rc) 33 rfl wr.heap.size rfl rfl rfl hi33 rfl hone ?_))
            refine hkn.mono ?_
            rintro e w6 ⟨rfl, q6, rfl⟩
            clear hkn
            have hb6 : Below (wr.alloc (.cells (infV y ra rc) 33)).heap.size (wr.alloc (.cells (infV y ra rc) 33)) ((wr.alloc (.cells (infV y ra rc) 33)).drewN q6) := ⟨rfl, rfl, rfl, Nat.le_refl _, fun _ _ => rfl⟩
            have hL6 := HLA.out.keep hb6
            cases kb with
            | false =>
              go_wp2
              go_ret2
              refine ⟨hL6.old, .inr (.inl ⟨⟨by rw [← HXe.out]; exact HND.out, ?_⟩, rfl⟩)⟩
              have h1 := HKb.out.symm
              rw [List.all_eq_false] at h1
              obtain ⟨r, hr, h2⟩ := h1
              refine ⟨y, by rw [HY.out]; exact List.getElem_mem _, r, hr, fun h3 => h2 ?_⟩
              rw [← HXe.out, ← HP0.out] at h3
              exact decide_eq_true h3
            | true =>
              have hall : ∀ r ∈ y.refs, r ∈ P := fun r hr => of_decide_eq_true (List.all_eq_true.1 HKb.out.symm r hr)
              have hR6 : Row ((wr.alloc (.cells (infV y ra rc) 33)).drewN q6) wr.heap.size (infV y ra rc) 33 := Row.below HRA.out hb6 (Row.lt HRA.out)
              have hyP : y.path ∈ P := by
                rw [HP0.out, HXe.out, HY.out]
                exact List.mem_map.2 ⟨_, List.getElem_mem _, rfl⟩
              have hput := put_ok P (w.heap.size + 2) (w.heap.size + 1) w.heap.size pa pc dv E es ck y ra rc _ hL6.st (HIf.out.keep hb6) hyP hall hL6.dlen HFar.out
              have HL6 : Hid _ := hL6
              have HR6 : Hid _ := hR6
              have HAl : Hid _ := hall
              clear hL6 hR6 hall hb6
              go_wp2_with (refine wpList_load_row rfl 33 _ rfl wr.heap.size rfl 33 (infV y ra rc) (0, 0) _ HR6.out Try.underlying33 rfl hi33 ?_)
              refine hput.mono ?_
              rintro e w7 hpp
              obtain ⟨⟨r7, rfl⟩, hpp'⟩ := hpp
              have hpp2 : PutPost P (w.heap.size + 2) (w.heap.size + 1) w.heap.size pa pc dv E L[j] ((wr.alloc (.cells (infV y ra rc) 33)).drewN q6) (.returned r7) w7 := by
                rw [← HY.out]
                exact ⟨⟨r7, rfl⟩, hpp'⟩
              obtain ⟨dv7, E7, es7, ck7, hL7⟩ := HL6.out.step hjL (by rw [← HXe.out]; exact HND.out) (by rw [← HY.out]; exact HAl.out) hpp2
              have HL7 : Hid _ := hL7
              clear hput hpp' hpp2 hL7
              go_wp2
              go_roundw
              case rel => exact ⟨j + 1, dv7, E7, es7, ck7, by go_num, by omega, HL7.out⟩
              case measure => simp [intOf]; omega
          · have hjl' : ¬ (j : Int) < (i : Int) := by omega
            obtain rfl : j = i := by omega
            have hfin : L2 w L P pa pc L.length dv E es ck wr := by rw [← HN.out]; exact hL2
            obtain ⟨hGA, hGr⟩ := hfin.far (by omega) (by rw [hPl]; exact HN.out) (fun x => by rw [HP0.out, HXe.out]) (fun y hy => (HBd.out y hy).2) HFr.out
            have HF : Hid (NewPostB L w (.returned (.tuple #[.pointer (some ⟨w.heap.size + 2, 0, none⟩), .int .i64 0])) wr) := ⟨hfin.old, .inr (.inr ⟨⟨by rw [← HXe.out]; exact HND.out, fun y hy r hr => by
              have h1 := hfin.refs y (by rw [List.take_length]; exact hy) r hr
              rw [HP0.out, HXe.out] at h1
              exact h1⟩, w.heap.size + 2, P, dv, E, rfl, hGA, hGr⟩)⟩
            clear hfin hGA hGr hL2
            go_wp2
            go_ret2
            exact HF.out
end Go.Proofs.Ytkbhckjpmgkgjaa
