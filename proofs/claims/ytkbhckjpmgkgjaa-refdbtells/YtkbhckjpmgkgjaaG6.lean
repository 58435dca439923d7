/- My own work: the walk of New. -/
import Derived.Test.YtkbhckjpmgkgjaaG5
import Derived.Test.YtkbhckjpmgkgjaaGAp
import Derived.WideMake
namespace Go.Proofs.Ytkbhckjpmgkgjaa
open Go.RowKit
open Go.ChangeMaps (setBlock)

theorem NSt.other {w wr w' : World} {n : Nat} {pv : Value} {xs ys : List ByteArray} (h : NSt w n pv xs wr) (hl : ys.length = xs.length) (hown : w'.ownsRow (w.heap.size + 3) 9 1 pv xs.length (ys.map Value.string)) (hg : wr.grownBy w' pv.ownBlock) : NSt w n pv ys w' := by
  have ne : ∀ k, k < w.heap.size + 3 → w'.heap[k]? = wr.heap[k]? := fun k hk => hg.block k (by have := h.lt; omega) (fun e => by
    have := (ownsRow_lt' h.own k e.symm).2
    omega)
  exact ⟨h.old.trans ⟨hg.os, hg.tape, hg.output, hg.size, fun k hk => ne k (by omega)⟩, (ne _ (by omega)).trans h.row, (ne _ (by omega)).trans h.der, (ne _ (by omega)).trans h.map, by rw [hl]; exact hown⟩
theorem own_slice {w : World} {base n s : Nat} {e : TypeId} {v : Value} {xs : List Value} (h : w.ownsRow base e s v n xs) : ∃ a c, v = .slice a n c := by
  obtain ⟨_, ⟨h1, h2⟩ | ⟨g, c, cur, h1, _⟩⟩ := h
  · exact ⟨none, 0, by rw [h1, h2]⟩
  · exact ⟨_, c, h1⟩
/-- Where the paths lie. -/
theorem own_strs {w : World} {B n : Nat} {v : Value} {X : List ByteArray} (h : w.ownsRow B 9 1 v n (X.map Value.string)) (hl : X.length * 16 ≤ big) (he : ∀ x ∈ X, x.size ≤ big) : ∃ a c, v = .slice a X.length c ∧ StrsAt w a X c ∧ ∀ x, a = some x → B ≤ x.block := by
  have h' := h
  have hn := h.1
  rw [List.length_map, Nat.mul_one] at hn
  obtain ⟨_, ⟨e1, z1⟩ | ⟨g1, p1, cur1, e1, l1, r1, m1, m2, _⟩⟩ := h
  · have hX : X = [] := List.eq_nil_of_length_eq_zero (by omega)
    subst hX
    exact ⟨none, 0, e1, ⟨⟨0, 0, fun h => absurd h (by simp), fun i hi => absurd hi (by simp)⟩, fun _ => ⟨rfl, rfl⟩, Nat.le_refl _, by unfold maxLen; omega, Nat.zero_le _, fun x hx => by cases hx⟩, fun x hx => by cases hx⟩
  · subst e1
    refine ⟨_, p1, by rw [hn], ⟨⟨g1, 0, fun _ => rfl, fun i hi => ?_⟩, (fun h => nomatch h), by omega, m2, hl, he⟩, fun x hx => by cases hx; exact l1⟩
    rw [Nat.zero_add, h'.cellAt i (by omega), List.getElem?_map, List.getElem?_eq_getElem hi]
    rfl
theorem ownsRow_row {w : World} {base n s : Nat} {e : TypeId} {v : Value} {xs : List Value} (h : w.ownsRow base e s v n xs) : ∀ k, v.ownBlock = some k → ∃ C, w.heap[k]? = some (.cells C e (0, 0)) := fun k hk => by
  obtain ⟨_, ⟨rfl, _⟩ | ⟨g, c, cur, rfl, h2, e3, _⟩⟩ := h
  · cases hk
  · simp [Value.ownBlock] at hk
    subst hk
    exact ⟨cur, e3⟩
/-- One text is appended to a row of one's own. -/
theorem ap_one {w : World} {o : Oper} {a : Act} {K : Act → World → Prop} {Q : Exit → Act → World → Prop} (dd : Option Tmp) (hdd : o.dst = dd) (s x : Operand) (ho : o.op = .call { callee := .builtin .append, args := #[s, x], argTypes := #[23, 23] }) (B : Nat) (v : Value) (n : Nat) (xs : List Value) (hs : a.eval s = v) (t : ByteArray) (hown : (w.alloc (.cells #[.string t] 9)).ownsRow B 9 1 v n xs) (hx : a.eval x = .slice (some ⟨w.heap.size, 0, none⟩) 1 1) (hB : B ≤ w.heap.size) (hby : (n + 1) * 16 ≤ 140737488355328)
    (h : ∀ v' w', w'.ownsRow B 9 1 v' (n + 1) (xs ++ [.string t]) → (w.alloc (.cells #[.string t] 9)).grownBy w' v.ownBlock → K (a.put dd v') w') : o.wp Try.prog a (w.alloc (.cells #[.string t] 9)) K Q := by
  refine wp_append_any dd hdd s x 23 9 (.string ⟨#[]⟩) 1 16 Try.underlying23 info9 rfl (by decide) ho B v n xs hs hown (some ⟨w.heap.size, 0, none⟩) w.heap.size 0 1 1 [.string t] rfl hx (fun _ => rfl) (fun j u hj => ?_) (fun u hu => ?_) (fun h => nomatch h) (by unfold maxLen; omega) hby (by simp; omega) (fun v' w' h1 h2 _ => h v' w' h1 h2)
  · cases j with
    | zero => simp at hj; subst hj; exact (Row.cell (Row.new w #[.string t] 9) 0).trans rfl
    | succ j => simp at hj
  · simp at hu; subst hu; rfl
theorem NSt.start {w w4 : World} {n : Nat} {pa : Option Addr} {pc : Nat} {P : List ByteArray} (h : NSt w n (.slice pa n pc) P w4) (hl : P.length = n) (hn : n ≤ 4096) (hu : Up P) (he : ∀ x ∈ P, x.size ≤ big) : GSt w4 (w.heap.size + 2) (w.heap.size + 1) w.heap.size pa pc P (List.replicate n ⟨#[]⟩) [] #[] 0 := by
  obtain ⟨a', c', e1, hS, hf⟩ := own_strs (X := P) h.own (by unfold big; omega) he
  simp only [Value.slice.injEq] at e1
  obtain ⟨rfl, _, rfl⟩ := e1
  refine ⟨?_, hS, fun x hx => ?_, ?_, ⟨h.map, rfl, (fun e he => by cases he), List.nodup_nil, (fun e he => by cases he)⟩, hu, List.nodup_nil⟩
  · rw [hl, List.length_replicate]
    exact h.row
  · have := hf x hx
    omega
  · have e : (madeCells #[.string ⟨#[]⟩] n) = ((List.replicate n (⟨#[]⟩ : ByteArray)).map Value.string).toArray := by
      apply Array.toList_inj.1
      rw [toList_madeCells_one, List.map_replicate]
    rw [← e]
    exact h.der
/-- What holds behind j infos. -/
structure L2 (w : World) (L : List Inf) (P : List ByteArray) (pa : Option Addr) (pc j : Nat) (dv : List ByteArray) (E : List (Nat × Nat)) (es : Array MapEntry) (clk : Nat) (wr : World) : Prop where
  old : Below w.heap.size w wr
  st : GSt wr (w.heap.size + 2) (w.heap.size + 1) w.heap.size pa pc P dv E es clk
  dlen : dv.length = P.length
  edge : ∀ x : Nat × Nat, x ∈ E ↔ ∃ i ∈ L.take j, P[x.1]? = some i.path ∧ ∃ r ∈ i.refs, P[x.2]? = some r
  der : ∀ i ∈ L.take j, ∀ k : Nat, P[k]? = some i.path → dv[k]? = some i.der
  refs : ∀ i ∈ L.take j, ∀ r ∈ i.refs, r ∈ P
theorem L2.keep {w wr w' : World} {L : List Inf} {P : List ByteArray} {pa : Option Addr} {pc j : Nat} {dv : List ByteArray} {E : List (Nat × Nat)} {es : Array MapEntry} {clk : Nat} (h : L2 w L P pa pc j dv E es clk wr) (hb : Below wr.heap.size wr w') : L2 w L P pa pc j dv E es clk w' := ⟨h.old.trans (hb.mono h.old.size), h.st.keep hb, h.dlen, h.edge, h.der, h.refs⟩
theorem Chg.below {w A B : World} (h : Chg w.heap.size (w.heap.size + 1) A B) (hb : Below w.heap.size w A) : Below w.heap.size w B := hb.trans ⟨h.os, h.tape, h.output, h.size, fun k hk => h.blk k (by have := hb.size; omega) (by omega) (by omega)⟩
theorem L2.step {w wr w' : World} {L : List Inf} {P : List ByteArray} {pa : Option Addr} {pc j : Nat} {dv : List ByteArray} {E : List (Nat × Nat)} {es : Array MapEntry} {clk : Nat} (h : L2 w L P pa pc j dv E es clk wr) (hj : j < L.length) (hnd : (L.map (·.path)).Nodup) (hrf : ∀ r ∈ L[j].refs, r ∈ P) {e : Ending} (hp : PutPost P (w.heap.size + 2) (w.heap.size + 1) w.heap.size pa pc dv E L[j] wr e w') : ∃ dv' E' es' clk', L2 w L P pa pc (j + 1) dv' E' es' clk' w' := by
  obtain ⟨_, hc, k, E', es', clk', hk, hG, hE⟩ := hp
  have htk : L.take (j + 1) = L.take j ++ [L[j]] := List.take_succ_eq_append_getElem hj
  refine ⟨_, E', es', clk', hc.below h.old, hG, by rw [List.length_set]; exact h.dlen, fun x => ?_, fun i hi k' hk' => ?_, fun i hi r hr => ?_⟩
  · rw [hE, h.edge, htk]
    constructor
    · rintro (⟨i, hi, h1, h2⟩ | ⟨h1, h2⟩)
      · exact ⟨i, List.mem_append_left _ hi, h1, h2⟩
      · exact ⟨L[j], List.mem_append_right _ (List.mem_singleton.2 rfl), by rw [h1]; exact hk, h2⟩
    · rintro ⟨i, hi, h1, h2⟩
      rcases List.mem_append.1 hi with hi | hi
      · exact .inl ⟨i, hi, h1, h2⟩
      · rw [List.mem_singleton] at hi
        subst hi
        exact .inr ⟨hG.up.inj h1 hk, h2⟩
  · rw [htk] at hi
    have hkl : k < dv.length := by
      have := (List.getElem?_eq_some_iff.1 hk).1
      rw [h.dlen]
      exact this
    rcases List.mem_append.1 hi with hi | hi
    · have hne : k ≠ k' := fun e => by
        subst e
        have hpe : i.path = L[j].path := Option.some.inj (hk'.symm.trans hk)
        obtain ⟨t, ht, rfl⟩ := List.getElem_of_mem hi
        rw [List.length_take] at ht
        have h1 := List.pairwise_iff_getElem.1 hnd t j (by rw [List.length_map]; omega) (by rw [List.length_map]; omega) (by omega)
        simp only [List.getElem_map] at h1
        rw [List.getElem_take] at hpe
        exact h1 hpe
      rw [List.getElem?_set_ne hne]
      exact h.der i hi k' hk'
    · rw [List.mem_singleton] at hi
      subst hi
      obtain rfl := hG.up.inj hk' hk
      rw [List.getElem?_set_self hkl]
  · rw [htk] at hi
    rcases List.mem_append.1 hi with hi | hi
    · exact h.refs i hi r hr
    · rw [List.mem_singleton] at hi
      subst hi
      exact hrf r hr
/-- The graph that is made. -/
theorem L2.made {w wr : World} {L : List Inf} {P : List ByteArray} {pa : Option Addr} {pc : Nat} {dv : List ByteArray} {E : List (Nat × Nat)} {es : Array MapEntry} {clk : Nat} (h : L2 w L P pa pc L.length dv E es clk wr) (hn : P.length ≤ 4096) (hl : P.length = L.length) (hm : ∀ x, x ∈ P ↔ x ∈ L.map (·.path)) (hb : ∀ i ∈ L, i.der.size ≤ big) : GAt wr (w.heap.size + 2) P dv E ∧ Gr L P dv E := by
  have htk : L.take L.length = L := List.take_length
  refine ⟨⟨⟨pa, pc, some ⟨w.heap.size, 0, none⟩, dv.length, w.heap.size + 1, es, clk, h.st.row, h.st.paths, ⟨⟨w.heap.size, 0, fun _ => rfl, fun i hi => ?_⟩, (fun e => nomatch e), Nat.le_refl _, ?_, ?_, fun x hx => ?_⟩, h.st.edges⟩, h.st.up, h.st.nd⟩, hl, hm, h.dlen, ?_, ?_⟩
  · rw [Nat.zero_add, h.st.der.cell i]
    simp [hi]
  · have := h.dlen
    unfold maxLen
    omega
  · have := h.dlen
    unfold big
    omega
  · obtain ⟨k, hk, rfl⟩ := List.getElem_of_mem hx
    have hkP : k < P.length := by rw [← h.dlen]; exact hk
    have hPk := (hm P[k]).1 (List.getElem_mem hkP)
    obtain ⟨i, hi, e⟩ := List.mem_map.1 hPk
    have h1 := h.der i (by rw [htk]; exact hi) k (by rw [List.getElem?_eq_getElem hkP, e])
    rw [List.getElem?_eq_getElem hk] at h1
    rw [Option.some.inj h1]
    exact hb i hi
  · have := h.edge
    rw [htk] at this
    exact this
  · have := h.der
    rw [htk] at this
    exact this
set_option maxRecDepth 20000 in
set_option maxHeartbeats 8000000 in
theorem new_ok (L : List Inf) (a : Option Addr) (c : Nat) (w : World) (h : LsAt w a L c) (hn : L.length ≤ 4096) : Calls Try.prog 6 #[.slice a L.length c] w (NewPost L w) := by
  have hmk := run_make_row' (P := Try.prog) 23 9 (.string ⟨#[]⟩) 16 Try.underlying23 info9 rfl .i64 .i64 L.length (by omega) (by omega) w
  have hmm := run_makeMap_plain (P := Try.prog) (w.alloc (.cells (madeCells #[.string ⟨#[]⟩] L.length) 9)) 49
  obtain ⟨b, off, ha, hc⟩ := h.ex
  have hle := h.le
  have HL : Hid (LsAt w a L c) := h
  have HA : Hid _ := ha
  have HC : Hid (∀ wx, Below w.heap.size w wx → ∀ i (h : i < L.length), ∃ ra rc, wx.rangeAt b (off + i * 4) (infV L[i] ra rc).toList ∧ InfAt wx L[i] ra rc ∧ InfAt w L[i] ra rc) := fun wx hx i hi => by
    obtain ⟨ra, rc, h3, h4⟩ := hc i hi
    exact ⟨ra, rc, rangeAt_keep h3 hx, h4.keep hx, h4⟩
  obtain ⟨n, hN⟩ : ∃ n, n = L.length := ⟨_, rfl⟩
  rw [← hN] at hmk hmm hn hle
  rw [← hN]
  have HN : Hid _ := hN
  have HS0 : Hid (NSt w n (.slice none 0 0) [] (((w.alloc (.cells (madeCells #[.string ⟨#[]⟩] n) 9)).alloc (.map #[] 0)).alloc (.cells #[.slice none 0 0, .slice (some ⟨w.heap.size, 0, none⟩) n n, .map (some (w.heap.size + 1))] 51))) := by
    refine ⟨(((Below.refl _ _).alloc (Nat.le_refl _) _).alloc (by simp) _).alloc (by simp; omega) _, ?_, ?_, ?_, World.ownsRow_nil _ _ _ _⟩
    · have e := Row.new ((w.alloc (.cells (madeCells #[.string ⟨#[]⟩] n) 9)).alloc (.map #[] 0)) #[.slice none 0 0, .slice (some ⟨w.heap.size, 0, none⟩) n n, .map (some (w.heap.size + 1))] 51
      simpa using e
    · exact ((Row.new w (madeCells #[.string ⟨#[]⟩] n) 9).alloc _).alloc _
    · have e := heap_alloc_new (w.alloc (.cells (madeCells #[.string ⟨#[]⟩] n) 9)) (.map #[] 0)
      rw [World.size_alloc] at e
      exact (Below.heap_alloc _ _ _ (by simp)).trans e
  clear h ha hc hN
  have hn' : ¬ (4096 : Int) < (n : Int) := by omega
  go_enter Try.func6, Try.ntmps6
  go_wp2
  clear hmk hmm
  go_loopw [20] (fun iv wr => ∃ (i : Nat) (pv : Value), iv = .int .i64 i ∧ i ≤ n ∧ NSt w n pv ((L.take i).map (·.path)) wr) (fun iv _ => n - (intOf iv).toNat)
  case atStart => exact ⟨0, _, rfl, Nat.zero_le _, HS0.out⟩
  case round =>
    obtain ⟨i, pv, rfl, hi, hS⟩ := hrel
    by_cases hlt : i < n
    · have hil : i < L.length := by have := HN.out; omega
      obtain rfl := HA.out (by omega)
      obtain ⟨ra, rc, hrg, hif, _⟩ := HC.out wr hS.old i hil
      obtain ⟨x, hx⟩ : ∃ x, x = L[i] := ⟨_, rfl⟩
      rw [← hx] at hrg hif
      have HX : Hid _ := hx
      have HRG : Hid _ := hrg
      have hpb := hif.path
      unfold big at hpb
      obtain ⟨pa, pc, rfl⟩ := own_slice hS.own
      have hlt' : (i : Int) < (n : Int) := by omega
      have hsi : (Try.prog.info? 33).map (·.size) = some (infV x ra rc).toList.length := infoI
      have hlx : ((L.take i).map (·.path)).length = i := by rw [List.length_map, List.length_take]; omega
      have hbA : Below wr.heap.size wr (wr.alloc (.cells (infV x ra rc) 33)) := (Below.refl _ _).alloc (Nat.le_refl _) _
      have hSA := hS.keep hbA
      have HSA : Hid _ := hSA
      have HRA : Hid (Row (wr.alloc (.cells (infV x ra rc) 33)) wr.heap.size (infV x ra rc) 33) := Row.new wr _ _
      have hcl := clone_ok x.path
      have hi33 := infV_size x ra rc
      have hone := infV_one x ra rc
      rw [hlx] at HSA hSA
      clear hx hrg hif hS hbA
      generalize hwA : wr.alloc (.cells (infV x ra rc) 33) = wA at *
      go_wp2_with (first
        | (refine wpList_load_mid rfl 33 _ rfl b (off + i * 4) rfl (infV x ra rc).toList _ HRG.out Try.underlying33 rfl hsi ?_)
        | (refine wpList_store_new rfl 33 _ _ rfl wr info00 (infV x ra rc) 33 rfl wr.heap.size rfl rfl rfl hi33 rfl hone ?_))
      have hwAd : Below wA.heap.size wA wA.drew := (Below.refl _ _).drew
      have hSd := HSA.out.keep hwAd
      have hRd : Row wA.drew wr.heap.size (infV x ra rc) 33 := Row.below HRA.out hwAd (Row.lt HRA.out)
      have hsz := hSd.lt
      have hszA : wr.heap.size < wA.heap.size := Row.lt HRA.out
      refine wp_region_perm [(false, 0), (false, 1), (false, 2), (false, 3), (false, 4), (false, 5), (false, 6), (true, 7), (true, 8), (true, 9), (true, 10), (true, 11), (true, 12)] (fun wx => Row wx (w.heap.size + 2) #[.slice pa i pc, .slice (some ⟨w.heap.size, 0, none⟩) n n, .map (some (w.heap.size + 1))] 51 ∧ Row wx wr.heap.size (infV x ra rc) 33) (by kernel_rfl) (by kernel_rfl) ⟨hSd.row, hRd⟩ ?_
      refine p_value (some 24) (.pointer (some ⟨w.heap.size + 2, 0, none⟩)) rfl rfl (by rfl) (fun wx hw => ?_) ?_
      · go_simp
      simp only [Act.put, List.setIfInBounds_toArray, List.set_cons_zero, List.set_cons_succ]
      refine p_value (some 25) (.pointer (some ⟨w.heap.size + 2, 0, none⟩)) rfl rfl (by rfl) (fun wx hw => ?_) ?_
      · go_simp
      simp only [Act.put, List.setIfInBounds_toArray, List.set_cons_zero, List.set_cons_succ]
      refine p_value (some 26) (.pointer (some ⟨w.heap.size + 2, 0, none⟩)) rfl rfl (by rfl) (fun wx hw => ?_) ?_
      · go_simp
      simp only [Act.put, List.setIfInBounds_toArray, List.set_cons_zero, List.set_cons_succ]
      refine p_value (some 27) (.pointer (some ⟨w.heap.size + 2, 0, none⟩)) rfl rfl (by rfl) (fun wx hw => ?_) ?_
      · go_simp
      simp only [Act.put, List.setIfInBounds_toArray, List.set_cons_zero, List.set_cons_succ]
      refine p_value (some 28) (.slice pa i pc) rfl rfl (by rfl) (fun wx hw => ?_) ?_
      · have hc0 := (hw.1.cell 0).trans (rfl : _ = some (Value.slice pa i pc))
        go_simp
      simp only [Act.put, List.setIfInBounds_toArray, List.set_cons_zero, List.set_cons_succ]
      refine p_value (some 29) (.pointer (some ⟨wr.heap.size, 0, none⟩)) rfl rfl (by rfl) (fun wx hw => ?_) ?_
      · go_simp
      simp only [Act.put, List.setIfInBounds_toArray, List.set_cons_zero, List.set_cons_succ]
      refine p_value (some 30) (.string x.path) rfl rfl (by rfl) (fun wx hw => ?_) ?_
      · have hc0 := (hw.2.cell 0).trans (rfl : _ = some (Value.string x.path))
        go_simp
      simp only [Act.put, List.setIfInBounds_toArray, List.set_cons_zero, List.set_cons_succ]
      refine p_call (some 31) rfl rfl (by rfl) 21 #[.string x.path] (by kernel_rfl) ?_
      refine (hcl wA.drew (by omega)).mono ?_
      rintro e w4 ⟨rfl, hb4⟩
      have hS4 := hSd.keep hb4
      have hR4 : Row w4 wr.heap.size (infV x ra rc) 33 := hRd.below hb4 hRd.lt
      refine ⟨_, rfl, fun _ => ⟨hS4.row, hR4⟩, ?_⟩
      simp only [Act.put, List.setIfInBounds_toArray, List.set_cons_zero, List.set_cons_succ]
      have hb5 : Below w4.heap.size w4 (w4.alloc (.cells #[.string x.path] 9)) := (Below.refl _ _).alloc (Nat.le_refl _) _
      have hS5 := hS4.keep hb5
      have hR5 : Row (w4.alloc (.cells #[.string x.path] 9)) wr.heap.size (infV x ra rc) 33 := hR4.below hb5 hR4.lt
      refine p_alone (some 32) (.slice (some ⟨w4.heap.size, 0, none⟩) 1 1) (w4.alloc (.cells #[.string x.path] 9)) rfl rfl (by rfl) (by kernel_rfl) (fun _ => ⟨hS5.row, hR5⟩) ?_
      simp only [Act.put, List.setIfInBounds_toArray, List.set_cons_zero, List.set_cons_succ]
      refine p_wp rfl (by rfl) ?_
      have hown5 := hS5.own
      rw [hlx] at hown5
      refine ap_one (some 33) rfl (.tmp 28) (.tmp 32) rfl (w.heap.size + 3) _ i _ rfl x.path hown5 rfl (by have := hS4.lt; omega) (by omega) ?_
      intro v6 w6 hown6 hg6
      have hg6' : (w4.alloc (.cells #[.string x.path] 9)).grownBy w6 (Value.slice pa i pc).ownBlock := hg6
      have hlt5 := hS5.lt
      have hne6 : ∀ k, k < w.heap.size + 3 → w6.heap[k]? = (w4.alloc (.cells #[.string x.path] 9)).heap[k]? := fun k hk => hg6'.block k (by omega) (fun e => by have := (ownsRow_lt' hown5 k e.symm).2; omega)
      have hrow6 : Row w6 (w.heap.size + 2) #[.slice pa i pc, .slice (some ⟨w.heap.size, 0, none⟩) n n, .map (some (w.heap.size + 1))] 51 := (hne6 _ (by omega)).trans hS5.row
      have hR6 : Row w6 wr.heap.size (infV x ra rc) 33 := (hg6'.block _ hR5.lt (fun e => by
        obtain ⟨C, hC⟩ := ownsRow_row hown5 _ e.symm
        have h1 : (w4.alloc (.cells #[.string x.path] 9)).heap[wr.heap.size]? = _ := hR5
        rw [hC] at h1
        simp only [Option.some.injEq, Obj.cells.injEq] at h1
        exact absurd h1.2.1 (by decide))).trans hR5
      refine ⟨fun _ => ⟨hrow6, hR6⟩, ?_⟩
      have HT : Hid (NSt w n v6 ((L.take i).map (·.path) ++ [x.path]) (w6.setCell ⟨w.heap.size + 2, 0, none⟩ v6)) := hS5.told (by rw [hlx]; exact hown6) hg6'
      obtain ⟨pa6, pc6, rfl⟩ := own_slice hown6
      simp only [Act.put, List.setIfInBounds_toArray, List.set_cons_zero, List.set_cons_succ]
      refine p_alone (some 34) (.pointer (some ⟨w.heap.size + 2, 0, none⟩)) w6 rfl rfl (by rfl) (by go_simp) (fun _ => ⟨hrow6, hR6⟩) ?_
      simp only [Act.put, List.setIfInBounds_toArray, List.set_cons_zero, List.set_cons_succ]
      refine p_alone (some 35) (.pointer (some ⟨w.heap.size + 2, 0, none⟩)) w6 rfl rfl (by rfl) (by go_simp) (fun _ => ⟨hrow6, hR6⟩) ?_
      simp only [Act.put, List.setIfInBounds_toArray, List.set_cons_zero, List.set_cons_succ]
      have q6 := (hrow6.cell 0).trans (rfl : _ = some (Value.slice pa i pc))
      have f6 := hrow6.frozen 0
      refine p_store (w6.setCell ⟨w.heap.size + 2, 0, none⟩ (.slice pa6 (i + 1) pc6)) rfl rfl (by rfl) (by go_simp) (fun h => absurd rfl h) ?_
      refine p_done ?_
      try simp only [Exit.then]
      clear hown5 hown6 hg6 hg6' hne6 hrow6 hR6 q6 f6 hS5 hR5 hS4 hR4 hSd hRd hb4 hb5 hwAd hlt5
      go_wp2
      go_roundw
      case rel =>
        refine ⟨i + 1, .slice pa6 (i + 1) pc6, by go_num, by omega, ?_⟩
        have e : (L.take (i + 1)).map (·.path) = (L.take i).map (·.path) ++ [x.path] := by
          rw [List.take_succ_eq_append_getElem hil, List.map_append, HX.out]
          rfl
        rw [e]
        exact HT.out
      case measure => simp [intOf]; omega
    · obtain rfl : i = n := by omega
      have hlt' : ¬ (i : Int) < (i : Int) := by omega
      have hX : (L.take i).map (·.path) = L.map (·.path) := by rw [List.take_of_length_le (by have := HN.out; omega)]
      rw [hX] at hS
      obtain ⟨X, hXe⟩ : ∃ X, X = L.map (·.path) := ⟨_, rfl⟩
      rw [← hXe] at hS
      have hXl : X.length = i := by rw [hXe, List.length_map]; exact HN.out.symm
      have HXe : Hid _ := hXe
      obtain ⟨pa, pc, rfl⟩ := own_slice hS.own
      have hown1 := hS.own
      rw [hXl, ← map_gb] at hown1
      rw [hXl] at hS
      have hso := sort_own hown1 (by omega)
      have q1 := (hS.row.cell 0).trans (rfl : _ = some (Value.slice pa i pc))
      have HS1 : Hid _ := hS
      clear hXe hX hS hown1 hi hlt
      go_wp2_with fail
      refine hso.mono ?_
      rintro e w2 ⟨⟨r2, rfl⟩, hown2, hg2⟩
      have hown2' : w2.ownsRow (w.heap.size + 3) 9 1 (.slice pa i pc) i ((sortP X).map Value.string) := by
        rw [← map_gb, sortP_gb]
        exact hown2
      have hS2 : NSt w i (.slice pa i pc) (sortP X) w2 := HS1.out.other (by rw [sortP_len]) (by rw [hXl]; exact hown2') hg2
      have HP0 : Hid (∀ x, x ∈ sortP X ↔ x ∈ X) := sortP_mem X
      have HUp : Hid (Up (sortP X) ↔ X.Nodup) := nodup_sort X
      have hcmp := compact_all (l := (sortP X).map gb) (by rw [sortP_gb]; exact sorted_le _)
      rw [← up_iff] at hcmp
      obtain ⟨P, hP⟩ : ∃ P, P = sortP X := ⟨_, rfl⟩
      have hPl : P.length = i := by rw [hP, sortP_len, hXl]
      rw [← hP] at hown2' hS2 HP0 HUp hcmp
      have HCmp : Hid _ := hcmp
      clear hP hcmp hown2 hg2 hso q1 HS1
      have hclo := clone_own hown2' (by omega)
      have q2 := (hS2.row.cell 0).trans (rfl : _ = some (Value.slice pa i pc))
      have HS2 : Hid _ := hS2
      clear hS2 hown2'
      go_wp2_with fail
      refine hclo.mono ?_
      rintro e w3 ⟨v3, rfl, hown3, hb3⟩
      rw [← map_gb] at hown3
      have hco := compact_own hown3 (by omega)
      clear hclo hown3
      go_wp2_with fail
      refine hco.mono ?_
      rintro e w4 ⟨v4, rfl, hown4, hb4⟩
      clear hco
      have hb24 : Below w2.heap.size w2 w4 := hb3.trans hb4
      have hS4 := HS2.out.keep hb24
      obtain ⟨a4, c4, rfl⟩ := own_slice hown4
      obtain ⟨m4, hm4⟩ : ∃ m4, m4 = (Lib.compact (P.map gb)).length := ⟨_, rfl⟩
      have hm4l : m4 ≤ i := by
        have := Lib.compact_length_le (P.map gb)
        rw [List.length_map, hPl] at this
        omega
      have hcm : m4 = i ↔ Up P := by
        have := HCmp.out
        rw [List.length_map, hPl, ← hm4] at this
        exact this
      rw [← hm4]
      have HS4 : Hid _ := hS4
      clear hown4 hm4 hb3 hb4 hb24 HS2 HCmp q2 hS4
      by_cases hmi : m4 < i
      · have hmi' : (m4 : Int) < (i : Int) := by omega
        go_wp2
        go_ret2
        refine ⟨HS4.out.old, .inl ⟨?_, rfl⟩⟩
        unfold ErrThere
        rw [← HXe.out, ← HUp.out, ← hcm]
        omega
      · have hmi' : ¬ (m4 : Int) < (i : Int) := by omega
        have hUp : Up P := hcm.1 (by omega)
        clear hcm hm4l
        have hbd : ∀ y ∈ L, y.path.size ≤ big ∧ y.der.size ≤ big := fun y hy => by
          obtain ⟨t, ht, rfl⟩ := List.getElem_of_mem hy
          obtain ⟨_, _, _, hif, _⟩ := HC.out w (Below.refl _ _) t ht
          exact ⟨hif.path, hif.der⟩
        have HBd : Hid _ := hbd
        have hG0 := HS4.out.start hPl hn hUp (fun y hy => by
          have h1 := (HP0.out y).1 hy
          rw [HXe.out] at h1
          obtain ⟨z, hz, rfl⟩ := List.mem_map.1 h1
          exact (hbd z hz).1)
        have HL0 : Hid (L2 w L P pa pc 0 (List.replicate i ⟨#[]⟩) [] #[] 0 w4) := ⟨HS4.out.old, hG0, by rw [List.length_replicate, hPl], fun x => ⟨(fun h => by cases h), fun ⟨_, h, _⟩ => by simp at h⟩, (fun _ h => by simp at h), (fun _ h => by simp at h)⟩
        have HND : Hid (X.Nodup) := HUp.out.1 hUp
        clear hG0 hbd HS4 HUp
        go_wp2
        go_loopw [54] (fun iv wx => ∃ (j : Nat) (dv : List ByteArray) (E : List (Nat × Nat)) (es : Array MapEntry) (ck : Nat), iv = .int .i64 j ∧ j ≤ i ∧ L2 w L P pa pc j dv E es ck wx) (fun iv _ => i - (intOf iv).toNat)
        case atStart => exact ⟨0, _, _, _, _, rfl, Nat.zero_le _, HL0.out⟩
        case round =>
          obtain ⟨j, dv, E, es, ck, rfl, hj, hL2⟩ := hrel
          by_cases hjl : j < i
          · have hjL : j < L.length := by have := HN.out; omega
            obtain rfl := HA.out (by omega)
            obtain ⟨ra, rc, hrg, hif, hif0⟩ := HC.out wr hL2.old j hjL
            have hfar : 0 < L[j].refs.length → ∀ x, ra = some x → x.block ≠ w.heap.size := fun h0 x hx => by
              obtain ⟨rb, ro, h1, h2⟩ := hif0.refs.ex
              have e := h1 h0
              rw [hx] at e
              cases e
              have := World.block_lt_of_cell? _ _ (h2 0 h0)
              simp only at this
              show rb ≠ w.heap.size
              omega
            obtain ⟨y, hy⟩ : ∃ y, y = L[j] := ⟨_, rfl⟩
            rw [← hy] at hrg hif hfar
            have HY : Hid _ := hy
            have HRG : Hid _ := hrg
            have hjl' : (j : Int) < (i : Int) := by omega
            have hsi : (Try.prog.info? 33).map (·.size) = some (infV y ra rc).toList.length := infoI
            have hi33 := infV_size y ra rc
            have hone := infV_one y ra rc
            have hbA : Below wr.heap.size wr (wr.alloc (.cells (infV y ra rc) 33)) := (Below.refl _ _).alloc (Nat.le_refl _) _
            have hRA : Row (wr.alloc (.cells (infV y ra rc) 33)) wr.heap.size (infV y ra rc) 33 := Row.new wr _ _
            have hLA := hL2.keep hbA
            have hifA := hif.keep hbA
            have qA := (hRA.cell 3).trans (rfl : _ = some (Value.slice ra y.refs.length rc))
            have hkn := knows_ok P (w.heap.size + 2) pa pc y.refs ra rc _ hLA.st.cell0 hLA.st.paths hLA.st.up hifA.refs
            have HLA : Hid _ := hLA
            have HRA : Hid _ := hRA
            have HIf : Hid _ := hifA
            have HFar : Hid _ := hfar
            clear hy hrg hif hif0 hfar hL2 hbA hRA hLA hifA
            obtain ⟨kb, hkb⟩ : ∃ kb, kb = y.refs.all fun x => decide (x ∈ P) := ⟨_, rfl⟩
            rw [← hkb] at hkn
            have HKb : Hid _ := hkb
            clear hkb
            go_wp2_with (first
              | (refine wpList_load_mid rfl 33 _ rfl b (off + j * 4) rfl (infV y ra rc).toList _ HRG.out Try.underlying33 rfl hsi ?_)
              | (refine wpList_store_new rfl 33 _ _ rfl wr info00 (infV y ra rc) 33 rfl wr.heap.size rfl rfl rfl hi33 rfl hone ?_))
            refine hkn.mono ?_
            rintro e w6 ⟨rfl, q6, rfl⟩
            clear hkn
            have hb6 : Below (wr.alloc (.cells (infV y ra rc) 33)).heap.size (wr.alloc (.cells (infV y ra rc) 33)) ((wr.alloc (.cells (infV y ra rc) 33)).drewN q6) := ⟨rfl, rfl, rfl, Nat.le_refl _, fun _ _ => rfl⟩
            have hL6 := HLA.out.keep hb6
            cases kb with
            | false =>
              go_wp2
              go_ret2
              refine ⟨hL6.old, .inr (.inl ⟨⟨by rw [← HXe.out]; exact HND.out, ?_⟩, rfl⟩)⟩
              have h1 := HKb.out.symm
              rw [List.all_eq_false] at h1
              obtain ⟨r, hr, h2⟩ := h1
              refine ⟨y, by rw [HY.out]; exact List.getElem_mem _, r, hr, fun h3 => h2 ?_⟩
              rw [← HXe.out, ← HP0.out] at h3
              exact decide_eq_true h3
            | true =>
              have hall : ∀ r ∈ y.refs, r ∈ P := fun r hr => of_decide_eq_true (List.all_eq_true.1 HKb.out.symm r hr)
              have hR6 : Row ((wr.alloc (.cells (infV y ra rc) 33)).drewN q6) wr.heap.size (infV y ra rc) 33 := Row.below HRA.out hb6 (Row.lt HRA.out)
              have hyP : y.path ∈ P := by
                rw [HP0.out, HXe.out, HY.out]
                exact List.mem_map.2 ⟨_, List.getElem_mem _, rfl⟩
              have hput := put_ok P (w.heap.size + 2) (w.heap.size + 1) w.heap.size pa pc dv E es ck y ra rc _ hL6.st (HIf.out.keep hb6) hyP hall hL6.dlen HFar.out
              have HL6 : Hid _ := hL6
              have HR6 : Hid _ := hR6
              have HAl : Hid _ := hall
              clear hL6 hR6 hall hb6
              go_wp2_with (refine wpList_load_row rfl 33 _ rfl wr.heap.size rfl 33 (infV y ra rc) (0, 0) _ HR6.out Try.underlying33 rfl hi33 ?_)
              refine hput.mono ?_
              rintro e w7 hpp
              obtain ⟨⟨r7, rfl⟩, hpp'⟩ := hpp
              have hpp2 : PutPost P (w.heap.size + 2) (w.heap.size + 1) w.heap.size pa pc dv E L[j] ((wr.alloc (.cells (infV y ra rc) 33)).drewN q6) (.returned r7) w7 := by
                rw [← HY.out]
                exact ⟨⟨r7, rfl⟩, hpp'⟩
              obtain ⟨dv7, E7, es7, ck7, hL7⟩ := HL6.out.step hjL (by rw [← HXe.out]; exact HND.out) (by rw [← HY.out]; exact HAl.out) hpp2
              have HL7 : Hid _ := hL7
              clear hput hpp' hpp2 hL7
              go_wp2
              go_roundw
              case rel => exact ⟨j + 1, dv7, E7, es7, ck7, by go_num, by omega, HL7.out⟩
              case measure => simp [intOf]; omega
          · have hjl' : ¬ (j : Int) < (i : Int) := by omega
            obtain rfl : j = i := by omega
            have hfin : L2 w L P pa pc L.length dv E es ck wr := by rw [← HN.out]; exact hL2
            obtain ⟨hGA, hGr⟩ := hfin.made (by omega) (by rw [hPl]; exact HN.out) (fun x => by rw [HP0.out, HXe.out]) (fun y hy => (HBd.out y hy).2)
            have HF : Hid (NewPost L w (.returned (.tuple #[.pointer (some ⟨w.heap.size + 2, 0, none⟩), .int .i64 0])) wr) := ⟨hfin.old, .inr (.inr ⟨⟨by rw [← HXe.out]; exact HND.out, fun y hy r hr => by
              have h1 := hfin.refs y (by rw [List.take_length]; exact hy) r hr
              rw [HP0.out, HXe.out] at h1
              exact h1⟩, w.heap.size + 2, P, dv, E, rfl, hGA, hGr, by omega⟩)⟩
            clear hfin hGA hGr hL2
            go_wp2
            go_ret2
            exact HF.out
end Go.Proofs.Ytkbhckjpmgkgjaa
