/- My own work: how long an archive is; the walks of Encode, the program's and the document's. -/
import Derived.Test.YtimiginpdkokiaaDoorRNode
import Derived.Test.YtimiginpdkokiaaDoorRefRight
namespace Go.Proofs.YtimiginpdkokiaaDoor
open Go.RowKit

theorem strU_le (s : ByteArray) : (strU s).length ≤ 15 + s.size := by
  rw [strU_length]
  have := fillN_lt s.size
  omega
mutual
theorem encN_len : ∀ (n : Nd), eachE n = 0 → (encN n).length + 200 ≤ 33000 * n.count
  | .mk k e d ns ks, h => by
    have hal := each_alone h
    have hd : d.size ≤ 31744 := alone_size hal
    have hsd := strU_le d
    have e1 : (strsU [wOpen, wType]).length = 32 := rfl
    have e2 : (strsU [wShut]).length = 16 := rfl
    rcases kind_cases (alone_kind hal) with ⟨rfl, rfl, rfl⟩ | ⟨rfl, rfl, rfl, rfl⟩ | ⟨rfl, rfl, hln, _⟩
    · rw [encN_file]
      have e3 : (strsU [wFile]).length = 16 := rfl
      have e4 : (if e then strsU [wExec, wNone] else []).length ≤ 32 := by cases e <;> decide
      have e5 : (strsU [wData, d]).length = 16 + (strU d).length := by rw [strsU_cons, List.length_append, strsU_one]; rfl
      simp only [List.length_append, e1, e2, e3, e5, Nd.count, Nd.countL]
      omega
    · rw [encN_link]
      have e5 : (strsU [wLink, wTarget, d]).length = 32 + (strU d).length := by rw [strsU_cons, strsU_cons, List.length_append, List.length_append, strsU_one]; have h1 : (strU wLink).length = 16 := rfl; have h2 : (strU wTarget).length = 16 := rfl; omega
      simp only [List.length_append, e1, e2, e5, Nd.count, Nd.countL]
      omega
    · rw [encN_dir]
      have e3 : (strsU [wDir]).length = 24 := rfl
      have hnm : ∀ s ∈ ns, s.size ≤ 60 := fun s hs => by
        obtain ⟨i, hi, rfl⟩ := List.getElem_of_mem hs
        exact (names_size (alone_names hal) i hi).2
      have hL := encL_len ks ns hnm (fun i hi => each_kid h i hi)
      simp only [List.length_append, e1, e2, e3, Nd.count]
      omega
theorem encL_len : ∀ (ks : List Nd) (ns : List ByteArray), (∀ s ∈ ns, s.size ≤ 60) → (∀ i (hi : i < ks.length), eachE ks[i] = 0) → (encL ks ns).length ≤ 33000 * Nd.countL ks
  | [], ns, _, _ => by rw [encL_nil]; exact Nat.zero_le _
  | k :: ks, ns, hn, he => by
    have h1 := encN_len k (he 0 (by simp))
    have h2 := encL_len ks ns.tail (fun s hs => hn s (List.mem_of_mem_tail hs)) (fun i hi => he (i + 1) (by simpa using hi))
    have h3 : (ns.headD ⟨#[]⟩).size ≤ 60 := by
      cases ns with
      | nil => decide
      | cons a t => exact hn a (by simp)
    have h4 := strU_le (ns.headD ⟨#[]⟩)
    have e : encL (k :: ks) ns = strsU [wEntry, wOpen, wName, ns.headD ⟨#[]⟩, wNode] ++ (encN k ++ (strsU [wShut] ++ encL ks ns.tail)) := by conv => lhs; unfold encL
    have e5 : (strsU [wEntry, wOpen, wName, ns.headD ⟨#[]⟩, wNode]).length = 64 + (strU (ns.headD ⟨#[]⟩)).length := by
      simp only [strsU_cons, List.length_append]
      have a1 : (strU wEntry).length = 16 := rfl
      have a2 : (strU wOpen).length = 16 := rfl
      have a3 : (strU wName).length = 16 := rfl
      have a4 : (strU wNode).length = 16 := rfl
      have a5 : (strsU []).length = 0 := rfl
      omega
    have e2 : (strsU [wShut]).length = 16 := rfl
    rw [e]
    simp only [List.length_append, e5, e2, Nd.countL]
    omega
end
theorem rightE_each {n : Nd} (h : rightE n = 0) : eachE n = 0 := by
  unfold rightE at h
  split at h
  · omega
  · exact h
theorem rightE_cen {n : Nd} (h : rightE n = 0) : n.height ≤ 32 ∧ n.count ≤ 1024 := by
  unfold rightE at h
  split at h
  · omega
  · rename_i hc
    have := ((cen_iff n 0 1 (by omega)).1.1 (by simpa using hc))
    omega
theorem encA_len {n : Nd} (h : rightE n = 0) : (encA n).length ≤ 40000000 := by
  have h1 := encN_len n (rightE_each h)
  have h2 := (rightE_cen h).2
  have e : (strsU [wFirst]).length = 24 := rfl
  unfold encA
  rw [List.length_append, e]
  omega
section
variable {ops : Array Oper} {S : World → Prop} {Q : Act → World → Prop} {a : Act} {w : World} {o : Oper} {i : Nat} {fs : List (Bool × Nat)}
theorem a_texts (d : Option Tmp) (parts : Array (Nat × Operand)) (l : List ByteArray) (hi : ops[i]? = some o) (hd : o.dst = d) (ho : o.op = .buildSlice 23 l.length parts) (hw : Region.wanted o (yielded ops a.tmps) = true) (hpos : 0 < l.length) (h10 : l.length ≤ 10)
    (hp : (parts.map fun (i, x) => (i, a.eval x)).toList = ((l.map Value.string).zipIdx 0).map fun x => (x.2, x.1)) (hS : S (w.alloc (.cells (l.map Value.string).toArray 9)))
    (k : wpPermA Tryd.prog ops S Q fs (a.put d (.slice (some ⟨w.heap.size, 0, none⟩) l.length l.length)) (w.alloc (.cells (l.map Value.string).toArray 9))) : wpPermA Tryd.prog ops S Q ((true, i) :: fs) a w := by
  subst hd
  obtain ⟨i0, hi0, hz0, hz1, hz2⟩ := info_parts infoS
  refine a_wp hi hw (wp_buildSlice 23 9 l.length parts ho _ i0 _ Tryd.underlying23 hi0 hz0 (by rw [hz1]; omega) (by rw [hz1]; omega) ?_ ⟨hS, k⟩)
  rw [hp, hz1]
  exact Great.fill_flat _ _ (fun v hv => by obtain ⟨n, _, rfl⟩ := List.mem_map.1 hv; rfl) (by simp)
theorem a_buf (d : Option Tmp) (s x : Operand) (hi : ops[i]? = some o) (hd : o.dst = d) (ho : o.op = .call { callee := .builtin .append, args := #[s, x], argTypes := #[22, 22] }) (hw : Region.wanted o (yielded ops a.tmps) = true)
    (B : Nat) (v : Value) (X : List UInt8) (hs : a.eval s = v) (hown : Buf w B v X) (B2 : Nat) (v2 : Value) (Y : List UInt8) (hx : a.eval x = v2) (h2 : Buf w B2 v2 Y) (hln : X.length + Y.length ≤ 140737488355328) (hB : B ≤ w.heap.size)
    (h : ∀ v' w', More B w v w' v' (X ++ Y) → S w' ∧ wpPermA Tryd.prog ops S Q fs (a.put d v') w') : wpPermA Tryd.prog ops S Q ((true, i) :: fs) a w := by
  have hS : Src Tryd.prog 1 22 v2 Y.length (u8s Y) w := by
    have h2' := h2
    obtain ⟨_, ⟨rfl, h0⟩ | ⟨g, cap, cur, rfl, _⟩⟩ := h2
    · have hY : Y = [] := List.eq_nil_of_length_eq_zero h0
      subst hY
      exact Src.ofNil w Tryd.underlying22 0
    · exact Src.ofSlice w Tryd.underlying22 _ _ _ _ (by rw [u8s_length, Nat.mul_one]) (h2'.cells (g := g) rfl) (u8s_one Y)
  subst hd
  obtain ⟨i0, hi0, hz0, hz1, hz2⟩ := info_parts infoB
  obtain ⟨v', w', hr, hm⟩ := run_append_src (P := Tryd.prog) w B 22 22 o.type i0 Tryd.underlying22 hi0 hz0 hz1 hz2 v X hown v2 Y hS hln hB
  exact a_wp hi hw (Lib.wp_append_run w s x 22 22 ho v v2 hs hx v' w' hr (h v' w' hm))
end
/-- What Encode tells. -/
def EncPost (n : Nd) (w : World) (e : Ending) (w' : World) : Prop :=
  Below w.heap.size w w' ∧ ((rightE n ≠ 0 ∧ e = .returned (.tuple #[.slice none 0 0, .int .i64 (rightE n)])) ∨ (rightE n = 0 ∧ ∃ v, e = .returned (.tuple #[v, .int .i64 0]) ∧ Buf w' w.heap.size v (encA n)))
set_option maxRecDepth 20000 in
set_option maxHeartbeats 4000000 in
theorem encode_ok (n : Nd) (w : World) (C : Array Value) (h : NodeAt w n C) (h6 : n.count ≤ 16000) : Calls Tryd.prog 8 #[.agg C] w fun e w' => EncPost n w e w' := by
  have hb0 : Below w.heap.size w (w.alloc (.cells C 26)) := (Below.refl _ _).alloc (Nat.le_refl _) _
  have HR : Hid _ := Row.new w C 26
  have HC1 : Hid (Calls Tryd.prog 17 #[.agg C] (w.alloc (.cells C 26)) fun e w' => e = .returned (.int .i64 (rightE n)) ∧ Below (w.alloc (.cells C 26)).heap.size (w.alloc (.cells C 26)) w') := right_ok n _ C (h.keep hb0) h6
  have hsi : (Tryd.prog.info? 26).map (·.size) = some C.size := by rw [infoN, h.size]
  have hsi2 : (Tryd.prog.info? 26).map (·.size) = some C.toList.length := by rw [infoN, Array.length_toList, h.size]
  have HP : Hid (∀ e w', Below w.heap.size w w' → ((rightE n ≠ 0 ∧ e = .returned (.tuple #[.slice none 0 0, .int .i64 (rightE n)])) ∨ (rightE n = 0 ∧ ∃ v, e = .returned (.tuple #[v, .int .i64 0]) ∧ Buf w' w.heap.size v (encA n))) → EncPost n w e w') := fun e w' h1 h2 => ⟨h1, h2⟩
  have HN : Hid (NodeAt w n C) := h
  have HB0 : Hid (Below w.heap.size w (w.alloc (.cells C 26))) := hb0
  clear h hb0
  obtain ⟨EP, hEP⟩ : ∃ EP, EP = EncPost n w := ⟨_, rfl⟩
  rw [← hEP] at HP ⊢
  clear hEP
  obtain ⟨rE, hrE⟩ : ∃ rE, rE = rightE n := ⟨_, rfl⟩
  have HRE : Hid (rE = rightE n) := hrE
  rw [← hrE] at HC1 HP
  clear hrE
  go_enter Tryd.func8, Tryd.ntmps8
  go_wp2_with (refine wpList_load_row rfl 26 _ rfl w.heap.size rfl 26 C (0, 0) _ HR.out Tryd.underlying26 rfl hsi ?_)
  generalize hwB : w.alloc (.cells C 26) = wB at *
  refine Calls.mono HC1.out ?_
  rintro er w1 ⟨rfl, hbw1⟩
  have HB1 : Hid (Below w.heap.size w w1) := HB0.out.trans (hbw1.mono HB0.out.size)
  have HR1 : Hid (Row w1 w.heap.size C 26) := Row.below HR.out hbw1 (Row.lt HR.out)
  clear HC1 hbw1 HR HB0 hwB
  by_cases hz : rE = 0
  · subst hz
    have hz0 := HRE.out.symm
    have HBd : Hid (Below w.heap.size w w1.drew) := HB1.out.drew
    have hBs : w.heap.size ≤ w1.drew.heap.size := HB1.out.size
    have hRd : Row w1.drew w.heap.size C 26 := Row.drew HR1.out
    have HL := encA_len hz0
    have HL' : Hid (([] : List UInt8).length + (strsU [wFirst]).length ≤ 140737488355328 ∧ (strsU [wFirst]).length + (encN n).length ≤ 140737488355328) := by
      unfold encA at HL
      rw [List.length_append] at HL
      exact ⟨by simp only [List.length_nil]; omega, by omega⟩
    have HZ0 : Hid (rightE n = 0) := hz0
    have hNil : Buf w1.drew w.heap.size (.slice none 0 0) [] := World.ownsRow_nil _ _ 5 1
    have HT : Hid _ := texts_ok w.heap.size (.slice none 0 0) [] w1.drew hNil hBs [wFirst] (Nat.le_of_ble_eq_true rfl) HL'.out.1 _ rfl _ rfl _ rfl
    clear HL hz0 HRE
    go_wp2_with fail
    refine wp_region_permA [(false, 2), (true, 0), (true, 1), (true, 3), (false, 4), (false, 5)] (fun wx => Row wx w.heap.size C 26) (by kernel_rfl) (by kernel_rfl) hRd ?_
    refine a_load_mid (some 12) 26 _ rfl rfl rfl (by rfl) w.heap.size 0 (by go_simp) C.toList _ (fun wx hw => Row.range hw) Tryd.underlying26 rfl hsi2 ?_
    simp only [Array.toArray_toList]
    simp only [Act.put, List.setIfInBounds_toArray, List.set_cons_zero, List.set_cons_succ]
    refine a_texts (some 10) _ [wFirst] rfl rfl rfl (by rfl) (Nat.succ_pos _) (Nat.le_of_ble_eq_true rfl) (by simp only [List.map_toArray, List.map_cons, List.map_nil]; rfl) (hRd.alloc _) ?_
    simp only [Act.put, List.setIfInBounds_toArray, List.set_cons_zero, List.set_cons_succ]
    refine a_call (some 11) rfl rfl (by rfl) 19 #[.slice none 0 0, .slice (some ⟨w1.drew.heap.size, 0, none⟩) 1 1] (by go_simp) (Calls.mono HT.out ?_)
    rintro er w2 ⟨v2, rfl, hm2⟩
    have hR2 : Row w2 w.heap.size C 26 := hm2.row hNil hRd (by decide)
    refine ⟨_, rfl, hR2, ?_⟩
    have HB2 : Hid (Below w.heap.size w w2) := HBd.out.trans (hm2.below hNil hBs)
    have hB2 : w.heap.size ≤ w2.heap.size := HB2.out.size
    have HBF : Hid (Buf w2 w.heap.size v2 (strsU [wFirst])) := hm2.buf
    simp only [Act.put, List.setIfInBounds_toArray, List.set_cons_zero, List.set_cons_succ]
    refine a_call (some 13) rfl rfl (by rfl) 18 #[v2, .agg C] (by go_simp) (Calls.mono (appendNode_ok n (rightE_each HZ0.out) w C HN.out w2 HB2.out v2 (strsU [wFirst]) HBF.out HL'.out.2) ?_)
    rintro er w3 ⟨v3, rfl, hm3⟩
    refine ⟨_, rfl, hm3.row HBF.out hR2 (by decide), ?_⟩
    have HB3 : Hid (Below w.heap.size w w3) := HB2.out.trans (hm3.below HBF.out hB2)
    have HB3F : Hid (Buf w3 w.heap.size v3 (encA n)) := hm3.buf
    clear HBF HT HL' hm2 hm3 hR2 HB2
    simp only [Act.put, List.setIfInBounds_toArray, List.set_cons_zero, List.set_cons_succ]
    refine a_value (some 2) ?_ rfl rfl (by rfl) (fun w hw => ?_) ?_
    rotate_left
    · go_simp
      with_reducible rfl
    simp only [Act.put, List.setIfInBounds_toArray, List.set_cons_zero, List.set_cons_succ]
    refine a_value (some 3) ?_ rfl rfl (by rfl) (fun w hw => ?_) ?_
    rotate_left
    · go_simp
      with_reducible rfl
    simp only [Act.put, List.setIfInBounds_toArray, List.set_cons_zero, List.set_cons_succ]
    refine a_done ?_
    try simp only [Exit.then]
    go_wp2
    exact HP.out _ _ HB3.out (.inr ⟨trivial, v3, rfl, HB3F.out⟩)
  · go_wp2
    exact HP.out _ _ HB1.out (.inl ⟨hz, rfl⟩)
set_option maxRecDepth 20000 in
set_option maxHeartbeats 4000000 in
theorem rencode_ok (n : Nd) (w : World) (C : Array Value) (h : NodeAt w n C) (h6 : n.count ≤ 16000) : Calls Tryd.prog 9 #[.agg C] w fun e w' => EncPost n w e w' := by
  have hb0 : Below w.heap.size w (w.alloc (.cells C 26)) := (Below.refl _ _).alloc (Nat.le_refl _) _
  have HR : Hid _ := Row.new w C 26
  have HC1 : Hid (Calls Tryd.prog 20 #[.agg C] (w.alloc (.cells C 26)) fun e w' => e = .returned (.int .i64 (rightE n)) ∧ Below (w.alloc (.cells C 26)).heap.size (w.alloc (.cells C 26)) w') := rright_ok n _ C (h.keep hb0) h6
  have hsi : (Tryd.prog.info? 26).map (·.size) = some C.size := by rw [infoN, h.size]
  have hsi2 : (Tryd.prog.info? 26).map (·.size) = some C.toList.length := by rw [infoN, Array.length_toList, h.size]
  have HP : Hid (∀ e w', Below w.heap.size w w' → ((rightE n ≠ 0 ∧ e = .returned (.tuple #[.slice none 0 0, .int .i64 (rightE n)])) ∨ (rightE n = 0 ∧ ∃ v, e = .returned (.tuple #[v, .int .i64 0]) ∧ Buf w' w.heap.size v (encA n))) → EncPost n w e w') := fun e w' h1 h2 => ⟨h1, h2⟩
  have HN : Hid (NodeAt w n C) := h
  have HB0 : Hid (Below w.heap.size w (w.alloc (.cells C 26))) := hb0
  clear h hb0
  obtain ⟨EP, hEP⟩ : ∃ EP, EP = EncPost n w := ⟨_, rfl⟩
  rw [← hEP] at HP ⊢
  clear hEP
  obtain ⟨rE, hrE⟩ : ∃ rE, rE = rightE n := ⟨_, rfl⟩
  have HRE : Hid (rE = rightE n) := hrE
  rw [← hrE] at HC1 HP
  clear hrE
  go_enter Tryd.func9, Tryd.ntmps9
  go_wp2_with (refine wpList_load_row rfl 26 _ rfl w.heap.size rfl 26 C (0, 0) _ HR.out Tryd.underlying26 rfl hsi ?_)
  generalize hwB : w.alloc (.cells C 26) = wB at *
  refine Calls.mono HC1.out ?_
  rintro er w1 ⟨rfl, hbw1⟩
  have HB1 : Hid (Below w.heap.size w w1) := HB0.out.trans (hbw1.mono HB0.out.size)
  have HR1 : Hid (Row w1 w.heap.size C 26) := Row.below HR.out hbw1 (Row.lt HR.out)
  clear HC1 hbw1 HR HB0 hwB
  by_cases hz : rE = 0
  · subst hz
    have hz0 := HRE.out.symm
    have HBd : Hid (Below w.heap.size w w1.drew) := HB1.out.drew
    have hBs : w.heap.size ≤ w1.drew.heap.size := HB1.out.size
    have hRd : Row w1.drew w.heap.size C 26 := Row.drew HR1.out
    have HL := encA_len hz0
    have HL' : Hid (([] : List UInt8).length + (strsU [wFirst]).length ≤ 140737488355328 ∧ (strsU [wFirst]).length + (encN n).length ≤ 140737488355328) := by
      unfold encA at HL
      rw [List.length_append] at HL
      exact ⟨by simp only [List.length_nil]; omega, by omega⟩
    have HZ0 : Hid (rightE n = 0) := hz0
    have HLS : Hid ((encN n).length ≤ 140737488351232) := by unfold encA at HL; rw [List.length_append] at HL; show _ ≤ _; omega
    have HT : Hid (Calls Tryd.prog 21 #[.string wFirst] w1.drew fun e w' => ∃ v, e = .returned v ∧ Buf w' w1.drew.heap.size v (strsU [wFirst]) ∧ Below w1.drew.heap.size w1.drew w') := rstr1_ok wFirst (by rw [show (strsU [wFirst]).length = 24 from rfl]; omega) w1.drew
    clear HL hz0 HRE
    go_wp2_with fail
    refine wp_region_permA [(false, 1), (true, 0), (true, 2), (true, 3), (false, 4), (false, 5)] (fun wx => Row wx w.heap.size C 26) (by kernel_rfl) (by kernel_rfl) hRd ?_
    refine a_load_mid (some 11) 26 _ rfl rfl rfl (by rfl) w.heap.size 0 (by go_simp) C.toList _ (fun wx hw => Row.range hw) Tryd.underlying26 rfl hsi2 ?_
    simp only [Array.toArray_toList]
    simp only [Act.put, List.setIfInBounds_toArray, List.set_cons_zero, List.set_cons_succ]
    refine a_call (some 10) rfl rfl (by rfl) 21 #[.string wFirst] (by go_simp) (Calls.mono HT.out ?_)
    rintro er w2 ⟨v2, rfl, hm2, hb2⟩
    have hR2 : Row w2 w.heap.size C 26 := hRd.below hb2 hRd.lt
    refine ⟨_, rfl, hR2, ?_⟩
    have HB2 : Hid (Below w.heap.size w w2) := HBd.out.trans (hb2.mono hBs)
    have hB2 : w.heap.size ≤ w2.heap.size := HB2.out.size
    have HBF : Hid (Buf w2 w.heap.size v2 (strsU [wFirst])) := buf_base hm2 hBs
    simp only [Act.put, List.setIfInBounds_toArray, List.set_cons_zero, List.set_cons_succ]
    refine a_call (some 12) rfl rfl (by rfl) 22 #[.agg C] (by go_simp) (Calls.mono (rnode_ok n (rightE_each HZ0.out) w2 C (HN.out.keep HB2.out) (by have := HL'.out.2; have := HLS.out; omega)) ?_)
    rintro er w3 ⟨v3, rfl, hm3, hb3⟩
    have hR3 : Row w3 w.heap.size C 26 := hR2.below hb3 hR2.lt
    refine ⟨_, rfl, hR3, ?_⟩
    have HB3 : Hid (Below w.heap.size w w3) := HB2.out.trans (hb3.mono hB2)
    have hB3 : w.heap.size ≤ w3.heap.size := HB3.out.size
    have HBF3 : Hid (Buf w3 w.heap.size v2 (strsU [wFirst])) := HBF.out.keep hb3
    have HN3 : Hid (Buf w3 w2.heap.size v3 (encN n)) := hm3
    simp only [Act.put, List.setIfInBounds_toArray, List.set_cons_zero, List.set_cons_succ]
    refine a_buf (some 13) _ _ rfl rfl rfl (by rfl) w.heap.size _ _ rfl HBF3.out w2.heap.size _ _ rfl HN3.out HL'.out.2 hB3 ?_
    intro v4 w4 hm4
    refine ⟨hm4.row HBF3.out hR3 (by decide), ?_⟩
    have HB4 : Hid (Below w.heap.size w w4) := HB3.out.trans (hm4.below HBF3.out hB3)
    have HB4F : Hid (Buf w4 w.heap.size v4 (encA n)) := hm4.buf
    clear HBF HT HL' hm2 hm3 hR2 HB2 HBF3 HN3 hm4 HB3 hR3 hb2 hb3 HLS
    simp only [Act.put, List.setIfInBounds_toArray, List.set_cons_zero, List.set_cons_succ]
    refine a_value (some 2) ?_ rfl rfl (by rfl) (fun w hw => ?_) ?_
    rotate_left
    · go_simp
      with_reducible rfl
    simp only [Act.put, List.setIfInBounds_toArray, List.set_cons_zero, List.set_cons_succ]
    refine a_value (some 3) ?_ rfl rfl (by rfl) (fun w hw => ?_) ?_
    rotate_left
    · go_simp
      with_reducible rfl
    simp only [Act.put, List.setIfInBounds_toArray, List.set_cons_zero, List.set_cons_succ]
    refine a_done ?_
    try simp only [Exit.then]
    go_wp2
    exact HP.out _ _ HB4.out (.inr ⟨trivial, v4, rfl, HB4F.out⟩)
  · go_wp2
    exact HP.out _ _ HB1.out (.inl ⟨hz, rfl⟩)
end Go.Proofs.YtimiginpdkokiaaDoor
