/- My own work: the texts of a node; the walk of appendTexts. -/
import Derived.Test.YtpkbfljoakodoaaDoorXH
import Derived.Test.YtpkbfljoakodoaaDoorOwnSt
import Derived.Test.YtpkbfljoakodoaaDoorXE
import Derived.Lib.LazyBuf
namespace Go.Proofs.YtpkbfljoakodoaaDoor
open Go.RowKit Go.Sort Go.Shelf
open S2 (bl bl_len bl_inj clone_ok)

mutual
/-- All that is looked at of a node. -/
def Nd.texts : Nd → List ByteArray | .mk k _ d ns ks => if k ≠ 2 then [d] else Nd.textsL ks ns
def Nd.textsL : List Nd → List ByteArray → List ByteArray
  | k :: ks, n :: ns => n :: (k.texts ++ Nd.textsL ks ns)
  | [], _ => []
  | _ :: _, [] => []
end
theorem textsL_take : ∀ (ks : List Nd) (ns : List ByteArray) (i : Nat) (h : i < ks.length) (h' : i < ns.length), Nd.textsL (ks.take (i + 1)) (ns.take (i + 1)) = Nd.textsL (ks.take i) (ns.take i) ++ ns[i] :: ks[i].texts
  | k :: ks, n :: ns, 0, _, _ => by simp [Nd.textsL]
  | k :: ks, n :: ns, i + 1, h, h' => by
    simp only [List.take_succ_cons, Nd.textsL, List.getElem_cons_succ]
    rw [textsL_take ks ns i (by simpa using h) (by simpa using h')]
    simp
theorem textsL_le : ∀ (ks : List Nd) (ns : List ByteArray) (i : Nat), (Nd.textsL (ks.take i) (ns.take i)).length ≤ (Nd.textsL ks ns).length
  | [], ns, i => by simp [Nd.textsL]
  | k :: ks, [], i => by cases i <;> simp [Nd.textsL]
  | k :: ks, n :: ns, 0 => by simp [Nd.textsL]
  | k :: ks, n :: ns, i + 1 => by
    have := textsL_le ks ns i
    simp only [List.take_succ_cons, Nd.textsL, List.length_cons, List.length_append]
    omega
theorem eachL_kid : ∀ (ks : List Nd), eachL ks = 0 → ∀ i (h : i < ks.length), eachE ks[i] = 0
  | k :: ks, h, i, hi => by
    unfold eachL at h
    by_cases e : eachE k = 0
    · rw [if_neg (by simpa using e)] at h
      cases i with
      | zero => exact e
      | succ i => exact eachL_kid ks h i (by simpa using hi)
    · rw [if_pos e] at h
      exact absurd h e
theorem each_kid {k : Int} {e : Bool} {d : ByteArray} {ns : List ByteArray} {ks : List Nd} (h : eachE (.mk k e d ns ks) = 0) : aloneE (.mk k e d ns ks) = 0 ∧ ∀ i (h : i < ks.length), eachE ks[i] = 0 := by
  unfold eachE at h
  by_cases ha : aloneE (.mk k e d ns ks) = 0
  · rw [if_neg (by simpa using ha)] at h
    exact ⟨ha, eachL_kid ks h⟩
  · rw [if_pos ha] at h
    exact absurd h ha
theorem alone_kind {n : Nd} (h : aloneE n = 0) : kindB n = true := by
  cases hk : kindB n with
  | true => rfl
  | false =>
    unfold aloneE at h
    rw [hk] at h
    simp at h
theorem dir_len {e : Bool} {d : ByteArray} {ns : List ByteArray} {ks : List Nd} (h : kindB (.mk 2 e d ns ks) = true) : ns.length = ks.length := by
  unfold kindB at h
  simp [Nd.kind, Nd.names, Nd.kids] at h
  exact of_decide_eq_true h.1.1

theorem conv_bytesS (w : World) (a : Option Addr) (d : ByteArray) (c : Nat) (h : BytesAt w a d c) : (convert 22 9 (.slice a d.size c)).run Tryd.prog w = .ok (.string d) w := by
  obtain ⟨b, off, h1, h2⟩ := h.ex
  have hd : strOfNums (d.data.toList.map fun x => (x.toNat : Int)) = d := Lib.Lz.strOfNums_map d.data.toList
  cases a with
  | none =>
    have h0 : d.size = 0 := (h.nil rfl).1
    have hd0 : d = ByteArray.empty := by
      apply ByteArray.ext
      exact Array.eq_empty_of_size_eq_zero h0
    have := run_convert_bytes_nil (P := Tryd.prog) w 22 5 Tryd.underlying22 Tryd.underlying5 d.size c 9 Tryd.underlying9
    rw [hd0] at this ⊢
    exact this
  | some ad =>
    by_cases h0 : d.size = 0
    · have hd0 : d = ByteArray.empty := by
        apply ByteArray.ext
        exact Array.eq_empty_of_size_eq_zero h0
      obtain ⟨b', o', sp⟩ := ad
      subst hd0
      rw [run_convert_bytes_string (P := Tryd.prog) w 22 9 5 _ _ c Tryd.underlying22 Tryd.underlying5 Tryd.underlying9]
      rfl
    · obtain rfl : ad = ⟨b, off, none⟩ := Option.some.inj (h1 (by omega))
      have := run_convert_bytes_arg (P := Tryd.prog) w 22 5 Tryd.underlying22 Tryd.underlying5 b off d.size c (d.data.toList.map fun x => (x.toNat : Int)) (by rw [List.length_map, Array.length_toList]; rfl) (fun i hi => by
        rw [h2 i hi]
        have hi' : i < d.data.size := hi
        rw [List.getD, List.getElem?_map, Array.getElem?_toList, Array.getElem?_eq_getElem hi']
        simp only [bf, Array.getElem?_eq_getElem hi', Option.getD_some, Option.map_some]) 9 Tryd.underlying9
      rw [hd] at this
      exact this

/-- The row that a block names is the same, or a new one. -/
def SameOr (w : World) (b b' : Option Nat) : Prop := b' = b ∨ ∃ j, b' = some j ∧ w.heap.size ≤ j
theorem grown_chain {w w1 w2 : World} {b b1 : Option Nat} (h1 : w.grownBy w1 b) (hv : SameOr w b b1) (h2 : w1.grownBy w2 b1) : w.grownBy w2 b :=
  ⟨h2.os.trans h1.os, h2.tape.trans h1.tape, h2.output.trans h1.output, Nat.le_trans h1.size h2.size, fun k hk hne => by
    refine (h2.block k (Nat.lt_of_lt_of_le hk h1.size) (fun e => ?_)).trans (h1.block k hk hne)
    rcases hv with e1 | ⟨j, e1, hj⟩
    · exact hne (e.trans e1)
    · rw [e1] at e
      cases e
      omega⟩
theorem same_chain {w w1 : World} {b b1 b2 : Option Nat} (h1 : w.grownBy w1 b) (hv : SameOr w b b1) (h2 : SameOr w1 b1 b2) : SameOr w b b2 := by
  rcases h2 with e | ⟨j, e, hj⟩
  · rw [e]; exact hv
  · exact .inr ⟨j, e, Nat.le_trans h1.size hj⟩
theorem grown_below {w w1 w2 : World} {b : Option Nat} (h1 : w.grownBy w1 b) (h2 : Below w1.heap.size w1 w2) : w.grownBy w2 b :=
  ⟨h2.os.trans h1.os, h2.tape.trans h1.tape, h2.output.trans h1.output, Nat.le_trans h1.size h2.size, fun k hk hne => (h2.block k (Nat.lt_of_lt_of_le hk h1.size)).trans (h1.block k hk hne)⟩
theorem grown_refl (w : World) (b : Option Nat) : w.grownBy w b := ⟨rfl, rfl, rfl, Nat.le_refl _, fun _ _ _ => rfl⟩
theorem sameOr_new {w : World} {b b' : Option Nat} (h : b' = b ∨ b' = some w.heap.size) : SameOr w b b' := h.imp id fun e => ⟨_, e, Nat.le_refl _⟩
theorem sameOr_mono {w w1 : World} {b b' : Option Nat} (h : SameOr w1 b b') (hs : w.heap.size ≤ w1.heap.size) : SameOr w b b' := h.imp id fun ⟨j, e, hj⟩ => ⟨j, e, Nat.le_trans hs hj⟩
/-- What appendTexts leaves. -/
def TxPost (B : Nat) (w : World) (v : Value) (ys : List ByteArray) (e : Ending) (w' : World) : Prop :=
  ∃ v', e = .returned v' ∧ w'.ownsRow B 9 1 v' ys.length (ys.map Value.string) ∧ w.grownBy w' v.ownBlock ∧ SameOr w v.ownBlock v'.ownBlock
set_option maxRecDepth 20000 in
set_option maxHeartbeats 8000000 in
theorem appendTexts_step (N : Nat) (w0 : World) (IH : ∀ n : Nd, n.count ≤ N → eachE n = 0 → ∀ (C : Array Value) (w : World) (v : Value) (xs : List ByteArray), NodeAt w0 n C → Below w0.heap.size w0 w → w.ownsRow w0.heap.size 9 1 v xs.length (xs.map Value.string) → (xs.length + n.texts.length) * 16 ≤ 140737488355328 → Calls Tryd.prog 30 #[v, .agg C] w (TxPost w0.heap.size w v (xs ++ n.texts)))
    (n : Nd) (hN : n.count ≤ N + 1) (hE : eachE n = 0) (C : Array Value) (w : World) (v : Value) (xs : List ByteArray) (hn : NodeAt w0 n C) (hB : Below w0.heap.size w0 w) (hown : w.ownsRow w0.heap.size 9 1 v xs.length (xs.map Value.string)) (hbd : (xs.length + n.texts.length) * 16 ≤ 140737488355328) :
    Calls Tryd.prog 30 #[v, .agg C] w (TxPost w0.heap.size w v (xs ++ n.texts)) := by
  obtain ⟨i0, hi, hz0, hz1, hz2⟩ := info_parts infoS9
  obtain ⟨k, e, d, ns, ks⟩ := n
  have hEK := each_kid hE
  have HIH : Hid _ := IH
  cases hn with
  | @mk _ _ _ _ _ da dc na nc ka kb koff kc Cs hk hd hnm hks each =>
  have HO : Hid (w.ownsRow w0.heap.size 9 1 v xs.length (xs.map Value.string)) := hown
  have HB : Hid _ := hB
  have HR : Hid (Row (w.alloc (.cells (nodeV k e da d.size dc na ns.length nc ka ks.length kc) 26)) w.heap.size (nodeV k e da d.size dc na ns.length nc ka ks.length kc) 26) := Row.new w _ _
  have c0 : (w.alloc (.cells (nodeV k e da d.size dc na ns.length nc ka ks.length kc) 26)).cell? ⟨w.heap.size, 0, none⟩ = some (.int .i64 k) := (Row.cell HR.out 0).trans rfl
  by_cases hk2 : k = 2
  · subst hk2
    have hln := dir_len (alone_kind hEK.1)
    have hnl := hnm.len
    unfold big at hnl
    have c3 : (w.alloc (.cells (nodeV 2 e da d.size dc na ns.length nc ka ks.length kc) 26)).cell? ⟨w.heap.size, 3, none⟩ = some (.slice na ns.length nc) := (Row.cell HR.out 3).trans rfl
    have HLN : Hid _ := hln
    have HEK : Hid (∀ i (h : i < ks.length), eachE ks[i] = 0) := hEK.2
    have HKC : Hid (∀ i (h : i < ks.length), ks[i].count ≤ N) := fun i h => Nd.kid_lt hN i h
    have HNE : Hid (∀ i (h : i < ks.length), NodeAt w0 ks[i] (Cs i)) := each
    have HKD : Hid (∀ wx, Below w0.heap.size w0 wx → KidsAt wx ka kb koff ks.length kc Cs) := fun wx hx => hks.keep hx
    obtain ⟨nb, noff, hna, hnc⟩ := hnm.ex
    have HNC : Hid (∀ wx, Below w0.heap.size w0 wx → ∀ i (h : i < ns.length), wx.cell? ⟨nb, noff + i, none⟩ = some (.string ns[i])) := fun wx hx i h => (World.cell?_of_block (w := w0) (hx.block nb (World.block_lt_of_cell? _ _ (hnc i h)))).trans (hnc i h)
    have HNA : Hid _ := hna
    have HKA : Hid _ := hks.at'
    have HSZ : Hid (∀ s ∈ ns, s.size ≤ big) := hnm.each
    have hT : Nd.texts (.mk 2 e d ns ks) = Nd.textsL ks ns := by unfold Nd.texts; rw [if_neg (by decide)]
    rw [hT] at hbd ⊢
    have HBD : Hid (∀ i, (xs.length + (Nd.textsL (ks.take i) (ns.take i)).length) * 16 ≤ 140737488355328) := fun i => by
      have := textsL_le ks ns i
      omega
    obtain ⟨TA, hTA⟩ : ∃ TA, TA = Nd.textsL ks ns := ⟨_, rfl⟩
    have HTA : Hid _ := hTA
    rw [← hTA]
    clear hTA hT hbd hEK hE hN IH hks each hnm hna hnc hln hown hB hd hk
    go_enter Tryd.func30, Tryd.ntmps30
    go_wp2
    go_loopw [0, 19] (fun v' iv wr => ∃ i : Nat, iv = .int .i64 i ∧ i ≤ ns.length ∧ wr.ownsRow w0.heap.size 9 1 v' (xs ++ Nd.textsL (ks.take i) (ns.take i)).length ((xs ++ Nd.textsL (ks.take i) (ns.take i)).map Value.string) ∧ w.grownBy wr v.ownBlock ∧ SameOr w v.ownBlock v'.ownBlock ∧ Row wr w.heap.size (nodeV 2 e da d.size dc na ns.length nc ka ks.length kc) 26) (fun _ iv _ => ns.length - (intOf iv).toNat)
    case atStart => exact ⟨0, rfl, Nat.zero_le _, by simpa [Nd.textsL] using World.ownsRow.alloc HO.out _, grown_below (grown_refl _ _) ((Below.refl _ _).alloc (Nat.le_refl _) _), .inl rfl, HR.out⟩
    case round =>
      obtain ⟨i, rfl, hi', hown, hgr, hso, hrw⟩ := hrel
      have hbw := below_own HO.out HB.out hgr
      by_cases hlt : i < ns.length
      · have hi2 : i < ks.length := by have := HLN.out; omega
        obtain rfl := HNA.out (by omega)
        obtain rfl := HKA.out (by omega)
        obtain ⟨s, hs⟩ : ∃ s, s = ns[i] := ⟨_, rfl⟩
        have cn := HNC.out _ hbw i hlt
        rw [← hs] at cn
        have HS : Hid (s = ns[i]) := hs
        have hss : s.size ≤ 140737488355328 := by
          have := HSZ.out s (by rw [hs]; exact List.getElem_mem _)
          unfold big at this
          omega
        have hd0 : Below wr.heap.size wr wr.drew := (Below.refl _ _).drew
        have HOD : Hid (wr.drew.ownsRow w0.heap.size 9 1 u0 (xs ++ Nd.textsL (ks.take i) (ns.take i)).length ((xs ++ Nd.textsL (ks.take i) (ns.take i)).map Value.string)) := own_belowS hown hd0
        have HGD : Hid (w.grownBy wr.drew v.ownBlock) := grown_below hgr hd0
        have HSO : Hid (SameOr w v.ownBlock u0.ownBlock) := hso
        have hSd : Below w0.heap.size w0 wr.drew ∧ Row wr.drew w.heap.size (nodeV 2 e da d.size dc (some ⟨nb, noff, none⟩) ns.length nc (some ⟨kb, koff, none⟩) ks.length kc) 26 := ⟨hbw.trans (hd0.mono hbw.size), hrw.below hd0 hrw.lt⟩
        have hsi : (Tryd.prog.info? 26).map (·.size) = some (Cs i).toList.length := by rw [infoN, Array.length_toList, (HKD.out _ hbw).size i hi2]
        have hi2' : (i : Int) < (ks.length : Int) := by omega
        have hlt' : (i : Int) < (ns.length : Int) := by omega
        have HBI := HBD.out (i + 1)
        rw [textsL_take ks ns i hi2 hlt] at HBI
        simp only [List.length_append, List.length_cons] at HBI
        have HBI' : Hid _ := HBI
        clear HBI hs hown hgr hso hrw hbw hd0
        go_wp2_with fail
        clear cn
        refine wp_region_permA [(false, 0), (false, 1), (false, 5), (false, 6), (false, 7), (false, 8), (false, 9), (true, 2), (true, 3), (true, 4), (true, 10), (true, 11)] (fun wx => Below w0.heap.size w0 wx ∧ Row wx w.heap.size (nodeV 2 e da d.size dc (some ⟨nb, noff, none⟩) ns.length nc (some ⟨kb, koff, none⟩) ks.length kc) 26) (by kernel_rfl) (by kernel_rfl) hSd ?_
        refine a_move (some 24) _ rfl rfl rfl (by rfl) ?_
        simp only [Act.put, List.setIfInBounds_toArray, List.set_cons_zero, List.set_cons_succ]
        refine a_move (some 25) _ rfl rfl rfl (by rfl) ?_
        simp only [Act.put, List.setIfInBounds_toArray, List.set_cons_zero, List.set_cons_succ]
        refine a_value (some 29) ?_ rfl rfl (by rfl) (fun w hw => ?_) ?_
        rotate_left
        · go_simp
          with_reducible rfl
        simp only [Act.put, List.setIfInBounds_toArray, List.set_cons_zero, List.set_cons_succ]
        refine a_value (some 30) ?_ rfl rfl (by rfl) (fun w hw => ?_) ?_
        rotate_left
        · have c := (hw.2.cell 4).trans rfl
          go_simp
          with_reducible rfl
        simp only [Act.put, List.setIfInBounds_toArray, List.set_cons_zero, List.set_cons_succ]
        refine a_move (some 31) _ rfl rfl rfl (by rfl) ?_
        simp only [Act.put, List.setIfInBounds_toArray, List.set_cons_zero, List.set_cons_succ]
        refine a_value (some 32) ?_ rfl rfl (by rfl) (fun w hw => ?_) ?_
        rotate_left
        · go_simp
          with_reducible rfl
        simp only [Act.put, List.setIfInBounds_toArray, List.set_cons_zero, List.set_cons_succ]
        refine a_load_mid (some 33) 26 _ rfl rfl rfl (by rfl) kb (koff + i * 5) (by go_simp) (Cs i).toList _ (fun wx hw => (HKD.out wx hw.1).range i hi2) Tryd.underlying26 rfl hsi ?_
        simp only [Array.toArray_toList]
        simp only [Act.put, List.setIfInBounds_toArray, List.set_cons_zero, List.set_cons_succ]
        refine a_call (some 26) rfl rfl (by rfl) 39 #[.string s] (by go_simp) (Calls.mono (clone_ok s _ hss) ?_)
        rintro er w6 ⟨rfl, hb6⟩
        have hS6 : Below w0.heap.size w0 w6 ∧ Row w6 w.heap.size (nodeV 2 e da d.size dc (some ⟨nb, noff, none⟩) ns.length nc (some ⟨kb, koff, none⟩) ks.length kc) 26 := ⟨hSd.1.trans (hb6.mono hSd.1.size), hSd.2.below hb6 hSd.2.lt⟩
        have hb7 : Below w6.heap.size w6 (w6.alloc (.cells #[.string s] 9)) := (Below.refl _ _).alloc (Nat.le_refl _) _
        have hS7 : Below w0.heap.size w0 (w6.alloc (.cells #[.string s] 9)) ∧ Row (w6.alloc (.cells #[.string s] 9)) w.heap.size (nodeV 2 e da d.size dc (some ⟨nb, noff, none⟩) ns.length nc (some ⟨kb, koff, none⟩) ks.length kc) 26 := ⟨hS6.1.trans (hb7.mono hS6.1.size), hS6.2.below hb7 hS6.2.lt⟩
        have hO7 := own_belowS (own_belowS HOD.out hb6) hb7
        have hG7 := grown_below (grown_below HGD.out hb6) hb7
        refine ⟨_, rfl, hS6, ?_⟩
        simp only [Act.put, List.setIfInBounds_toArray, List.set_cons_zero, List.set_cons_succ]
        refine a_alone (some 27) (.slice (some ⟨w6.heap.size, 0, none⟩) 1 1) (w6.alloc (.cells #[.string s] 9)) rfl rfl (by rfl) (by go_simp) hS7 ?_
        simp only [Act.put, List.setIfInBounds_toArray, List.set_cons_zero, List.set_cons_succ]
        refine a_wp rfl (by rfl) (wp_append_any (some 28) rfl _ _ 23 9 (.string ⟨#[]⟩) 1 16 Tryd.underlying23 infoS9 rfl (by decide) rfl w0.heap.size _ _ _ rfl hO7 (some ⟨w6.heap.size, 0, none⟩) w6.heap.size 0 1 1 [.string s] rfl rfl (fun _ => rfl) (fun j u hj => ?_) (fun u hu => ?_) (fun h => nomatch h) ?_ ?_ hS7.1.size ?_)
        · cases j with
          | zero => simp at hj; subst hj; exact (Row.cell (Row.new w6 #[.string s] 9) 0).trans rfl
          | succ j => simp at hj
        · simp at hu; subst hu; rfl
        · have := HBI'.out
          rw [List.length_append]
          unfold maxLen
          omega
        · have := HBI'.out
          rw [List.length_append]
          omega
        intro v8 w8 hO8 hG8 hV8
        have hS8 : Below w0.heap.size w0 w8 ∧ Row w8 w.heap.size (nodeV 2 e da d.size dc (some ⟨nb, noff, none⟩) ns.length nc (some ⟨kb, koff, none⟩) ks.length kc) 26 := ⟨below_own hO7 hS7.1 hG8, row_grown hO7 hG8 hS7.2 (by decide)⟩
        have hG8' := grown_chain hG7 HSO.out hG8
        have hV8' := same_chain hG7 HSO.out (sameOr_new hV8)
        refine ⟨hS8, ?_⟩
        simp only [Act.put, List.setIfInBounds_toArray, List.set_cons_zero, List.set_cons_succ]
        have eO8 : (xs ++ Nd.textsL (ks.take i) (ns.take i)).length + 1 = (xs ++ Nd.textsL (ks.take i) (ns.take i) ++ [s]).length := by simp; omega
        have eO9 : (xs ++ Nd.textsL (ks.take i) (ns.take i)).map Value.string ++ [.string s] = (xs ++ Nd.textsL (ks.take i) (ns.take i) ++ [s]).map Value.string := by simp
        rw [eO8, eO9] at hO8
        have hbd9 : ((xs ++ Nd.textsL (ks.take i) (ns.take i) ++ [s]).length + (ks[i]).texts.length) * 16 ≤ 140737488355328 := by
          have := HBI'.out
          simp only [List.length_append, List.length_cons, List.length_nil]
          omega
        refine a_call (some 34) rfl rfl (by rfl) 30 #[v8, .agg (Cs i)] (by go_simp) (Calls.mono (HIH.out ks[i] (HKC.out i hi2) (HEK.out i hi2) (Cs i) w8 v8 _ (HNE.out i hi2) hS8.1 hO8 hbd9) ?_)
        rintro er w9 ⟨v9, rfl, hO9, hG9, hV9⟩
        have hS9 : Below w0.heap.size w0 w9 ∧ Row w9 w.heap.size (nodeV 2 e da d.size dc (some ⟨nb, noff, none⟩) ns.length nc (some ⟨kb, koff, none⟩) ks.length kc) 26 := ⟨below_own hO8 hS8.1 hG9, row_grown hO8 hG9 hS8.2 (by decide)⟩
        have HF9 : Hid (w9.ownsRow w0.heap.size 9 1 v9 (xs ++ Nd.textsL (ks.take (i + 1)) (ns.take (i + 1))).length ((xs ++ Nd.textsL (ks.take (i + 1)) (ns.take (i + 1))).map Value.string) ∧ w.grownBy w9 v.ownBlock ∧ SameOr w v.ownBlock v9.ownBlock ∧ Row w9 w.heap.size (nodeV 2 e da d.size dc (some ⟨nb, noff, none⟩) ns.length nc (some ⟨kb, koff, none⟩) ks.length kc) 26) := by
          refine ⟨?_, grown_chain hG8' hV8' hG9, same_chain hG8' hV8' hV9, hS9.2⟩
          rw [textsL_take ks ns i hi2 hlt, ← HS.out]
          simpa using hO9
        refine ⟨_, rfl, hS9, ?_⟩
        clear hO9 hG9 hV9 hbd9 hO8 hG8 hV8 hG8' hV8' eO8 eO9 hO7 hG7 hS7 hS6 hS8 hb6 hb7
        simp only [Act.put, List.setIfInBounds_toArray, List.set_cons_zero, List.set_cons_succ]
        refine a_alone (some 0) v9 w9 rfl rfl (by rfl) (by go_simp) hS9 ?_
        simp only [Act.put, List.setIfInBounds_toArray, List.set_cons_zero]
        clear hS9 hSd
        refine a_done ?_
        try simp only [Exit.then]
        go_wp2
        go_roundw
        case rel => exact ⟨i + 1, by go_num, by omega, HF9.out⟩
        case measure => simp [intOf]; omega
      · have hie : i = ns.length := by omega
        subst hie
        have HF9 : Hid (TxPost w0.heap.size w v (xs ++ TA) (.returned u0) wr) := by
          have e1 : ks.take ns.length = ks := List.take_of_length_le (by have := HLN.out; omega)
          rw [e1, List.take_length, ← HTA.out] at hown
          exact ⟨_, rfl, hown, hgr, hso⟩
        clear hown hgr hso hrw hbw
        go_wp2
        go_ret
        exact HF9.out
  · have hcv : ∀ wx, Below w0.heap.size w0 wx → (convert 22 9 (.slice da d.size dc)).run Tryd.prog wx = .ok (.string d) wx := fun wx hx => conv_bytesS wx da d dc (hd.keep hx)
    have hT : Nd.texts (.mk k e d ns ks) = [d] := by unfold Nd.texts; rw [if_pos hk2]
    rw [hT] at hbd ⊢
    obtain ⟨W, hW⟩ : ∃ W, W = w.alloc (.cells (nodeV k e da d.size dc na ns.length nc ka ks.length kc) 26) := ⟨_, rfl⟩
    have hb1 : Below w.heap.size w W := by rw [hW]; exact (Below.refl _ _).alloc (Nat.le_refl _) _
    have hcv1 := hcv W (hB.trans (hb1.mono hB.size))
    have c2 : W.cell? ⟨w.heap.size, 2, none⟩ = some (.slice da d.size dc) := by rw [hW]; exact (Row.cell HR.out 2).trans rfl
    rw [← hW] at c0
    have hW' := hW.symm
    have hO1 := own_belowS hown hb1
    have hB1 := hB.trans (hb1.mono hB.size)
    have HB1 : Hid _ := hb1
    have hsz1 := hB1.size
    have hbd' : (xs.length + 1) * 16 ≤ 140737488355328 := by simpa using hbd
    clear HIH hW hcv hbd hEK hE hN IH hks each hnm hT hd hB hown hB1 hb1
    go_enter Tryd.func30, Tryd.ntmps30
    go_wp2_with (at_builtin; refine wpList_plain rfl fun K' hK' => ?_; refine wp_append_any (some 15) rfl _ _ 23 9 (.string ⟨#[]⟩) 1 16 Tryd.underlying23 infoS9 rfl (by decide) rfl w0.heap.size _ _ _ rfl (World.ownsRow.alloc hO1 _) (some ⟨W.heap.size, 0, none⟩) W.heap.size 0 1 1 [.string d] rfl rfl (fun _ => rfl) ?c1 ?c2 (fun h => nomatch h) ?c3 ?c4 ?c5 (fun v5 w5 hown5 hgrow5 hv5 => hK' _ _ ?_))
    case c1 =>
      intro j u hj
      cases j with
      | zero => simp at hj; subst hj; exact (Row.cell (Row.new W #[.string d] 9) 0).trans rfl
      | succ j => simp at hj
    case c2 => intro u hu; simp at hu; subst hu; rfl
    case c3 => unfold maxLen; omega
    case c4 => omega
    case c5 => simp; omega
    have HF : Hid (TxPost w0.heap.size w v (xs ++ [d]) (.returned v5) w5) := by
      have hb2 : Below W.heap.size W (W.alloc (.cells #[.string d] 9)) := (Below.refl _ _).alloc (Nat.le_refl _) _
      have hg2 := grown_below (grown_below (grown_refl w v.ownBlock) HB1.out) hb2
      refine ⟨v5, rfl, by simpa using hown5, grown_chain hg2 (.inl rfl) hgrow5, same_chain hg2 (.inl rfl) (sameOr_new hv5)⟩
    clear hown5 hgrow5 hv5 hO1 hcv1
    go_wp2
    go_ret
    exact HF.out
theorem appendTexts_ok (w0 : World) (n : Nd) (hE : eachE n = 0) (C : Array Value) (w : World) (v : Value) (xs : List ByteArray) (hn : NodeAt w0 n C) (hB : Below w0.heap.size w0 w) (hown : w.ownsRow w0.heap.size 9 1 v xs.length (xs.map Value.string)) (hbd : (xs.length + n.texts.length) * 16 ≤ 140737488355328) :
    Calls Tryd.prog 30 #[v, .agg C] w (TxPost w0.heap.size w v (xs ++ n.texts)) := by
  suffices h : ∀ N, ∀ n : Nd, n.count ≤ N → eachE n = 0 → ∀ (C : Array Value) (w : World) (v : Value) (xs : List ByteArray), NodeAt w0 n C → Below w0.heap.size w0 w → w.ownsRow w0.heap.size 9 1 v xs.length (xs.map Value.string) → (xs.length + n.texts.length) * 16 ≤ 140737488355328 → Calls Tryd.prog 30 #[v, .agg C] w (TxPost w0.heap.size w v (xs ++ n.texts)) from
    h n.count n (Nat.le_refl _) hE C w v xs hn hB hown hbd
  intro N
  induction N with
  | zero => intro n h; have := n.count_pos; omega
  | succ N ih => exact fun n h => appendTexts_step N w0 ih n h
end Go.Proofs.YtpkbfljoakodoaaDoor
