/- My own work: the walk of the document's own Texts. -/
import Derived.Test.YtpkbfljoakodoaaDoorSTx
import Derived.Test.YtpkbfljoakodoaaDoorRIn
namespace Go.Proofs.YtpkbfljoakodoaaDoor
open Go.RowKit
open S2 (bl bl_len bl_inj)

/-- What the document's Texts leaves. -/
def RtPost (w : World) (ys : List ByteArray) (e : Ending) (w' : World) : Prop :=
  ∃ v, e = .returned v ∧ w'.ownsRow w.heap.size 9 1 v ys.length (ys.map Value.string) ∧ Below w.heap.size w w'
theorem texts_kid (ks : List Nd) (ns : List ByteArray) (i : Nat) (h : i < ks.length) (h' : i < ns.length) : (ks[i]).texts.length ≤ (Nd.textsL ks ns).length := by
  have := textsL_le ks ns (i + 1)
  rw [textsL_take ks ns i h h'] at this
  simp at this
  omega
/-- One text is appended to a row of one's own. -/
theorem ap_one {w : World} {o : Oper} {a : Act} {K : Act → World → Prop} {Q : Exit → Act → World → Prop} (dd : Option Tmp) (hdd : o.dst = dd) (s x : Operand) (ho : o.op = .call { callee := .builtin .append, args := #[s, x], argTypes := #[23, 23] }) (B : Nat) (v : Value) (n : Nat) (xs : List Value) (hs : a.eval s = v) (hown : w.ownsRow B 9 1 v n xs) (t : ByteArray) (hx : a.eval x = .slice (some ⟨w.heap.size, 0, none⟩) 1 1) (hB : B ≤ w.heap.size) (hby : (n + 1) * 16 ≤ 140737488355328)
    (h : ∀ v' w', w'.ownsRow B 9 1 v' (n + 1) (xs ++ [.string t]) → (w.alloc (.cells #[.string t] 9)).grownBy w' v.ownBlock → K (a.put dd v') w') : o.wp Tryd.prog a (w.alloc (.cells #[.string t] 9)) K Q := by
  refine wp_append_any dd hdd s x 23 9 (.string ⟨#[]⟩) 1 16 Tryd.underlying23 infoS9 rfl (by decide) ho B v n xs hs (World.ownsRow.alloc hown _) (some ⟨w.heap.size, 0, none⟩) w.heap.size 0 1 1 [.string t] rfl hx (fun _ => rfl) (fun j u hj => ?_) (fun u hu => ?_) (fun h => nomatch h) (by unfold maxLen; omega) hby (by simp; omega) (fun v' w' h1 h2 _ => h v' w' h1 h2)
  · cases j with
    | zero => simp at hj; subst hj; exact (Row.cell (Row.new w #[.string t] 9) 0).trans rfl
    | succ j => simp at hj
  · simp at hu; subst hu; rfl
/-- Texts are appended to a row of one's own. -/
theorem ap_all {w : World} {o : Oper} {a : Act} {K : Act → World → Prop} {Q : Exit → Act → World → Prop} (dd : Option Tmp) (hdd : o.dst = dd) (s x : Operand) (ho : o.op = .call { callee := .builtin .append, args := #[s, x], argTypes := #[23, 23] }) (B : Nat) (v : Value) (n : Nat) (xs : List Value) (hs : a.eval s = v) (hown : w.ownsRow B 9 1 v n xs) (u : Value) (ts : List ByteArray) (hx : a.eval x = u) (hu : TsAt w u ts) (hB : B ≤ w.heap.size) (hby : (n + ts.length) * 16 ≤ 140737488355328)
    (h : ∀ v' w', w'.ownsRow B 9 1 v' (n + ts.length) (xs ++ ts.map Value.string) → w.grownBy w' v.ownBlock → K (a.put dd v') w') : o.wp Tryd.prog a w K Q := by
  obtain ⟨a9, b9, o9, c9, rfl, ha9, hcl9, hn9, hle9, hcp9⟩ := hu.ex
  refine wp_append_any dd hdd s x 23 9 (.string ⟨#[]⟩) 1 16 Tryd.underlying23 infoS9 rfl (by decide) ho B v n xs hs hown a9 b9 o9 ts.length c9 (ts.map Value.string) (by simp) hx ha9 (fun j u hj => ?_) (fun u hu => ?_) hn9 (by unfold maxLen; omega) hby hB (fun v' w' h1 h2 _ => h v' w' h1 h2)
  · have hj' : j < ts.length := by simpa using (List.getElem?_eq_some_iff.1 hj).1
    have e := hcl9 j hj'
    rw [List.getElem?_map, List.getElem?_eq_getElem hj'] at hj
    rw [e]
    exact hj
  · obtain ⟨x, _, rfl⟩ := List.mem_map.1 hu
    rfl
set_option maxRecDepth 20000 in
set_option maxHeartbeats 4000000 in
theorem rtexts_leaf (k : Int) (e : Bool) (d : ByteArray) (ns : List ByteArray) (ks : List Nd) (C : Array Value) (w : World) (hk2 : k ≠ 2) (hn : NodeAt w (.mk k e d ns ks) C) : Calls Tryd.prog 14 #[.agg C] w (RtPost w [d]) := by
  cases hn with
  | @mk _ _ _ _ _ da dc na nc ka kb koff kc Cs hk hd hnm hks each =>
  have HR : Hid (Row (w.alloc (.cells (nodeV k e da d.size dc na ns.length nc ka ks.length kc) 26)) w.heap.size (nodeV k e da d.size dc na ns.length nc ka ks.length kc) 26) := Row.new w _ _
  obtain ⟨W, hW⟩ : ∃ W, W = w.alloc (.cells (nodeV k e da d.size dc na ns.length nc ka ks.length kc) 26) := ⟨_, rfl⟩
  have hb1 : Below w.heap.size w W := by rw [hW]; exact (Below.refl _ _).alloc (Nat.le_refl _) _
  have hcv1 := conv_bytesS W da d dc (hd.keep hb1)
  have c0 : W.cell? ⟨w.heap.size, 0, none⟩ = some (.int .i64 k) := by rw [hW]; exact (Row.cell HR.out 0).trans rfl
  have c2 : W.cell? ⟨w.heap.size, 2, none⟩ = some (.slice da d.size dc) := by rw [hW]; exact (Row.cell HR.out 2).trans rfl
  have hW' := hW.symm
  have HF : Hid (RtPost w [d] (.returned (.slice (some ⟨W.heap.size, 0, none⟩) 1 1)) (W.alloc (.cells #[.string d] 9))) := by
    refine ⟨_, rfl, ?_, hb1.alloc hb1.size _⟩
    have := World.ownsRow_lit (base := w.heap.size) (e := 9) (size := 1) W #[.string d] 1 hb1.size (by decide) rfl
    simpa using this
  clear hW hks each hnm hd hb1 HR
  go_enter Tryd.func14, Tryd.ntmps14
  go_wp2
  go_ret
  exact HF.out
set_option maxRecDepth 20000 in
set_option maxHeartbeats 8000000 in
theorem rtexts_step (N : Nat) (IH : ∀ n : Nd, n.count ≤ N → eachE n = 0 → n.texts.length * 16 ≤ 140737488355328 → ∀ (C : Array Value) (w : World), NodeAt w n C → Calls Tryd.prog 14 #[.agg C] w (RtPost w n.texts))
    (n : Nd) (hN : n.count ≤ N + 1) (hE : eachE n = 0) (hbd : n.texts.length * 16 ≤ 140737488355328) (C : Array Value) (w : World) (hn : NodeAt w n C) :
    Calls Tryd.prog 14 #[.agg C] w (RtPost w n.texts) := by
  obtain ⟨k, e, d, ns, ks⟩ := n
  by_cases hk2 : k = 2
  · subst hk2
    have hEK := each_kid hE
    have hln := dir_len (alone_kind hEK.1)
    have hT : Nd.texts (.mk 2 e d ns ks) = Nd.textsL ks ns := by unfold Nd.texts; rw [if_neg (by decide)]
    rw [hT] at hbd ⊢
    cases hn with
    | @mk _ _ _ _ _ da dc na nc ka kb koff kc Cs hk hd hnm hks each =>
    obtain ⟨C0, hC0⟩ : ∃ C0, C0 = nodeV 2 e da d.size dc na ns.length nc ka ks.length kc := ⟨_, rfl⟩
    have HR : Hid (Row (w.alloc (.cells C0 26)) w.heap.size C0 26) := Row.new w _ _
    have HCL : Hid (C0[0]? = some (.int .i64 2) ∧ C0[3]? = some (.slice na ns.length nc) ∧ C0[4]? = some (.slice ka ks.length kc)) := by rw [hC0]; exact ⟨rfl, rfl, rfl⟩
    have c0 : (w.alloc (.cells C0 26)).cell? ⟨w.heap.size, 0, none⟩ = some (.int .i64 2) := (Row.cell HR.out 0).trans HCL.out.1
    have hnl := hnm.len
    have hnle := hnm.le
    have hncap := hnm.cap
    have hkle := hks.le
    have hkcap := hks.cap
    unfold big at hnl
    unfold maxLen at hncap hkcap
    have HLN : Hid _ := hln
    have HEK : Hid (∀ i (h : i < ks.length), eachE ks[i] = 0) := hEK.2
    have HKC : Hid (∀ i (h : i < ks.length), ks[i].count ≤ N) := fun i h => Nd.kid_lt hN i h
    have HNE : Hid (∀ wx, Below w.heap.size w wx → ∀ i (h : i < ks.length), NodeAt wx ks[i] (Cs i)) := fun wx hx i h => (each i h).keep hx
    have HKD : Hid (∀ wx, Below w.heap.size w wx → KidsAt wx ka kb koff ks.length kc Cs) := fun wx hx => hks.keep hx
    obtain ⟨nb, noff, hna, hnc⟩ := hnm.ex
    have HNC : Hid (∀ wx, Below w.heap.size w wx → ∀ i (h : i < ns.length), wx.cell? ⟨nb, noff + i, none⟩ = some (.string ns[i])) := fun wx hx i h => (World.cell?_of_block (w := w) (hx.block nb (World.block_lt_of_cell? _ _ (hnc i h)))).trans (hnc i h)
    have HNA : Hid _ := hna
    have HKA : Hid _ := hks.at'
    have HBD : Hid (∀ i, (Nd.textsL (ks.take i) (ns.take i)).length * 16 ≤ 140737488355328) := fun i => by
      have := textsL_le ks ns i
      omega
    have HBK : Hid (∀ i (h : i < ks.length), (ks[i]).texts.length * 16 ≤ 140737488355328) := fun i h => by
      have := texts_kid ks ns i h (by omega)
      omega
    have HIH : Hid _ := IH
    obtain ⟨TA, hTA⟩ : ∃ TA, TA = Nd.textsL ks ns := ⟨_, rfl⟩
    have HTA : Hid _ := hTA
    rw [← hTA, ← hC0]
    clear hTA hT hbd hEK hE hN IH hks each hnm hna hnc hln hd hk hC0
    go_enter Tryd.func14, Tryd.ntmps14
    go_wp2
    go_loopw [3, 4] (fun v' iv wr => ∃ i : Nat, iv = .int .i64 i ∧ i ≤ ns.length ∧ wr.ownsRow w.heap.size 9 1 v' (Nd.textsL (ks.take i) (ns.take i)).length ((Nd.textsL (ks.take i) (ns.take i)).map Value.string) ∧ Below w.heap.size w wr ∧ Row wr w.heap.size C0 26) (fun _ iv _ => ns.length - (intOf iv).toNat)
    case atStart => exact ⟨0, rfl, Nat.zero_le _, World.ownsRow_nil .., (Below.refl _ _).alloc (Nat.le_refl _) _, HR.out⟩
    case round =>
      obtain ⟨i, rfl, hi', hown, hbw, hrw⟩ := hrel
      have c3 : wr.cell? ⟨w.heap.size, 3, none⟩ = some (.slice na ns.length nc) := (hrw.cell 3).trans HCL.out.2.1
      by_cases hlt : i < ns.length
      · have hi2 : i < ks.length := by have := HLN.out; omega
        obtain rfl := HNA.out (by omega)
        obtain rfl := HKA.out (by omega)
        obtain ⟨s, hs⟩ : ∃ s, s = ns[i] := ⟨_, rfl⟩
        have cn := HNC.out _ hbw i hlt
        rw [← hs] at cn
        have HS : Hid (s = ns[i]) := hs
        have HBI := HBD.out (i + 1)
        rw [textsL_take ks ns i hi2 hlt] at HBI
        simp only [List.length_append, List.length_cons] at HBI
        have HBI' : Hid _ := HBI
        obtain ⟨m, hm⟩ : ∃ m, m = (Nd.textsL (ks.take i) (ns.take i)).length := ⟨_, rfl⟩
        have HM : Hid _ := hm
        rw [← hm] at hown
        have HOW : Hid (wr.ownsRow w.heap.size 9 1 u3 m ((Nd.textsL (ks.take i) (ns.take i)).map Value.string)) := hown
        have HBW : Hid _ := hbw
        have HRW : Hid (Row wr w.heap.size C0 26) := hrw
        clear HBI hs hm hown hbw hrw
        have hbs := HBW.out.size
        have hm16 : (m + 1) * 16 ≤ 140737488355328 := by
          have h1 := HBI'.out
          rw [← HM.out] at h1
          omega
        have hm17 : (m + 1 + (ks[i]).texts.length) * 16 ≤ 140737488355328 := by
          have h1 := HBI'.out
          rw [← HM.out] at h1
          omega
        have hi2' : (i : Int) < (ks.length : Int) := by omega
        have HM17 : Hid _ := hm17
        clear hm17
        go_wp2_with (first
          | (at_builtin; refine wpList_plain rfl fun K' hK' => ?_; refine ap_one (some 26) rfl _ _ rfl w.heap.size _ _ _ rfl HOW.out s rfl hbs hm16 (fun v8 w8 hO8 hG8 => hK' _ _ ?_)
             have hbA : Below w.heap.size w (wr.alloc (.cells #[.string s] 9)) := HBW.out.alloc HBW.out.size _
             have hb8 := below_own (World.ownsRow.alloc HOW.out _) hbA hG8
             have hr8 : Row w8 w.heap.size C0 26 := row_grown (World.ownsRow.alloc HOW.out _) hG8 (Row.alloc HRW.out _) (by decide)
             have c4 : w8.cell? ⟨w.heap.size, 4, none⟩ = some (.slice (some ⟨kb, koff, none⟩) ks.length kc) := (hr8.cell 4).trans HCL.out.2.2
             have hsi2 : (Tryd.prog.info? 26).map (·.size) = some (Cs i).toList.length := by rw [infoN, Array.length_toList, (HKD.out _ hb8).size i hi2]
             have HRG : Hid _ := (HKD.out _ hb8).range i hi2
             have hca := HIH.out ks[i] (HKC.out i hi2) (HEK.out i hi2) (HBK.out i hi2) (Cs i) w8 (HNE.out _ hb8 i hi2)
             have HO8 : Hid (w8.ownsRow w.heap.size 9 1 v8 (m + 1) ((Nd.textsL (ks.take i) (ns.take i)).map Value.string ++ [.string s])) := hO8
             have HB8 : Hid _ := hb8
             have HR8 : Hid (Row w8 w.heap.size C0 26) := hr8
             clear hO8 hG8 hbA hb8 hr8 c3 cn)
          | (refine wpList_load_mid rfl 26 _ rfl kb (koff + i * 5) rfl (Cs i).toList _ HRG.out Tryd.underlying26 rfl hsi2 ?_; simp only [Array.toArray_toList])
          | (go_at_call 14; refine Calls.mono hca ?_; rintro er w9 ⟨v9, rfl, hO9, hb9⟩
             have HB9 : Hid (Below w8.heap.size w8 w9) := hb9
             have HT9 : Hid (TsAt w9 v9 (ks[i]).texts) := TsAt.of_own hO9
             have HO9 : Hid (w9.ownsRow w.heap.size 9 1 v8 (m + 1) ((Nd.textsL (ks.take i) (ns.take i)).map Value.string ++ [.string s])) := own_belowS HO8.out hb9
             have hbs9 : w.heap.size ≤ w9.heap.size := by
               have h1 := HB8.out.size
               have h2 := hb9.size
               omega
             have hm17 := HM17.out
             clear hO9 hb9 hca HRG c4)
          | (at_builtin; refine wpList_plain rfl fun K' hK' => ?_; refine ap_all (some 34) rfl _ _ rfl w.heap.size _ _ _ rfl HO9.out _ (ks[i]).texts rfl HT9.out hbs9 hm17 (fun v10 w10 hO10 hG10 => hK' _ _ ?_)))
        have HF : Hid (w10.ownsRow w.heap.size 9 1 v10 (Nd.textsL (ks.take (i + 1)) (ns.take (i + 1))).length ((Nd.textsL (ks.take (i + 1)) (ns.take (i + 1))).map Value.string) ∧ Below w.heap.size w w10 ∧ Row w10 w.heap.size C0 26) := by
          have hB9 := HB8.out.trans (HB9.out.mono HB8.out.size)
          refine ⟨?_, below_own (own_belowS HO8.out HB9.out) hB9 hG10, row_grown (own_belowS HO8.out HB9.out) hG10 (Row.below HR8.out HB9.out (Row.lt HR8.out)) (by decide)⟩
          rw [textsL_take ks ns i hi2 hlt, ← HS.out]
          have e1 : m + 1 + (ks[i]).texts.length = (Nd.textsL (ks.take i) (ns.take i) ++ s :: (ks[i]).texts).length := by
            rw [HM.out]
            simp
            omega
          rw [e1] at hO10
          simpa using hO10
        clear hO10 hG10
        go_wp2
        go_roundw
        case rel => exact ⟨i + 1, by go_num, by omega, HF.out⟩
        case measure => simp [intOf]; omega
      · have hie : i = ns.length := by omega
        subst hie
        have HF : Hid (RtPost w TA (.returned u3) wr) := by
          have e1 : ks.take ns.length = ks := List.take_of_length_le (by have := HLN.out; omega)
          rw [e1, List.take_length, ← HTA.out] at hown
          exact ⟨_, rfl, hown, hbw⟩
        clear hown hrw hbw
        go_wp2
        go_ret
        exact HF.out
  · have hT : Nd.texts (.mk k e d ns ks) = [d] := by unfold Nd.texts; rw [if_pos hk2]
    rw [hT]
    exact rtexts_leaf k e d ns ks C w hk2 hn
theorem rtexts_ok (n : Nd) (hE : eachE n = 0) (hbd : n.texts.length * 16 ≤ 140737488355328) (C : Array Value) (w : World) (hn : NodeAt w n C) : Calls Tryd.prog 14 #[.agg C] w (RtPost w n.texts) := by
  suffices h : ∀ N, ∀ n : Nd, n.count ≤ N → eachE n = 0 → n.texts.length * 16 ≤ 140737488355328 → ∀ (C : Array Value) (w : World), NodeAt w n C → Calls Tryd.prog 14 #[.agg C] w (RtPost w n.texts) from h n.count n (Nat.le_refl _) hE hbd C w hn
  intro N
  induction N with
  | zero => intro n h; have := n.count_pos; omega
  | succ N ih => exact fun n h => rtexts_step N ih n h
end Go.Proofs.YtpkbfljoakodoaaDoor
