/- My own work: the walk of the document's node. -/
import Derived.Test.YtimiginpdkokiaaDoorRStr
import Derived.Test.YtimiginpdkokiaaDoorAppN
namespace Go.Proofs.YtimiginpdkokiaaDoor
open Go.RowKit

/-- What the walk keeps: the bytes so far, what was there, the node's own cells. -/
structure Out (w : World) (C : Array Value) (wx : World) (v : Value) (Z : List UInt8) : Prop where
  buf : Buf wx w.heap.size v Z
  old : Below w.heap.size w wx
  row : Row wx w.heap.size C 26
theorem Out.size {w : World} {C : Array Value} {wx : World} {v : Value} {Z : List UInt8} (h : Out w C wx v Z) : w.heap.size ≤ wx.heap.size := h.old.size
theorem Out.call {w : World} {C : Array Value} {wx wy : World} {v : Value} {Z : List UInt8} (h : Out w C wx v Z) (hb : Below wx.heap.size wx wy) : Out w C wy v Z :=
  ⟨h.buf.keep hb, h.old.trans (hb.mono h.size), h.row.below hb h.row.lt⟩
theorem Out.more {w : World} {C : Array Value} {wx wy : World} {v v' : Value} {Z Z' : List UInt8} (h : Out w C wx v Z) (hm : More w.heap.size wx v wy v' Z') : Out w C wy v' Z' :=
  ⟨hm.buf, h.old.trans (hm.below h.buf h.size), hm.row h.buf h.row (by decide)⟩
theorem strsU_one (s : ByteArray) : strsU [s] = strU s := by simp [strsU]
theorem rstr1_ok (s : ByteArray) (hs : (strsU [s]).length ≤ 140737488351232) (w : World) : Calls Tryd.prog 21 #[.string s] w fun e w' => ∃ v, e = .returned v ∧ Buf w' w.heap.size v (strsU [s]) ∧ Below w.heap.size w w' := by
  rw [strsU_one] at hs ⊢
  rw [strU_length] at hs
  exact rstr_ok s (by omega) w
set_option maxRecDepth 20000 in
set_option maxHeartbeats 4000000 in
theorem rnode_step (N : Nat) (IH : ∀ n : Nd, n.count ≤ N → eachE n = 0 → ∀ (w : World) (C : Array Value), NodeAt w n C → (encN n).length ≤ 140737488351232 → Calls Tryd.prog 22 #[.agg C] w fun e w' => ∃ v', e = .returned v' ∧ Buf w' w.heap.size v' (encN n) ∧ Below w.heap.size w w')
    (n : Nd) (hN : n.count ≤ N + 1) (h0 : eachE n = 0) (w : World) (C : Array Value) (h : NodeAt w n C) (hl : (encN n).length ≤ 140737488351232) :
    Calls Tryd.prog 22 #[.agg C] w fun e w' => ∃ v', e = .returned v' ∧ Buf w' w.heap.size v' (encN n) ∧ Below w.heap.size w w' := by
  cases h with
  | @mk k e d ns ks da dc na nc ka kb koff kc Cs hk hd hn hks each =>
  have hkd := each_kid h0
  have HKC : Hid _ := kind_cases (alone_kind (each_alone h0))
  have hb0 : Below w.heap.size w (w.alloc (.cells (nodeV k e da d.size dc na ns.length nc ka ks.length kc) 26)) := (Below.refl _ _).alloc (Nat.le_refl _) _
  have HB0 : Hid (Below w.heap.size w (w.alloc (.cells (nodeV k e da d.size dc na ns.length nc ka ks.length kc) 26))) := hb0
  have HR0 : Hid (Row (w.alloc (.cells (nodeV k e da d.size dc na ns.length nc ka ks.length kc) 26)) w.heap.size (nodeV k e da d.size dc na ns.length nc ka ks.length kc) 26) := Row.new w _ 26
  have HD : Hid (∀ wx, Below w.heap.size w wx → BytesAt wx da d dc) := fun wx hb => hd.keep hb
  have HK : Hid (∀ wx, Below w.heap.size w wx → KidsAt wx ka kb koff ks.length kc Cs) := fun wx hb => hks.keep hb
  have HIH : Hid (∀ i (hi : i < ks.length), ∀ wx, Below w.heap.size w wx → (encN ks[i]).length ≤ 140737488351232 → Calls Tryd.prog 22 #[.agg (Cs i)] wx fun e w' => ∃ v', e = .returned v' ∧ Buf w' wx.heap.size v' (encN ks[i]) ∧ Below wx.heap.size wx w') := fun i hi wx hb hl => IH ks[i] (Nd.kid_lt hN i hi) (hkd i hi) wx (Cs i) ((each i hi).keep hb) hl
  have hkl : ks.length ≤ 9223372036854775807 := by have := hks.le; have := hks.cap; unfold maxLen at this; omega
  have hnl : ns.length ≤ 9223372036854775807 := by have := hn.le; have := hn.cap; unfold maxLen at this; omega
  have HNN : Hid (na = none → ns.length = 0 ∧ nc = 0) := hn.nil
  have HKN : Hid (ka = none → ks.length = 0 ∧ kc = 0) := hks.nil
  have HKAT : Hid (0 < ks.length → ka = some ⟨kb, koff, none⟩) := hks.at'
  obtain ⟨nb, noff, hna, hnc⟩ := hn.at''
  have HNA : Hid (0 < ns.length → na = some ⟨nb, noff, none⟩) := hna
  have HNC : Hid (∀ wx, Below w.heap.size w wx → ∀ i (h : i < ns.length), wx.cell? ⟨nb, noff + i, none⟩ = some (.string ns[i])) := hnc
  have HL : Hid ((encN (.mk k e d ns ks)).length ≤ 140737488351232) := hl
  clear hnc hd hn hks each IH hkd h0 hN hl hna hb0 hk
  have HG0 : Hid (w.heap.size + 1 = (w.alloc (.cells (nodeV k e da d.size dc na ns.length nc ka ks.length kc) 26)).heap.size) := by show _ = _; simp
  go_enter Tryd.func22, Tryd.ntmps22
  go_wp2_with (refine b_texts rfl _ [wOpen, wType] rfl (Nat.succ_pos _) (Nat.le_of_ble_eq_true rfl) rfl ?_)
  generalize hw0 : w.alloc (.cells (nodeV k e da d.size dc na ns.length nc ka ks.length kc) 26) = w0 at *
  refine Calls.mono (rtexts_ok w0 [wOpen, wType] (Nat.le_of_ble_eq_true rfl) (by rw [show (strsU [wOpen, wType]).length = 32 from rfl]; omega) _ HG0.out _ rfl _ rfl) ?_
  rintro er w1 ⟨v1, rfl, hb1, hbw⟩
  have HO1 : Hid (Out w (nodeV k e da d.size dc na ns.length nc ka ks.length kc) w1 v1 (strsU [wOpen, wType])) := ⟨buf_base hb1 (by have := HB0.out.size; omega), HB0.out.trans (hbw.mono HB0.out.size), HR0.out.below hbw HR0.out.lt⟩
  clear hb1 hbw HR0 HB0 HG0 hw0
  have c0 := (HO1.out.row.cell 0).trans (rfl : _ = some (Value.int .i64 k))
  have hkc := HKC.out
  clear HKC
  rcases hkc with ⟨rfl, rfl, rfl⟩ | ⟨rfl, rfl, rfl, rfl⟩ | ⟨rfl, rfl, hln, hd0⟩
  · have HLT : Hid ((encN (.mk 1 e d [] [])).length ≤ 140737488351232) := HL.out
    rw [encN_file] at HLT
    clear HL HNN HKN HKAT HNA HNC HK HIH
    cases e with
    | true =>
      have HBD : Hid ((strsU [wOpen, wType]).length + (strsU [wFile]).length ≤ 140737488351232) := by have := HLT.out; show _ ≤ _; (try simp only [List.length_append, if_true] at this ⊢); omega
      go_wp2_with fail
      refine Calls.mono (rstr1_ok wFile (by have := HBD.out; omega) w1) ?_
      rintro er wa2 ⟨va, rfl, hba, hbb⟩
      have HVA : Hid (∃ q, Buf wa2 q va (strsU [wFile])) := ⟨_, hba⟩
      have HOA : Hid (Out w _ wa2 v1 (strsU [wOpen, wType])) := HO1.out.call hbb
      clear hba hbb
      obtain ⟨q, hq⟩ := HVA.out
      have HQ : Hid _ := hq
      clear hq HVA
      go_wp2_with (refine ap_buf rfl _ _ rfl w.heap.size _ _ rfl HOA.out.buf q _ _ rfl HQ.out (Nat.le_trans HBD.out (by omega)) HOA.out.size ?_)
      intro v2 wb2 hm
      have HO2 : Hid (Out w _ wb2 v2 (strsU [wOpen, wType] ++ strsU [wFile])) := HOA.out.more (by (try simp only [List.append_assoc] at hm ⊢); exact hm)
      clear hm HBD HOA HQ
      clear c0
      have c1 := (HO2.out.row.cell 1).trans (rfl : _ = some (Value.bool true))
      have HBD : Hid ((strsU [wOpen, wType] ++ strsU [wFile]).length + (strsU [wExec, wNone]).length ≤ 140737488351232) := by have := HLT.out; show _ ≤ _; (try simp only [List.length_append, if_true] at this ⊢); omega
      go_wp2_with (refine b_texts rfl _ [wExec, wNone] rfl (Nat.succ_pos _) (Nat.le_of_ble_eq_true rfl) rfl ?_)
      refine Calls.mono (rtexts_ok wb2 [wExec, wNone] (Nat.le_of_ble_eq_true rfl) (by have := HBD.out; omega) _ rfl _ rfl _ rfl) ?_
      rintro er wa3 ⟨va, rfl, hba, hbb⟩
      have HVA : Hid (∃ q, Buf wa3 q va (strsU [wExec, wNone])) := ⟨_, hba⟩
      have HOA : Hid (Out w _ wa3 v2 (strsU [wOpen, wType] ++ strsU [wFile])) := HO2.out.call hbb
      clear hba hbb
      obtain ⟨q, hq⟩ := HVA.out
      have HQ : Hid _ := hq
      clear hq HVA
      go_wp2_with (refine ap_buf rfl _ _ rfl w.heap.size _ _ rfl HOA.out.buf q _ _ rfl HQ.out (Nat.le_trans HBD.out (by omega)) HOA.out.size ?_)
      intro v3 wb3 hm
      have HO3 : Hid (Out w _ wb3 v3 (strsU [wOpen, wType] ++ strsU [wFile] ++ strsU [wExec, wNone])) := HOA.out.more (by (try simp only [List.append_assoc] at hm ⊢); exact hm)
      clear hm HBD HOA HQ
      clear c1
      have c2 := (HO3.out.row.cell 2).trans (rfl : _ = some (Value.slice da d.size dc))
      have hcv := conv_bytes wb3 da d dc (HD.out _ HO3.out.old)
      have HBD : Hid ((strsU [wOpen, wType] ++ strsU [wFile] ++ strsU [wExec, wNone]).length + (strsU [wData, d]).length ≤ 140737488351232) := by have := HLT.out; show _ ≤ _; (try simp only [List.length_append, if_true] at this ⊢); omega
      go_wp2_with (refine b_texts rfl _ [wData, d] rfl (Nat.succ_pos _) (Nat.le_of_ble_eq_true rfl) rfl ?_)
      refine Calls.mono (rtexts_ok wb3 [wData, d] (Nat.le_of_ble_eq_true rfl) (by have := HBD.out; omega) _ rfl _ rfl _ rfl) ?_
      rintro er wa4 ⟨va, rfl, hba, hbb⟩
      have HVA : Hid (∃ q, Buf wa4 q va (strsU [wData, d])) := ⟨_, hba⟩
      have HOA : Hid (Out w _ wa4 v3 (strsU [wOpen, wType] ++ strsU [wFile] ++ strsU [wExec, wNone])) := HO3.out.call hbb
      clear hba hbb
      obtain ⟨q, hq⟩ := HVA.out
      have HQ : Hid _ := hq
      clear hq HVA
      go_wp2_with (refine ap_buf rfl _ _ rfl w.heap.size _ _ rfl HOA.out.buf q _ _ rfl HQ.out (Nat.le_trans HBD.out (by omega)) HOA.out.size ?_)
      intro v4 wb4 hm
      have HO4 : Hid (Out w _ wb4 v4 (strsU [wOpen, wType] ++ strsU [wFile] ++ strsU [wExec, wNone] ++ strsU [wData, d])) := HOA.out.more (by (try simp only [List.append_assoc] at hm ⊢); exact hm)
      clear hm HBD HOA HQ
      clear c2 hcv
      have HBD : Hid ((strsU [wOpen, wType] ++ strsU [wFile] ++ strsU [wExec, wNone] ++ strsU [wData, d]).length + (strsU [wShut]).length ≤ 140737488351232) := by have := HLT.out; show _ ≤ _; (try simp only [List.length_append, if_true] at this ⊢); omega
      go_wp2_with fail
      refine Calls.mono (rstr1_ok wShut (by have := HBD.out; omega) wb4) ?_
      rintro er wa5 ⟨va, rfl, hba, hbb⟩
      have HVA : Hid (∃ q, Buf wa5 q va (strsU [wShut])) := ⟨_, hba⟩
      have HOA : Hid (Out w _ wa5 v4 (strsU [wOpen, wType] ++ strsU [wFile] ++ strsU [wExec, wNone] ++ strsU [wData, d])) := HO4.out.call hbb
      clear hba hbb
      obtain ⟨q, hq⟩ := HVA.out
      have HQ : Hid _ := hq
      clear hq HVA
      go_wp2_with (refine ap_buf rfl _ _ rfl w.heap.size _ _ rfl HOA.out.buf q _ _ rfl HQ.out (Nat.le_trans HBD.out (by omega)) HOA.out.size ?_)
      intro v5 wb5 hm
      have HO5 : Hid (Out w _ wb5 v5 (strsU [wOpen, wType] ++ strsU [wFile] ++ strsU [wExec, wNone] ++ strsU [wData, d] ++ strsU [wShut])) := HOA.out.more (by (try simp only [List.append_assoc] at hm ⊢); exact hm)
      clear hm HBD HOA HQ
      go_wp2
      go_ret
      refine ⟨_, rfl, ?_, HO5.out.old⟩
      have h := HO5.out.buf
      rw [encN_file]
      simp only [List.append_assoc, if_true] at h ⊢
      exact h
    | false =>
      have HBD : Hid ((strsU [wOpen, wType]).length + (strsU [wFile]).length ≤ 140737488351232) := by have := HLT.out; show _ ≤ _; (try simp only [List.length_append, Bool.false_eq_true, if_false] at this ⊢); omega
      go_wp2_with fail
      refine Calls.mono (rstr1_ok wFile (by have := HBD.out; omega) w1) ?_
      rintro er wa2 ⟨va, rfl, hba, hbb⟩
      have HVA : Hid (∃ q, Buf wa2 q va (strsU [wFile])) := ⟨_, hba⟩
      have HOA : Hid (Out w _ wa2 v1 (strsU [wOpen, wType])) := HO1.out.call hbb
      clear hba hbb
      obtain ⟨q, hq⟩ := HVA.out
      have HQ : Hid _ := hq
      clear hq HVA
      go_wp2_with (refine ap_buf rfl _ _ rfl w.heap.size _ _ rfl HOA.out.buf q _ _ rfl HQ.out (Nat.le_trans HBD.out (by omega)) HOA.out.size ?_)
      intro v2 wb2 hm
      have HO2 : Hid (Out w _ wb2 v2 (strsU [wOpen, wType] ++ strsU [wFile])) := HOA.out.more (by (try simp only [List.append_assoc] at hm ⊢); exact hm)
      clear hm HBD HOA HQ
      clear c0
      have c1 := (HO2.out.row.cell 1).trans (rfl : _ = some (Value.bool false))
      have c2 := (HO2.out.row.cell 2).trans (rfl : _ = some (Value.slice da d.size dc))
      have hcv := conv_bytes wb2 da d dc (HD.out _ HO2.out.old)
      have HBD : Hid ((strsU [wOpen, wType] ++ strsU [wFile]).length + (strsU [wData, d]).length ≤ 140737488351232) := by have := HLT.out; show _ ≤ _; (try simp only [List.length_append, Bool.false_eq_true, if_false] at this ⊢); omega
      go_wp2_with (refine b_texts rfl _ [wData, d] rfl (Nat.succ_pos _) (Nat.le_of_ble_eq_true rfl) rfl ?_)
      refine Calls.mono (rtexts_ok wb2 [wData, d] (Nat.le_of_ble_eq_true rfl) (by have := HBD.out; omega) _ rfl _ rfl _ rfl) ?_
      rintro er wa4 ⟨va, rfl, hba, hbb⟩
      have HVA : Hid (∃ q, Buf wa4 q va (strsU [wData, d])) := ⟨_, hba⟩
      have HOA : Hid (Out w _ wa4 v2 (strsU [wOpen, wType] ++ strsU [wFile])) := HO2.out.call hbb
      clear hba hbb
      obtain ⟨q, hq⟩ := HVA.out
      have HQ : Hid _ := hq
      clear hq HVA
      go_wp2_with (refine ap_buf rfl _ _ rfl w.heap.size _ _ rfl HOA.out.buf q _ _ rfl HQ.out (Nat.le_trans HBD.out (by omega)) HOA.out.size ?_)
      intro v4 wb4 hm
      have HO4 : Hid (Out w _ wb4 v4 (strsU [wOpen, wType] ++ strsU [wFile] ++ strsU [wData, d])) := HOA.out.more (by (try simp only [List.append_assoc] at hm ⊢); exact hm)
      clear hm HBD HOA HQ
      clear c2 hcv c1
      have HBD : Hid ((strsU [wOpen, wType] ++ strsU [wFile] ++ strsU [wData, d]).length + (strsU [wShut]).length ≤ 140737488351232) := by have := HLT.out; show _ ≤ _; (try simp only [List.length_append, Bool.false_eq_true, if_false] at this ⊢); omega
      go_wp2_with fail
      refine Calls.mono (rstr1_ok wShut (by have := HBD.out; omega) wb4) ?_
      rintro er wa5 ⟨va, rfl, hba, hbb⟩
      have HVA : Hid (∃ q, Buf wa5 q va (strsU [wShut])) := ⟨_, hba⟩
      have HOA : Hid (Out w _ wa5 v4 (strsU [wOpen, wType] ++ strsU [wFile] ++ strsU [wData, d])) := HO4.out.call hbb
      clear hba hbb
      obtain ⟨q, hq⟩ := HVA.out
      have HQ : Hid _ := hq
      clear hq HVA
      go_wp2_with (refine ap_buf rfl _ _ rfl w.heap.size _ _ rfl HOA.out.buf q _ _ rfl HQ.out (Nat.le_trans HBD.out (by omega)) HOA.out.size ?_)
      intro v5 wb5 hm
      have HO5 : Hid (Out w _ wb5 v5 (strsU [wOpen, wType] ++ strsU [wFile] ++ strsU [wData, d] ++ strsU [wShut])) := HOA.out.more (by (try simp only [List.append_assoc] at hm ⊢); exact hm)
      clear hm HBD HOA HQ
      go_wp2
      go_ret
      refine ⟨_, rfl, ?_, HO5.out.old⟩
      have h := HO5.out.buf
      rw [encN_file]
      simp only [List.append_assoc, Bool.false_eq_true, if_false, List.nil_append] at h ⊢
      exact h
  · have HLT : Hid ((encN (.mk 3 false d [] [])).length ≤ 140737488351232) := HL.out
    rw [encN_link] at HLT
    clear HL HNN HKN HKAT HNA HNC HK HIH
    have c2 := (HO1.out.row.cell 2).trans (rfl : _ = some (Value.slice da d.size dc))
    have hcv := conv_bytes w1 da d dc (HD.out _ HO1.out.old)
    have HBD : Hid ((strsU [wOpen, wType]).length + (strsU [wLink, wTarget, d]).length ≤ 140737488351232) := by have := HLT.out; show _ ≤ _; (try simp only [List.length_append] at this ⊢); omega
    go_wp2_with (refine b_texts rfl _ [wLink, wTarget, d] rfl (Nat.succ_pos _) (Nat.le_of_ble_eq_true rfl) rfl ?_)
    refine Calls.mono (rtexts_ok w1 [wLink, wTarget, d] (Nat.le_of_ble_eq_true rfl) (by have := HBD.out; omega) _ rfl _ rfl _ rfl) ?_
    rintro er wa2 ⟨va, rfl, hba, hbb⟩
    have HVA : Hid (∃ q, Buf wa2 q va (strsU [wLink, wTarget, d])) := ⟨_, hba⟩
    have HOA : Hid (Out w _ wa2 v1 (strsU [wOpen, wType])) := HO1.out.call hbb
    clear hba hbb
    obtain ⟨q, hq⟩ := HVA.out
    have HQ : Hid _ := hq
    clear hq HVA
    go_wp2_with (refine ap_buf rfl _ _ rfl w.heap.size _ _ rfl HOA.out.buf q _ _ rfl HQ.out (Nat.le_trans HBD.out (by omega)) HOA.out.size ?_)
    intro v2 wb2 hm
    have HO2 : Hid (Out w _ wb2 v2 (strsU [wOpen, wType] ++ strsU [wLink, wTarget, d])) := HOA.out.more (by (try simp only [List.append_assoc] at hm ⊢); exact hm)
    clear hm HBD HOA HQ
    clear c2 hcv c0
    have HBD : Hid ((strsU [wOpen, wType] ++ strsU [wLink, wTarget, d]).length + (strsU [wShut]).length ≤ 140737488351232) := by have := HLT.out; show _ ≤ _; (try simp only [List.length_append] at this ⊢); omega
    go_wp2_with fail
    refine Calls.mono (rstr1_ok wShut (by have := HBD.out; omega) wb2) ?_
    rintro er wa3 ⟨va, rfl, hba, hbb⟩
    have HVA : Hid (∃ q, Buf wa3 q va (strsU [wShut])) := ⟨_, hba⟩
    have HOA : Hid (Out w _ wa3 v2 (strsU [wOpen, wType] ++ strsU [wLink, wTarget, d])) := HO2.out.call hbb
    clear hba hbb
    obtain ⟨q, hq⟩ := HVA.out
    have HQ : Hid _ := hq
    clear hq HVA
    go_wp2_with (refine ap_buf rfl _ _ rfl w.heap.size _ _ rfl HOA.out.buf q _ _ rfl HQ.out (Nat.le_trans HBD.out (by omega)) HOA.out.size ?_)
    intro v3 wb3 hm
    have HO3 : Hid (Out w _ wb3 v3 (strsU [wOpen, wType] ++ strsU [wLink, wTarget, d] ++ strsU [wShut])) := HOA.out.more (by (try simp only [List.append_assoc] at hm ⊢); exact hm)
    clear hm HBD HOA HQ
    go_wp2
    go_ret
    refine ⟨_, rfl, ?_, HO3.out.old⟩
    have h := HO3.out.buf
    rw [encN_link]
    simp only [List.append_assoc] at h ⊢
    exact h
  · have HLT : Hid ((encN (.mk 2 false d ns ks)).length ≤ 140737488351232) := HL.out
    rw [encN_dir] at HLT
    clear HL HD
    have HBD : Hid ((strsU [wOpen, wType]).length + (strsU [wDir]).length ≤ 140737488351232) := by have := HLT.out; show _ ≤ _; (try simp only [List.length_append] at this ⊢); omega
    go_wp2_with fail
    refine Calls.mono (rstr1_ok wDir (by have := HBD.out; omega) w1) ?_
    rintro er wa2 ⟨va, rfl, hba, hbb⟩
    have HVA : Hid (∃ q, Buf wa2 q va (strsU [wDir])) := ⟨_, hba⟩
    have HOA : Hid (Out w _ wa2 v1 (strsU [wOpen, wType])) := HO1.out.call hbb
    clear hba hbb
    obtain ⟨q, hq⟩ := HVA.out
    have HQ : Hid _ := hq
    clear hq HVA
    go_wp2_with (refine ap_buf rfl _ _ rfl w.heap.size _ _ rfl HOA.out.buf q _ _ rfl HQ.out (Nat.le_trans HBD.out (by omega)) HOA.out.size ?_)
    intro v2 wb2 hm
    have HO2 : Hid (Out w _ wb2 v2 (strsU [wOpen, wType] ++ strsU [wDir])) := HOA.out.more (by (try simp only [List.append_assoc] at hm ⊢); exact hm)
    clear hm HBD HOA HQ
    clear c0
    go_wp2_with fail
    go_loopw [3, 4] (fun bv iv wx => ∃ (i : Nat) (Z : List UInt8), iv = .int .i64 i ∧ i ≤ ns.length ∧ Hid (Out w (nodeV 2 false da d.size dc na ns.length nc ka ks.length kc) wx bv Z) ∧ Hid (Z ++ encL (ks.drop i) (ns.drop i) = strsU [wOpen, wType] ++ (strsU [wDir] ++ encL ks ns))) (fun _ iv _ => ns.length - (intOf iv).toNat)
    case atStart => exact ⟨0, _, rfl, Nat.zero_le _, HO2, by show _ = _; simp only [List.drop_zero, List.append_assoc]⟩
    case round =>
      obtain ⟨i, Z, rfl, hi, HO3, HZ⟩ := hrel
      have c3 := (HO3.out.row.cell 3).trans (rfl : _ = some (Value.slice na ns.length nc))
      by_cases hlt : i < ns.length
      · have hlt' : (i : Int) < (ns.length : Int) := by omega
        have hik : i < ks.length := by omega
        have hik' : (i : Int) < (ks.length : Int) := by omega
        have HZN : Hid _ := encL_next ks ns i hik hlt
        have HLT2 : Hid (Z.length + ((strsU [wEntry, wOpen, wName, ns[i], wNode]).length + ((encN ks[i]).length + (strsU [wShut]).length)) ≤ 140737488351232) := by
          have h1 := congrArg List.length HZ.out
          have h2 := HLT.out
          rw [HZN.out] at h1
          simp only [List.length_append] at h1 h2
          show _ ≤ _
          omega
        have HLT0 : Hid _ := HLT
        clear HLT
        have HLT : Hid _ := HLT2
        obtain rfl := HNA.out (by omega)
        obtain rfl := HKAT.out (by omega)
        have cn := HNC.out _ HO3.out.old i hlt
        have HBD : Hid ((Z).length + (strsU [wEntry, wOpen, wName, ns[i], wNode]).length ≤ 140737488351232) := by have := HLT.out; show _ ≤ _; (try simp only [List.length_append] at this ⊢); omega
        go_wp2_with (refine b_texts rfl _ [wEntry, wOpen, wName, ns[i], wNode] rfl (Nat.succ_pos _) (Nat.le_of_ble_eq_true rfl) rfl ?_)
        refine Calls.mono (rtexts_ok wr [wEntry, wOpen, wName, ns[i], wNode] (Nat.le_of_ble_eq_true rfl) (by have := HBD.out; omega) _ rfl _ rfl _ rfl) ?_
        rintro er wa4 ⟨va, rfl, hba, hbb⟩
        have HVA : Hid (∃ q, Buf wa4 q va (strsU [wEntry, wOpen, wName, ns[i], wNode])) := ⟨_, hba⟩
        have HOA : Hid (Out w _ wa4 u3 (Z)) := HO3.out.call hbb
        clear hba hbb
        obtain ⟨q, hq⟩ := HVA.out
        have HQ : Hid _ := hq
        clear hq HVA
        go_wp2_with (refine ap_buf rfl _ _ rfl w.heap.size _ _ rfl HOA.out.buf q _ _ rfl HQ.out (Nat.le_trans HBD.out (by omega)) HOA.out.size ?_)
        intro v4 wb4 hm
        have HO4 : Hid (Out w _ wb4 v4 (Z ++ strsU [wEntry, wOpen, wName, ns[i], wNode])) := HOA.out.more (by (try simp only [List.append_assoc] at hm ⊢); exact hm)
        clear hm HBD HOA HQ
        clear cn c3
        have c4 := (HO4.out.row.cell 4).trans (rfl : _ = some (Value.slice (some ⟨kb, koff, none⟩) ks.length kc))
        have HRG : Hid _ := (HK.out _ HO4.out.old).range i hik
        have hsi : (Tryd.prog.info? 26).map (·.size) = some (Cs i).toList.length := by rw [infoN, Array.length_toList, (HK.out _ HO4.out.old).size i hik]
        have HBD : Hid ((Z ++ strsU [wEntry, wOpen, wName, ns[i], wNode]).length + (encN ks[i]).length ≤ 140737488351232) := by have := HLT.out; show _ ≤ _; (try simp only [List.length_append] at this ⊢); omega
        have HC : Hid (Calls Tryd.prog 22 #[.agg (Cs i)] wb4 fun e w' => ∃ v', e = .returned v' ∧ Buf w' wb4.heap.size v' (encN ks[i]) ∧ Below wb4.heap.size wb4 w') := HIH.out i hik wb4 HO4.out.old (by have := HBD.out; omega)
        go_wp2_with (refine wpList_load_mid rfl 26 _ rfl kb (koff + i * 5) rfl (Cs i).toList _ HRG.out Tryd.underlying26 rfl hsi ?_; simp only [Array.toArray_toList])
        refine Calls.mono HC.out ?_
        rintro er wa5 ⟨va, rfl, hba, hbb⟩
        have HQ : Hid (Buf wa5 wb4.heap.size va (encN ks[i])) := hba
        have HOA : Hid (Out w _ wa5 v4 (Z ++ strsU [wEntry, wOpen, wName, ns[i], wNode])) := HO4.out.call hbb
        clear hba hbb HC HRG c4 hsi
        go_wp2_with (refine ap_buf rfl _ _ rfl w.heap.size _ _ rfl HOA.out.buf _ _ _ rfl HQ.out (Nat.le_trans HBD.out (by omega)) HOA.out.size ?_)
        intro v5 wb5 hm
        have HO5 : Hid (Out w _ wb5 v5 (Z ++ strsU [wEntry, wOpen, wName, ns[i], wNode] ++ encN ks[i])) := HOA.out.more (by (try simp only [List.append_assoc] at hm ⊢); exact hm)
        clear hm HBD HOA HQ
        have HBD : Hid ((Z ++ strsU [wEntry, wOpen, wName, ns[i], wNode] ++ encN ks[i]).length + (strsU [wShut]).length ≤ 140737488351232) := by have := HLT.out; show _ ≤ _; (try simp only [List.length_append] at this ⊢); omega
        go_wp2_with fail
        refine Calls.mono (rstr1_ok wShut (by have := HBD.out; omega) wb5) ?_
        rintro er wa6 ⟨va, rfl, hba, hbb⟩
        have HVA : Hid (∃ q, Buf wa6 q va (strsU [wShut])) := ⟨_, hba⟩
        have HOA : Hid (Out w _ wa6 v5 (Z ++ strsU [wEntry, wOpen, wName, ns[i], wNode] ++ encN ks[i])) := HO5.out.call hbb
        clear hba hbb
        obtain ⟨q, hq⟩ := HVA.out
        have HQ : Hid _ := hq
        clear hq HVA
        go_wp2_with (refine ap_buf rfl _ _ rfl w.heap.size _ _ rfl HOA.out.buf q _ _ rfl HQ.out (Nat.le_trans HBD.out (by omega)) HOA.out.size ?_)
        intro v6 wb6 hm
        have HO6 : Hid (Out w _ wb6 v6 (Z ++ strsU [wEntry, wOpen, wName, ns[i], wNode] ++ encN ks[i] ++ strsU [wShut])) := HOA.out.more (by (try simp only [List.append_assoc] at hm ⊢); exact hm)
        clear hm HBD HOA HQ
        clear HO5 HO4 HO3
        have HZ6 : Hid ((Z ++ strsU [wEntry, wOpen, wName, ns[i], wNode] ++ encN ks[i] ++ strsU [wShut]) ++ encL (ks.drop (i + 1)) (ns.drop (i + 1)) = strsU [wOpen, wType] ++ (strsU [wDir] ++ encL ks ns)) := by
          have h := HZ.out
          rw [HZN.out] at h
          show _ = _
          rw [← h]
          simp only [List.append_assoc]
        clear HZ HZN HLT HLT2
        go_wp2
        go_roundw
        case rel => exact ⟨i + 1, _, by go_num, by omega, HO6, HZ6⟩
        case measure => simp [intOf]; omega
      · have hlt' : ¬ (i : Int) < (ns.length : Int) := by omega
        have HZE : Hid (Z = strsU [wOpen, wType] ++ (strsU [wDir] ++ encL ks ns)) := by
          have h := HZ.out
          rw [List.drop_eq_nil_of_le (by omega : ks.length ≤ i), encL_nil, List.append_nil] at h
          exact h
        have HLT2 : Hid (Z.length + (strsU [wShut]).length ≤ 140737488351232) := by have := HLT.out; show _ ≤ _; rw [HZE.out]; simp only [List.length_append] at this ⊢; omega
        clear HLT
        have HLT : Hid _ := HLT2
        have HBD : Hid ((Z).length + (strsU [wShut]).length ≤ 140737488351232) := by have := HLT.out; show _ ≤ _; (try simp only [List.length_append] at this ⊢); omega
        go_wp2_with fail
        refine Calls.mono (rstr1_ok wShut (by have := HBD.out; omega) wr) ?_
        rintro er wa7 ⟨va, rfl, hba, hbb⟩
        have HVA : Hid (∃ q, Buf wa7 q va (strsU [wShut])) := ⟨_, hba⟩
        have HOA : Hid (Out w _ wa7 u3 (Z)) := HO3.out.call hbb
        clear hba hbb
        obtain ⟨q, hq⟩ := HVA.out
        have HQ : Hid _ := hq
        clear hq HVA
        go_wp2_with (refine ap_buf rfl _ _ rfl w.heap.size _ _ rfl HOA.out.buf q _ _ rfl HQ.out (Nat.le_trans HBD.out (by omega)) HOA.out.size ?_)
        intro v7 wb7 hm
        have HO7 : Hid (Out w _ wb7 v7 (Z ++ strsU [wShut])) := HOA.out.more (by (try simp only [List.append_assoc] at hm ⊢); exact hm)
        clear hm HBD HOA HQ
        clear c3
        go_wp2
        go_ret
        refine ⟨_, rfl, ?_, HO7.out.old⟩
        have h := HO7.out.buf
        rw [encN_dir]
        rw [HZE.out] at h
        simp only [List.append_assoc] at h ⊢
        exact h
theorem rnode_ok (n : Nd) (h0 : eachE n = 0) (w : World) (C : Array Value) (h : NodeAt w n C) (hl : (encN n).length ≤ 140737488351232) : Calls Tryd.prog 22 #[.agg C] w fun e w' => ∃ v', e = .returned v' ∧ Buf w' w.heap.size v' (encN n) ∧ Below w.heap.size w w' := by
  have key : ∀ N : Nat, ∀ n : Nd, n.count ≤ N → eachE n = 0 → ∀ (w : World) (C : Array Value), NodeAt w n C → (encN n).length ≤ 140737488351232 → Calls Tryd.prog 22 #[.agg C] w fun e w' => ∃ v', e = .returned v' ∧ Buf w' w.heap.size v' (encN n) ∧ Below w.heap.size w w' := by
    intro N
    induction N with
    | zero => intro n hn; have := n.count_pos; omega
    | succ N ih => exact rnode_step N ih
  exact key n.count n (Nat.le_refl _) h0 w C h hl
end Go.Proofs.YtimiginpdkokiaaDoor
