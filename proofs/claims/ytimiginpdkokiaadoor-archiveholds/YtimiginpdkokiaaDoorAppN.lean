/- My own work: the walk of appendNode. -/
import Derived.Test.YtimiginpdkokiaaDoorEncN
namespace Go.Proofs.YtimiginpdkokiaaDoor
open Go.RowKit

theorem encN_file (e : Bool) (d : ByteArray) : encN (.mk 1 e d [] []) = strsU [wOpen, wType] ++ ((strsU [wFile] ++ ((if e then strsU [wExec, wNone] else []) ++ strsU [wData, d])) ++ strsU [wShut]) := by
  unfold encN
  rw [if_pos rfl]
theorem encN_link (d : ByteArray) : encN (.mk 3 false d [] []) = strsU [wOpen, wType] ++ (strsU [wLink, wTarget, d] ++ strsU [wShut]) := by
  unfold encN
  rw [if_neg (by decide), if_pos rfl]
theorem encN_dir (e : Bool) (d : ByteArray) (ns : List ByteArray) (ks : List Nd) : encN (.mk 2 e d ns ks) = strsU [wOpen, wType] ++ ((strsU [wDir] ++ encL ks ns) ++ strsU [wShut]) := by
  unfold encN
  rw [if_neg (by decide), if_neg (by decide), if_pos rfl]
set_option maxRecDepth 20000 in
set_option maxHeartbeats 4000000 in
theorem appendNode_step (N : Nat) (IH : ∀ n : Nd, n.count ≤ N → eachE n = 0 → ∀ (wO : World) (C : Array Value), NodeAt wO n C → ∀ (w : World), Below wO.heap.size wO w → ∀ (v : Value) (X : List UInt8), Buf w wO.heap.size v X → X.length + (encN n).length ≤ 140737488355328 →
      Calls Tryd.prog 18 #[v, .agg C] w fun e w' => ∃ v', e = .returned v' ∧ More wO.heap.size w v w' v' (X ++ encN n))
    (n : Nd) (hN : n.count ≤ N + 1) (h0 : eachE n = 0) (wO : World) (C : Array Value) (h : NodeAt wO n C) (w : World) (hO : Below wO.heap.size wO w) (v : Value) (X : List UInt8) (hX : Buf w wO.heap.size v X) (hl : X.length + (encN n).length ≤ 140737488355328) :
    Calls Tryd.prog 18 #[v, .agg C] w fun e w' => ∃ v', e = .returned v' ∧ More wO.heap.size w v w' v' (X ++ encN n) := by
  cases h with
  | @mk k e d ns ks da dc na nc ka kb koff kc Cs hk hd hn hks each =>
  obtain ⟨B, hBe⟩ : ∃ B, B = wO.heap.size := ⟨_, rfl⟩
  have hBw : B ≤ w.heap.size := by have := hO.size; omega
  have hkd := each_kid h0
  have hal := alone_kind (each_alone h0)
  have hkc := kind_cases hal
  have hb0 : Below w.heap.size w (w.alloc (.cells (nodeV k e da d.size dc na ns.length nc ka ks.length kc) 26)) := (Below.refl _ _).alloc (Nat.le_refl _) _
  have hR := Row.new w (nodeV k e da d.size dc na ns.length nc ka ks.length kc) 26
  have hX0 : Buf (w.alloc (.cells (nodeV k e da d.size dc na ns.length nc ka ks.length kc) 26)) B v X := by rw [hBe]; exact hX.keep hb0
  have HD : Hid (∀ wx, Below B wO wx → BytesAt wx da d dc) := fun wx hb => hd.keep (by rw [hBe] at hb; exact hb)
  have HS : Hid (∀ wx, Below B wO wx → StrsAt wx na ns nc) := fun wx hb => hn.keep (by rw [hBe] at hb; exact hb)
  have HK : Hid (∀ wx, Below B wO wx → KidsAt wx ka kb koff ks.length kc Cs) := fun wx hb => hks.keep (by rw [hBe] at hb; exact hb)
  have HIH : Hid (∀ i (hi : i < ks.length), ∀ wx, Below B wO wx → ∀ (v : Value) (X : List UInt8), Buf wx B v X → X.length + (encN ks[i]).length ≤ 140737488355328 → Calls Tryd.prog 18 #[v, .agg (Cs i)] wx fun e w' => ∃ v', e = .returned v' ∧ More B wx v w' v' (X ++ encN ks[i])) := fun i hi wx hb v X hX hl => by
    rw [hBe] at hb hX ⊢
    exact IH ks[i] (Nd.kid_lt hN i hi) (hkd i hi) wO (Cs i) (each i hi) wx hb v X hX hl
  have HE : Hid (encN (.mk k e d ns ks) = strsU [wOpen, wType] ++ ((if k = 1 then strsU [wFile] ++ ((if e then strsU [wExec, wNone] else []) ++ strsU [wData, d]) else if k = 3 then strsU [wLink, wTarget, d] else if k = 2 then strsU [wDir] ++ encL ks ns else []) ++ strsU [wShut])) := by show _ = _; unfold encN; rfl
  have HBO : Hid (Below B wO w) := by rw [hBe]; exact hO
  rw [← hBe]
  have hkl : ks.length ≤ 9223372036854775807 := by have := hks.le; have := hks.cap; unfold maxLen at this; omega
  have hnl : ns.length ≤ 9223372036854775807 := by have := hn.le; have := hn.cap; unfold maxLen at this; omega
  have hnn := hn.nil
  have hkn := hks.nil
  have hkat := hks.at'
  have hnat : ∃ nb noff, (0 < ns.length → na = some ⟨nb, noff, none⟩) ∧ ∀ wx, Below B wO wx → ∀ i (h : i < ns.length), wx.cell? ⟨nb, noff + i, none⟩ = some (.string ns[i]) := by
    obtain ⟨nb, noff, h1, h2⟩ := hn.at''
    exact ⟨nb, noff, h1, fun wx hb => h2 wx (by rw [hBe] at hb; exact hb)⟩
  obtain ⟨nb, noff, hna, hnc⟩ := hnat
  have HNC : Hid (∀ wx, Below B wO wx → ∀ i (h : i < ns.length), wx.cell? ⟨nb, noff + i, none⟩ = some (.string ns[i])) := hnc
  have HL : Hid (X.length + (encN (.mk k e d ns ks)).length ≤ 140737488355328) := hl
  have HKC : Hid _ := hkc
  have HNN : Hid (na = none → ns.length = 0 ∧ nc = 0) := hnn
  have HKN : Hid (ka = none → ks.length = 0 ∧ kc = 0) := hkn
  have HKAT : Hid (0 < ks.length → ka = some ⟨kb, koff, none⟩) := hkat
  have HNA : Hid (0 < ns.length → na = some ⟨nb, noff, none⟩) := hna
  have hb0' : Hid (Below w.heap.size w (w.alloc (.cells (nodeV k e da d.size dc na ns.length nc ka ks.length kc) 26))) := hb0
  have HR0 : Hid (Row (w.alloc (.cells (nodeV k e da d.size dc na ns.length nc ka ks.length kc) 26)) w.heap.size (nodeV k e da d.size dc na ns.length nc ka ks.length kc) 26) := hR
  have HX0 : Hid (Buf (w.alloc (.cells (nodeV k e da d.size dc na ns.length nc ka ks.length kc) 26)) B v X) := hX0
  clear hnc hd hn hks each IH hX hO hal hkd h0 hN hl hkc hnn hkn hkat hna hb0 hR hX0 hBe hk
  go_enter Tryd.func18, Tryd.ntmps18
  go_wp2_with (refine b_texts rfl _ [wOpen, wType] rfl (by decide) (by decide) rfl ?_)
  generalize hw0 : w.alloc (.cells (nodeV k e da d.size dc na ns.length nc ka ks.length kc) 26) = w0 at *
  have hB0 : B ≤ w0.heap.size := by have := hb0'.out.size; omega
  have HG0 : Hid (w.heap.size + 1 = w0.heap.size) := by show _ = _; rw [← hw0]; simp
  have HR : Hid (∀ wx v' Z, More B w0 v wx v' Z → Row wx w.heap.size (nodeV k e da d.size dc na ns.length nc ka ks.length kc) 26) := fun wx v' Z hm => hm.row HX0.out HR0.out (by decide)
  have HBB : Hid (∀ wx v' Z, More B w0 v wx v' Z → Below B wO wx) := fun wx v' Z hm => (HBO.out.trans (hb0'.out.mono hBw)).trans (hm.below HX0.out hB0)
  have HSZ : Hid (∀ wx v' Z, More B w0 v wx v' Z → B ≤ wx.heap.size) := fun wx v' Z hm => by have := hm.grown.size; show _ ≤ _; omega
  have HEND : Hid (∀ wx v' Z, More B w0 v wx v' Z → More B w v wx v' Z) := fun wx v' Z hm => More.after hb0'.out hm
  have HL1 : Hid (X.length + (strsU [wOpen, wType]).length ≤ 140737488355328) := by have := HL.out; rw [HE.out, List.length_append] at this; show _ ≤ _; omega
  refine Calls.mono (texts_ok B v X w0 HX0.out hB0 [wOpen, wType] (by decide) HL1.out _ HG0.out _ rfl _ rfl) ?_
  rintro er w1 ⟨v1, rfl, hm1⟩
  have HM1 : Hid (More B w0 v w1 v1 (X ++ strsU [wOpen, wType])) := hm1
  clear hm1
  have c0 := ((HR.out _ _ _ HM1.out).cell 0).trans (rfl : _ = some (Value.int .i64 k))
  have hkc := HKC.out
  clear HKC
  rcases hkc with ⟨rfl, rfl, rfl⟩ | ⟨rfl, rfl, rfl, rfl⟩ | ⟨rfl, rfl, hln, hd0⟩
  · have HLT : Hid (X.length + (encN (.mk 1 e d [] [])).length ≤ 140737488355328) := HL.out
    rw [encN_file] at HLT
    clear HL HE HNN HKN HKAT HNA HNC HK HS HIH
    cases e with
    | true =>
      have hbd : (X ++ strsU [wOpen, wType]).length + (strsU [wFile]).length ≤ 140737488355328 := by have := HLT.out; simp only [List.length_append, if_true] at this ⊢; omega
      have HBD : Hid _ := hbd
      clear hbd
      go_wp2_with (refine b_texts rfl _ [wFile] rfl (Nat.succ_pos _) (Nat.le_of_ble_eq_true rfl) rfl ?_)
      refine Calls.mono (texts_ok B v1 (X ++ strsU [wOpen, wType]) w1 HM1.out.buf (HSZ.out _ _ _ HM1.out) [wFile] (Nat.le_of_ble_eq_true rfl) HBD.out _ rfl _ rfl _ rfl) ?_
      rintro er w2 ⟨v2, rfl, hm⟩
      have HM2 : Hid (More B w0 v w2 v2 (X ++ strsU [wOpen, wType] ++ strsU [wFile])) := HM1.out.trans hm
      clear hm HBD
      clear c0
      have c1 := ((HR.out _ _ _ HM2.out).cell 1).trans (rfl : _ = some (Value.bool true))
      have hbd : (X ++ strsU [wOpen, wType] ++ strsU [wFile]).length + (strsU [wExec, wNone]).length ≤ 140737488355328 := by have := HLT.out; simp only [List.length_append, if_true] at this ⊢; omega
      have HBD : Hid _ := hbd
      clear hbd
      go_wp2_with (refine b_texts rfl _ [wExec, wNone] rfl (Nat.succ_pos _) (Nat.le_of_ble_eq_true rfl) rfl ?_)
      refine Calls.mono (texts_ok B v2 (X ++ strsU [wOpen, wType] ++ strsU [wFile]) w2 HM2.out.buf (HSZ.out _ _ _ HM2.out) [wExec, wNone] (Nat.le_of_ble_eq_true rfl) HBD.out _ rfl _ rfl _ rfl) ?_
      rintro er w3 ⟨v3, rfl, hm⟩
      have HM3 : Hid (More B w0 v w3 v3 (X ++ strsU [wOpen, wType] ++ strsU [wFile] ++ strsU [wExec, wNone])) := HM2.out.trans hm
      clear hm HBD
      clear c1
      have c2 := ((HR.out _ _ _ HM3.out).cell 2).trans (rfl : _ = some (Value.slice da d.size dc))
      have hcv := conv_bytes w3 da d dc (HD.out _ (HBB.out _ _ _ HM3.out))
      have hbd : (X ++ strsU [wOpen, wType] ++ strsU [wFile] ++ strsU [wExec, wNone]).length + (strsU [wData, d]).length ≤ 140737488355328 := by have := HLT.out; simp only [List.length_append, if_true] at this ⊢; omega
      have HBD : Hid _ := hbd
      clear hbd
      go_wp2_with (refine b_texts rfl _ [wData, d] rfl (Nat.succ_pos _) (Nat.le_of_ble_eq_true rfl) rfl ?_)
      refine Calls.mono (texts_ok B v3 (X ++ strsU [wOpen, wType] ++ strsU [wFile] ++ strsU [wExec, wNone]) w3 HM3.out.buf (HSZ.out _ _ _ HM3.out) [wData, d] (Nat.le_of_ble_eq_true rfl) HBD.out _ rfl _ rfl _ rfl) ?_
      rintro er w4 ⟨v4, rfl, hm⟩
      have HM4 : Hid (More B w0 v w4 v4 (X ++ strsU [wOpen, wType] ++ strsU [wFile] ++ strsU [wExec, wNone] ++ strsU [wData, d])) := HM3.out.trans hm
      clear hm HBD
      clear c2 hcv
      have hbd : (X ++ strsU [wOpen, wType] ++ strsU [wFile] ++ strsU [wExec, wNone] ++ strsU [wData, d]).length + (strsU [wShut]).length ≤ 140737488355328 := by have := HLT.out; simp only [List.length_append, if_true] at this ⊢; omega
      have HBD : Hid _ := hbd
      clear hbd
      go_wp2_with (refine b_texts rfl _ [wShut] rfl (Nat.succ_pos _) (Nat.le_of_ble_eq_true rfl) rfl ?_)
      refine Calls.mono (texts_ok B v4 (X ++ strsU [wOpen, wType] ++ strsU [wFile] ++ strsU [wExec, wNone] ++ strsU [wData, d]) w4 HM4.out.buf (HSZ.out _ _ _ HM4.out) [wShut] (Nat.le_of_ble_eq_true rfl) HBD.out _ rfl _ rfl _ rfl) ?_
      rintro er w5 ⟨v5, rfl, hm⟩
      have HM5 : Hid (More B w0 v w5 v5 (X ++ strsU [wOpen, wType] ++ strsU [wFile] ++ strsU [wExec, wNone] ++ strsU [wData, d] ++ strsU [wShut])) := HM4.out.trans hm
      clear hm HBD
      go_wp2
      go_ret
      refine ⟨_, rfl, HEND.out _ _ _ ?_⟩
      have h := HM5.out
      rw [encN_file]
      simp only [List.append_assoc, if_true] at h ⊢
      exact h
    | false =>
      have hbd : (X ++ strsU [wOpen, wType]).length + (strsU [wFile]).length ≤ 140737488355328 := by have := HLT.out; simp only [List.length_append, Bool.false_eq_true, if_false] at this ⊢; omega
      have HBD : Hid _ := hbd
      clear hbd
      go_wp2_with (refine b_texts rfl _ [wFile] rfl (Nat.succ_pos _) (Nat.le_of_ble_eq_true rfl) rfl ?_)
      refine Calls.mono (texts_ok B v1 (X ++ strsU [wOpen, wType]) w1 HM1.out.buf (HSZ.out _ _ _ HM1.out) [wFile] (Nat.le_of_ble_eq_true rfl) HBD.out _ rfl _ rfl _ rfl) ?_
      rintro er w2 ⟨v2, rfl, hm⟩
      have HM2 : Hid (More B w0 v w2 v2 (X ++ strsU [wOpen, wType] ++ strsU [wFile])) := HM1.out.trans hm
      clear hm HBD
      clear c0
      have c1 := ((HR.out _ _ _ HM2.out).cell 1).trans (rfl : _ = some (Value.bool false))
      have c2 := ((HR.out _ _ _ HM2.out).cell 2).trans (rfl : _ = some (Value.slice da d.size dc))
      have hcv := conv_bytes w2 da d dc (HD.out _ (HBB.out _ _ _ HM2.out))
      have hbd : (X ++ strsU [wOpen, wType] ++ strsU [wFile]).length + (strsU [wData, d]).length ≤ 140737488355328 := by have := HLT.out; simp only [List.length_append, Bool.false_eq_true, if_false] at this ⊢; omega
      have HBD : Hid _ := hbd
      clear hbd
      go_wp2_with (refine b_texts rfl _ [wData, d] rfl (Nat.succ_pos _) (Nat.le_of_ble_eq_true rfl) rfl ?_)
      refine Calls.mono (texts_ok B v2 (X ++ strsU [wOpen, wType] ++ strsU [wFile]) w2 HM2.out.buf (HSZ.out _ _ _ HM2.out) [wData, d] (Nat.le_of_ble_eq_true rfl) HBD.out _ rfl _ rfl _ rfl) ?_
      rintro er w4 ⟨v4, rfl, hm⟩
      have HM4 : Hid (More B w0 v w4 v4 (X ++ strsU [wOpen, wType] ++ strsU [wFile] ++ strsU [wData, d])) := HM2.out.trans hm
      clear hm HBD
      clear c2 hcv c1
      have hbd : (X ++ strsU [wOpen, wType] ++ strsU [wFile] ++ strsU [wData, d]).length + (strsU [wShut]).length ≤ 140737488355328 := by have := HLT.out; simp only [List.length_append, Bool.false_eq_true, if_false] at this ⊢; omega
      have HBD : Hid _ := hbd
      clear hbd
      go_wp2_with (refine b_texts rfl _ [wShut] rfl (Nat.succ_pos _) (Nat.le_of_ble_eq_true rfl) rfl ?_)
      refine Calls.mono (texts_ok B v4 (X ++ strsU [wOpen, wType] ++ strsU [wFile] ++ strsU [wData, d]) w4 HM4.out.buf (HSZ.out _ _ _ HM4.out) [wShut] (Nat.le_of_ble_eq_true rfl) HBD.out _ rfl _ rfl _ rfl) ?_
      rintro er w5 ⟨v5, rfl, hm⟩
      have HM5 : Hid (More B w0 v w5 v5 (X ++ strsU [wOpen, wType] ++ strsU [wFile] ++ strsU [wData, d] ++ strsU [wShut])) := HM4.out.trans hm
      clear hm HBD
      go_wp2
      go_ret
      refine ⟨_, rfl, HEND.out _ _ _ ?_⟩
      have h := HM5.out
      rw [encN_file]
      simp only [List.append_assoc, Bool.false_eq_true, if_false, List.nil_append] at h ⊢
      exact h
  · have HLT : Hid (X.length + (encN (.mk 3 false d [] [])).length ≤ 140737488355328) := HL.out
    rw [encN_link] at HLT
    clear HL HE HNN HKN HKAT HNA HNC HK HS HIH
    have c2 := ((HR.out _ _ _ HM1.out).cell 2).trans (rfl : _ = some (Value.slice da d.size dc))
    have hcv := conv_bytes w1 da d dc (HD.out _ (HBB.out _ _ _ HM1.out))
    have hbd : (X ++ strsU [wOpen, wType]).length + (strsU [wLink, wTarget, d]).length ≤ 140737488355328 := by have := HLT.out; simp only [List.length_append] at this ⊢; omega
    have HBD : Hid _ := hbd
    clear hbd
    go_wp2_with (refine b_texts rfl _ [wLink, wTarget, d] rfl (Nat.succ_pos _) (Nat.le_of_ble_eq_true rfl) rfl ?_)
    refine Calls.mono (texts_ok B v1 (X ++ strsU [wOpen, wType]) w1 HM1.out.buf (HSZ.out _ _ _ HM1.out) [wLink, wTarget, d] (Nat.le_of_ble_eq_true rfl) HBD.out _ rfl _ rfl _ rfl) ?_
    rintro er w2 ⟨v2, rfl, hm⟩
    have HM2 : Hid (More B w0 v w2 v2 (X ++ strsU [wOpen, wType] ++ strsU [wLink, wTarget, d])) := HM1.out.trans hm
    clear hm HBD
    clear c2 hcv c0
    have hbd : (X ++ strsU [wOpen, wType] ++ strsU [wLink, wTarget, d]).length + (strsU [wShut]).length ≤ 140737488355328 := by have := HLT.out; simp only [List.length_append] at this ⊢; omega
    have HBD : Hid _ := hbd
    clear hbd
    go_wp2_with (refine b_texts rfl _ [wShut] rfl (Nat.succ_pos _) (Nat.le_of_ble_eq_true rfl) rfl ?_)
    refine Calls.mono (texts_ok B v2 (X ++ strsU [wOpen, wType] ++ strsU [wLink, wTarget, d]) w2 HM2.out.buf (HSZ.out _ _ _ HM2.out) [wShut] (Nat.le_of_ble_eq_true rfl) HBD.out _ rfl _ rfl _ rfl) ?_
    rintro er w3 ⟨v3, rfl, hm⟩
    have HM3 : Hid (More B w0 v w3 v3 (X ++ strsU [wOpen, wType] ++ strsU [wLink, wTarget, d] ++ strsU [wShut])) := HM2.out.trans hm
    clear hm HBD
    go_wp2
    go_ret
    refine ⟨_, rfl, HEND.out _ _ _ ?_⟩
    have h := HM3.out
    rw [encN_link]
    simp only [List.append_assoc] at h ⊢
    exact h
  · have HLT : Hid (X.length + (encN (.mk 2 false d ns ks)).length ≤ 140737488355328) := HL.out
    rw [encN_dir] at HLT
    clear HL HE HD
    have hbd : (X ++ strsU [wOpen, wType]).length + (strsU [wDir]).length ≤ 140737488355328 := by have := HLT.out; simp only [List.length_append] at this ⊢; omega
    have HBD : Hid _ := hbd
    clear hbd
    go_wp2_with (refine b_texts rfl _ [wDir] rfl (Nat.succ_pos _) (Nat.le_of_ble_eq_true rfl) rfl ?_)
    refine Calls.mono (texts_ok B v1 (X ++ strsU [wOpen, wType]) w1 HM1.out.buf (HSZ.out _ _ _ HM1.out) [wDir] (Nat.le_of_ble_eq_true rfl) HBD.out _ rfl _ rfl _ rfl) ?_
    rintro er w2 ⟨v2, rfl, hm⟩
    have HM2 : Hid (More B w0 v w2 v2 (X ++ strsU [wOpen, wType] ++ strsU [wDir])) := HM1.out.trans hm
    clear hm HBD
    clear c0
    have c3 := ((HR.out _ _ _ HM2.out).cell 3).trans (rfl : _ = some (Value.slice na ns.length nc))
    go_wp2_with fail
    clear c3
    go_loopw [0, 44] (fun bv iv wx => ∃ (i : Nat) (v' : Value) (Z : List UInt8), bv = v' ∧ iv = .int .i64 i ∧ i ≤ ns.length ∧ Hid (More B w0 v wx v' Z) ∧ Hid (Z ++ encL (ks.drop i) (ns.drop i) = X ++ (strsU [wOpen, wType] ++ (strsU [wDir] ++ encL ks ns)))) (fun _ iv _ => ns.length - (intOf iv).toNat)
    case atStart => exact ⟨0, v2, _, rfl, rfl, Nat.zero_le _, HM2, by show _ = _; simp only [List.drop_zero, List.append_assoc]⟩
    case round =>
      obtain ⟨i, v3, Z, rfl, rfl, hi, HM3, HZ⟩ := hrel
      by_cases hlt : i < ns.length
      · have hlt' : (i : Int) < (ns.length : Int) := by omega
        have hik : i < ks.length := by omega
        have hik' : (i : Int) < (ks.length : Int) := by omega
        have HZN : Hid _ := encL_next ks ns i hik hlt
        have HBI : Hid (Z.length + ((strsU [wEntry, wOpen, wName, ns[i], wNode]).length + ((encN ks[i]).length + (strsU [wShut]).length)) ≤ 140737488355328) := by
          have h1 := congrArg List.length HZ.out
          have h2 := HLT.out
          rw [HZN.out] at h1
          simp only [List.length_append] at h1 h2
          show _ ≤ _
          omega
        obtain rfl := HNA.out (by omega)
        obtain rfl := HKAT.out (by omega)
        have cn := HNC.out _ (HBB.out _ _ _ HM3.out) i hlt
        have HBD : Hid (Z.length + (strsU [wEntry, wOpen, wName, ns[i], wNode]).length ≤ 140737488355328) := by have := HBI.out; show _ ≤ _; omega
        go_wp2_with (refine b_texts rfl _ [wEntry, wOpen, wName, ns[i], wNode] rfl (Nat.succ_pos _) (Nat.le_of_ble_eq_true rfl) rfl ?_)
        refine Calls.mono (texts_ok B u0 Z wr HM3.out.buf (HSZ.out _ _ _ HM3.out) [wEntry, wOpen, wName, ns[i], wNode] (Nat.le_of_ble_eq_true rfl) HBD.out _ rfl _ rfl _ rfl) ?_
        rintro er w4 ⟨v4, rfl, hm⟩
        have HM4 : Hid (More B w0 v w4 v4 (Z ++ strsU [wEntry, wOpen, wName, ns[i], wNode])) := HM3.out.trans hm
        clear hm HBD cn
        have c4 := ((HR.out _ _ _ HM4.out).cell 4).trans (rfl : _ = some (Value.slice (some ⟨kb, koff, none⟩) ks.length kc))
        have HRG : Hid _ := (HK.out _ (HBB.out _ _ _ HM4.out)).range i hik
        have hsi : (Tryd.prog.info? 26).map (·.size) = some (Cs i).toList.length := by rw [infoN, Array.length_toList, (HK.out _ (HBB.out _ _ _ HM4.out)).size i hik]
        have HC : Hid (Calls Tryd.prog 18 #[v4, .agg (Cs i)] w4 fun e w' => ∃ v', e = .returned v' ∧ More B w4 v4 w' v' ((Z ++ strsU [wEntry, wOpen, wName, ns[i], wNode]) ++ encN ks[i])) := HIH.out i hik w4 (HBB.out _ _ _ HM4.out) v4 _ HM4.out.buf (by have := HBI.out; rw [List.length_append]; omega)
        go_wp2_with (refine wpList_load_mid rfl 26 _ rfl kb (koff + i * 5) rfl (Cs i).toList _ HRG.out Tryd.underlying26 rfl hsi ?_; simp only [Array.toArray_toList])
        refine Calls.mono HC.out ?_
        rintro er w5 ⟨v5, rfl, hm⟩
        have HM5 : Hid (More B w0 v w5 v5 ((Z ++ strsU [wEntry, wOpen, wName, ns[i], wNode]) ++ encN ks[i])) := HM4.out.trans hm
        clear hm HC HRG c4 hsi
        have HBD : Hid (((Z ++ strsU [wEntry, wOpen, wName, ns[i], wNode]) ++ encN ks[i]).length + (strsU [wShut]).length ≤ 140737488355328) := by have := HBI.out; show _ ≤ _; simp only [List.length_append]; omega
        go_wp2_with (refine b_texts rfl _ [wShut] rfl (by decide) (by decide) rfl ?_)
        refine Calls.mono (texts_ok B v5 _ w5 HM5.out.buf (HSZ.out _ _ _ HM5.out) [wShut] (by decide) HBD.out _ rfl _ rfl _ rfl) ?_
        rintro er w6 ⟨v6, rfl, hm⟩
        have HM6 : Hid (More B w0 v w6 v6 (((Z ++ strsU [wEntry, wOpen, wName, ns[i], wNode]) ++ encN ks[i]) ++ strsU [wShut])) := HM5.out.trans hm
        clear hm HBD HM5 HM4 HM3
        have HZ6 : Hid ((((Z ++ strsU [wEntry, wOpen, wName, ns[i], wNode]) ++ encN ks[i]) ++ strsU [wShut]) ++ encL (ks.drop (i + 1)) (ns.drop (i + 1)) = X ++ (strsU [wOpen, wType] ++ (strsU [wDir] ++ encL ks ns))) := by
          have h := HZ.out
          rw [HZN.out] at h
          show _ = _
          rw [← h]
          simp only [List.append_assoc]
        clear HZ HZN HBI
        go_wp2
        go_roundw
        case rel => exact ⟨i + 1, v6, _, rfl, by go_num, by omega, HM6, HZ6⟩
        case measure => simp [intOf]; omega
      · have hlt' : ¬ (i : Int) < (ns.length : Int) := by omega
        have HZE : Hid (Z = X ++ (strsU [wOpen, wType] ++ (strsU [wDir] ++ encL ks ns))) := by
          have h := HZ.out
          rw [List.drop_eq_nil_of_le (by omega : ks.length ≤ i), encL_nil, List.append_nil] at h
          exact h
        have HBD : Hid (Z.length + (strsU [wShut]).length ≤ 140737488355328) := by have := HLT.out; show _ ≤ _; rw [HZE.out]; simp only [List.length_append] at this ⊢; omega
        go_wp2_with (refine b_texts rfl _ [wShut] rfl (by decide) (by decide) rfl ?_)
        refine Calls.mono (texts_ok B u0 Z wr HM3.out.buf (HSZ.out _ _ _ HM3.out) [wShut] (by decide) HBD.out _ rfl _ rfl _ rfl) ?_
        rintro er w7 ⟨v7, rfl, hm⟩
        have HM7 : Hid (More B w0 v w7 v7 (Z ++ strsU [wShut])) := HM3.out.trans hm
        clear hm HBD
        go_wp2
        go_ret
        refine ⟨_, rfl, HEND.out _ _ _ ?_⟩
        have h := HM7.out
        rw [encN_dir]
        rw [HZE.out] at h
        simp only [List.append_assoc] at h ⊢
        exact h
theorem appendNode_ok (n : Nd) (h0 : eachE n = 0) (wO : World) (C : Array Value) (h : NodeAt wO n C) (w : World) (hO : Below wO.heap.size wO w) (v : Value) (X : List UInt8) (hX : Buf w wO.heap.size v X) (hl : X.length + (encN n).length ≤ 140737488355328) :
    Calls Tryd.prog 18 #[v, .agg C] w fun e w' => ∃ v', e = .returned v' ∧ More wO.heap.size w v w' v' (X ++ encN n) := by
  have key : ∀ N : Nat, ∀ n : Nd, n.count ≤ N → eachE n = 0 → ∀ (wO : World) (C : Array Value), NodeAt wO n C → ∀ (w : World), Below wO.heap.size wO w → ∀ (v : Value) (X : List UInt8), Buf w wO.heap.size v X → X.length + (encN n).length ≤ 140737488355328 →
      Calls Tryd.prog 18 #[v, .agg C] w fun e w' => ∃ v', e = .returned v' ∧ More wO.heap.size w v w' v' (X ++ encN n) := by
    intro N
    induction N with
    | zero => intro n hn; have := n.count_pos; omega
    | succ N ih => exact appendNode_step N ih
  exact key n.count n (Nat.le_refl _) h0 wO C h w hO v X hX hl
end Go.Proofs.YtimiginpdkokiaaDoor
