/- My own work: the walk of ScanFinds. -/
import Derived.Test.YtpkbfljoakodoaaDoorSBy
import Derived.Test.YtpkbfljoakodoaaDoorSRoom
import Derived.Test.YtpkbfljoakodoaaDoorMC
import Derived.RangeFuncBox
import Derived.Maps.AppendAt
import Derived.Deep.DeepCutAuto
namespace Go.Proofs.YtpkbfljoakodoaaDoor
open Go.RowKit Go.Sort Go.Shelf
open S2 (bl bl_len bl_inj splitB Tab NTab)
attribute [local go_sem] Oper.semAt_some

/-- The paths that are found, as texts. -/
def ubs (ts ps : List ByteArray) : List ByteArray := (uniq ((foundP ts ps).map bl)).map fun l => ⟨l.toArray⟩
theorem found_ts {w w' : World} {ts ps : List ByteArray} {e : Ending} (h : FoundPost w ts ps e w') : ∃ v, e = .returned v ∧ TsAt w' v (ubs ts ps) ∧ Below w.heap.size w w' := by
  obtain ⟨v, rfl, h1, h2⟩ := h
  refine ⟨v, rfl, TsAt.of_own (B := w.heap.size) ?_, h2⟩
  have e : (ubs ts ps).map Value.string = (uniq ((foundP ts ps).map bl)).map encStr := by
    unfold ubs
    rw [List.map_map]
    rfl
  rw [e]
  unfold ubs
  rw [List.length_map]
  exact h1
theorem node_data {w : World} {n : Nd} {C : Array Value} (h : NodeAt w n C) : ∃ da dc, C[2]? = some (.slice da n.data.size dc) ∧ BytesAt w da n.data dc := by
  cases h with
  | mk hk hd hn hks each => exact ⟨_, _, rfl, hd⟩
theorem func_nil (b : Nat) (w : World) : (binOp .eql 35 (.func (.func 47) #[] #[.pointer (some ⟨b, 0, none⟩)]) .nilFunc).run Tryd.prog w = .ok (.bool false) w := by kernel_rfl
theorem same_self (v1 v2 : Value) (l : List ByteArray) (w : World) (h1 : TsAt w v1 l) (h2 : TsAt w v2 l) : Calls Tryd.prog 8 #[v1, v2] w fun e w' => e = .returned (.bool true) ∧ Below w.heap.size w w' :=
  (same_ok v1 v2 l l w h1 h2).mono fun e w' h => ⟨by rw [h.1]; simp, h.2⟩
section
variable {ops : Array Oper} {S : World → Prop} {Q : Act → World → Prop} {a : Act} {w : World} {o : Oper} {i : Nat} {fs : List (Bool × Nat)}
theorem a_loadN (dd : Option Tmp) (x : Operand) (hi : ops[i]? = some o) (hd : o.dst = dd) (ho : o.op = .load 26 x) (hw : Region.wanted o (yielded ops a.tmps) = true) (g : Nat) (cs : Array Value) (t : TypeId) (hx : a.eval x = .pointer (some ⟨g, 0, none⟩))
    (hC : ∀ w, S w → Row w g cs t) (hs : (Tryd.prog.info? 26).map (·.size) = some cs.size)
    (k : wpPermA Tryd.prog ops S Q fs (a.put dd (.agg cs)) w) : wpPermA Tryd.prog ops S Q ((false, i) :: fs) a w :=
  a_value dd (.agg cs) hi hd hw (fun w hw' => by
    unfold execOp
    simp only [ho, hx, Instr.loadAt, Instr.sureAddr, Sem.run_bind, Sem.run_pure, Result.andThen_ok, run_loadVar_row w g t 26 cs (0, 0) _ (hC w hw') Tryd.underlying26 rfl hs]) k
end
theorem strs_of_ts {w0 w : World} {a a' : Option Addr} {ps : List ByteArray} {c c' : Nat} (h : StrsAt w0 a ps c) (ht : TsAt w (.slice a' ps.length c') ps) : StrsAt w a' ps c' := by
  obtain ⟨x, b, off, y, e, h1, h2, h3, h4, h5⟩ := ht.ex
  cases e
  exact ⟨⟨b, off, h1, h2⟩, h3, h4, h5, h.len, h.each⟩
set_option maxRecDepth 100000 in
set_option maxHeartbeats 16000000 in
theorem law_finds (n : Nd) (a : Option Addr) (ps : List ByteArray) (c : Nat) (w : World) (C : Array Value) (h : NodeAt w n C) (hP : StrsAt w a ps c) (hT : Tab w) (hNT : NTab w) :
    Calls Tryd.prog 3 #[.agg C, .slice a ps.length c] w fun e w' => e = .returned (.bool true) ∧ Below w.heap.size w w' := by
  refine (callsIn_wide (n := 5)).1 ?_
  have hb0 : Below w.heap.size w (w.alloc (.cells C 26)) := (Below.refl _ _).alloc (Nat.le_refl _) _
  have HR : Hid (Row (w.alloc (.cells C 26)) w.heap.size C 26) := Row.new w _ _
  have hla := large_ok n _ C (h.keep hb0)
  have hsi : (Tryd.prog.info? 26).map (·.size) = some C.size := by rw [infoN, h.size]
  have HNode : Hid (NodeAt w n C) := h
  have HP : Hid (StrsAt w a ps c) := hP
  have HT : Hid (Tab w) := hT
  have HNT : Hid (NTab w) := hNT
  have HB : Hid _ := hb0
  have hpl := hP.len
  unfold big at hpl
  obtain ⟨L, hL⟩ : ∃ L, L = ps.length := ⟨_, rfl⟩
  have HL : Hid _ := hL
  rw [← hL] at hpl ⊢
  clear h hP hT hNT hb0 hL
  refine callsIn_of_wp_marks Tryd.func3 rfl trivial ?_ rfl
  simp only [Tryd.ntmps3, List.size_toArray, List.length_cons, List.length_nil, Nat.reduceAdd, Nat.reduceSub, Array.replicate_succ, Array.replicate_zero, List.push_toArray, List.append_toArray, List.nil_append, List.cons_append]
  refine (wpIn_wide (n := 5)).2 ?_
  generalize hwB : w.alloc (.cells C 26) = wB at *
  go_wp2_with (refine wpList_load_row rfl 26 _ rfl w.heap.size rfl 26 C (0, 0) _ HR.out Tryd.underlying26 rfl hsi ?_)
  refine Calls.mono hla ?_
  rintro e w1 ⟨b, rfl, hbc, hb1⟩
  have hB1 : Below w.heap.size w w1 := HB.out.trans (hb1.mono HB.out.size)
  have HB1 : Hid (Below w.heap.size w w1) := hB1
  have HR1 : Hid (Row w1 w.heap.size C 26) := Row.below HR.out hb1 (Row.lt HR.out)
  clear hla hb1 hB1 HR
  cases b with
  | true =>
    go_wp2
    exact ⟨_, results_tmp rfl _ _ _, rfl, HB1.out⟩
  | false =>
    have hct := hbc rfl
    clear hbc
    by_cases hL2 : 200 < L
    · have hL3 : (200 : Int) < (L : Int) := by omega
      go_wp2
      exact ⟨_, results_tmp rfl _ _ _, rfl, HB1.out⟩
    · have hL3 : ¬ (200 : Int) < (L : Int) := by omega
      have hOE := own_empty w1 9 1 w1.heap.size (Nat.le_refl _)
      have HTP : Hid (TsAt (w1.alloc (.cells #[] 9)) (.slice a L c) ps) := by
        rw [HL.out]
        exact (TsAt.of_strs (HP.out.keep HB1.out)).keep ((Below.refl _ _).alloc (Nat.le_refl _) _)
      have hby1 : (0 + ps.length) * 16 ≤ 140737488355328 := by rw [← HL.out]; omega
      have hsz1 : w1.heap.size ≤ (w1.alloc (.cells #[] 9)).heap.size := by simp
      go_wp2_with (at_builtin; refine wpList_plain rfl fun K' hK' => ?_; refine ap_all (some 20) rfl _ _ rfl w1.heap.size _ _ _ rfl hOE _ ps rfl HTP.out hsz1 hby1 (fun v5 w2 hO2 hG2 => hK' _ _ ?_); rw [Nat.zero_add, List.nil_append] at hO2; have hb12 : Below w1.heap.size w1 w2 := below_own hOE ((Below.refl _ _).alloc (Nat.le_refl _) _) hG2; obtain ⟨a5, b5, o5, c5, rfl, ha5, hcl5, hn5, hle5, hcp5⟩ := (TsAt.of_own hO2).ex; have HO2 : Hid (w2.ownsRow w1.heap.size 9 1 (.slice a5 ps.length c5) ps.length (ps.map Value.string)) := hO2; have HB12 : Hid (Below w1.heap.size w1 w2) := hb12; clear hO2 hG2 hb12 hOE ha5 hcl5 hn5 hle5 hcp5; rw [← HL.out])
      have hb2 : Below w.heap.size w w2 := HB1.out.trans (HB12.out.mono HB1.out.size)
      have hbd : Below w2.heap.size w2 w2.drew := (Below.refl _ _).drew
      have HX : Hid (∀ wx, Below w2.heap.size w2 wx → Below w.heap.size w wx) := fun wx hx => hb2.trans (hx.mono hb2.size)
      have HRX : Hid (∀ wx, Below w2.heap.size w2 wx → Row wx w.heap.size C 26) := fun wx hx => Row.below (Row.below HR1.out HB12.out (Row.lt HR1.out)) hx (Row.lt (Row.below HR1.out HB12.out (Row.lt HR1.out)))
      have HT5 : Hid (∀ wx, Below w2.heap.size w2 wx → TsAt wx (.slice a5 L c5) ps) := fun wx hx => by
        rw [HL.out]
        exact TsAt.of_own (own_belowS HO2.out hx)
      have HS5 : Hid (∀ wx, Below w2.heap.size w2 wx → StrsAt wx a5 ps c5) := fun wx hx => strs_of_ts HP.out (by rw [← HL.out]; exact HT5.out wx hx)
      have HTP2 : Hid (∀ wx, Below w2.heap.size w2 wx → TsAt wx (.slice a L c) ps) := fun wx hx => by
        rw [HL.out]
        exact TsAt.of_strs (HP.out.keep (HX.out wx hx))
      have hct6 : n.count ≤ 16000 := by omega
      have HND : Hid (∀ wx, Below w2.heap.size w2 wx → Calls Tryd.prog 9 #[.agg C, .slice a5 L c5] wx (FoundPost wx (textsOf n) ps)) := fun wx hx => by
        rw [HL.out]
        exact node_ok n a5 ps c5 wx C (HNode.out.keep (HX.out wx hx)) hct6 (HS5.out wx hx) (HT.out.below (HX.out wx hx) HT.out.pos) (S2.NTab.keep HNT.out (HX.out wx hx))
      have HRN : Hid (∀ wx, Below w2.heap.size w2 wx → Calls Tryd.prog 10 #[.agg C, .slice a L c] wx (FoundPost wx (textsOf n) ps)) := fun wx hx => by
        rw [HL.out]
        exact rnode10_ok n a ps c wx C (HNode.out.keep (HX.out wx hx)) hct6 (HP.out.keep (HX.out wx hx))
      clear hb2 HTP hby1 hsz1
      obtain ⟨da, dc, hC2, hDat⟩ := node_data HNode.out
      obtain ⟨d, hd⟩ : ∃ d, d = n.data := ⟨_, rfl⟩
      rw [← hd] at hC2 hDat
      have HDX : Hid (∀ wx, Below w2.heap.size w2 wx → BytesAt wx da d dc) := fun wx hx => hDat.keep (HX.out wx hx)
      have HCX : Hid (∀ wx, Below w2.heap.size w2 wx → wx.cell? ⟨w.heap.size, 2, none⟩ = some (.slice da d.size dc)) := fun wx hx => (Row.cell (HRX.out wx hx) 2).trans hC2
      have HCV : Hid (∀ wx, Below w2.heap.size w2 wx → (convert 22 9 (.slice da d.size dc)).run Tryd.prog wx = .ok (.string d) wx) := fun wx hx => conv_bytesS wx da d dc (HDX.out wx hx)
      have HBY : Hid (∀ wx, Below w2.heap.size w2 wx → Calls Tryd.prog 11 #[.slice da d.size dc, .slice a5 L c5] wx (FoundPost wx [d] ps)) := fun wx hx => by
        rw [HL.out]
        exact sbytes_ok da d dc a5 ps c5 wx (HDX.out wx hx) (HS5.out wx hx) (HT.out.below (HX.out wx hx) HT.out.pos) (S2.NTab.keep HNT.out (HX.out wx hx))
      have HDB : Hid (d.size ≤ big) := hDat.len
      have HFI : Hid (∀ wx v, Below w2.heap.size w2 wx → TsAt wx v [d] → Calls Tryd.prog 12 #[v, .slice a L c] wx (FoundPost wx [d] ps)) := fun wx v hx hv => by
        rw [HL.out]
        refine (rfind_ok v [d] a ps c wx hv (fun t ht => by simp at ht; subst ht; exact HDB.out) (HP.out.keep (HX.out wx hx))).mono ?_
        rintro e w' ⟨v', rfl, hF⟩
        exact found_of_st hF
      clear hC2 hDat hd
      go_upto_region 4 with fail
      go_cut [48] from 21 to 48 (fun v wx => v = .bool false ∧ Hid (Below w2.heap.size w2 wx))
      case first =>
        refine wp_region_dag2 [(false, 0), (false, 1), (false, 3), (false, 4), (true, 2), (true, 5), (true, 6), (false, 7), (false, 8), (false, 9), (false, 10), (false, 11), (false, 13), (false, 14), (false, 15), (false, 17)] #[true, true, true, true, true, true, true, true, true, true, true, true, false, true, true, true, false, true, false, false, false, false, false, false, false, false, false, false] 12 (fun wx => Below w2.heap.size w2 wx) (by kernel_rfl) (by kernel_rfl) hbd ?_
        refine a_loadN (some 21) _ rfl rfl rfl (by rfl) w.heap.size C 26 (by rfl) (fun wx hx => HRX.out wx hx) hsi ?_
        simp only [Act.put, List.setIfInBounds_toArray, List.set_cons_zero, List.set_cons_succ]
        refine a_move (some 22) _ rfl rfl rfl (by rfl) ?_
        simp only [Act.put, List.setIfInBounds_toArray, List.set_cons_zero, List.set_cons_succ]
        refine a_loadN (some 24) _ rfl rfl rfl (by rfl) w.heap.size C 26 (by rfl) (fun wx hx => HRX.out wx hx) hsi ?_
        simp only [Act.put, List.setIfInBounds_toArray, List.set_cons_zero, List.set_cons_succ]
        refine a_move (some 25) _ rfl rfl rfl (by rfl) ?_
        simp only [Act.put, List.setIfInBounds_toArray, List.set_cons_zero, List.set_cons_succ]
        refine a_call (some 23) rfl rfl (by rfl) 9 #[.agg C, .slice a5 L c5] (by go_simp) (Calls.mono (HND.out _ hbd) ?_)
        rintro er w3 h3
        obtain ⟨v3, rfl, hT3, hb3⟩ := found_ts h3
        have hS3 : Below w2.heap.size w2 w3 := hbd.trans (hb3.mono hbd.size)
        refine ⟨v3, rfl, hS3, ?_⟩
        simp only [Act.put, List.setIfInBounds_toArray, List.set_cons_zero, List.set_cons_succ]
        refine a_call (some 26) rfl rfl (by rfl) 10 #[.agg C, .slice a L c] (by go_simp) (Calls.mono (HRN.out _ hS3) ?_)
        rintro er w4 h4
        obtain ⟨v4, rfl, hT4, hb4⟩ := found_ts h4
        have hS4 : Below w2.heap.size w2 w4 := hS3.trans (hb4.mono hS3.size)
        refine ⟨v4, rfl, hS4, ?_⟩
        simp only [Act.put, List.setIfInBounds_toArray, List.set_cons_zero, List.set_cons_succ]
        refine a_call (some 27) rfl rfl (by rfl) 8 #[v3, v4] (by go_simp) (Calls.mono (same_self v3 v4 _ _ (hT3.keep hb4) hT4) ?_)
        rintro er w5 ⟨rfl, hb5⟩
        have hS5 : Below w2.heap.size w2 w5 := hS4.trans (hb5.mono hS4.size)
        refine ⟨_, rfl, hS5, ?_⟩
        simp only [Act.put, List.setIfInBounds_toArray, List.set_cons_zero, List.set_cons_succ]
        clear h3 h4 hT3 hT4 hb3 hb4 hb5 hS3 hS4
        refine a_value (some 28) ?_ rfl rfl (by rfl) (fun w hw => ?_) ?_
        rotate_left
        · go_simp
          with_reducible rfl
        simp only [Act.put, List.setIfInBounds_toArray, List.set_cons_zero, List.set_cons_succ]
        refine a_move (some 29) _ rfl rfl rfl (by rfl) ?_
        simp only [Act.put, List.setIfInBounds_toArray, List.set_cons_zero, List.set_cons_succ]
        refine a_value (some 30) ?_ rfl rfl (by rfl) (fun w hw => ?_) ?_
        rotate_left
        · go_simp
          with_reducible rfl
        simp only [Act.put, List.setIfInBounds_toArray, List.set_cons_zero, List.set_cons_succ]
        refine a_value (some 31) ?_ rfl rfl (by rfl) (fun w hw => ?_) ?_
        rotate_left
        · have c := HCX.out w hw
          go_simp
          with_reducible rfl
        simp only [Act.put, List.setIfInBounds_toArray, List.set_cons_zero, List.set_cons_succ]
        refine a_move (some 32) _ rfl rfl rfl (by rfl) ?_
        simp only [Act.put, List.setIfInBounds_toArray, List.set_cons_zero, List.set_cons_succ]
        refine a_value (some 34) ?_ rfl rfl (by rfl) (fun w hw => ?_) ?_
        rotate_left
        · go_simp
          with_reducible rfl
        simp only [Act.put, List.setIfInBounds_toArray, List.set_cons_zero, List.set_cons_succ]
        refine a_value (some 35) ?_ rfl rfl (by rfl) (fun w hw => ?_) ?_
        rotate_left
        · have c := HCX.out w hw
          go_simp
          with_reducible rfl
        simp only [Act.put, List.setIfInBounds_toArray, List.set_cons_zero, List.set_cons_succ]
        refine a_value (some 36) ?_ rfl rfl (by rfl) (fun w hw => ?_) ?_
        rotate_left
        · have c := HCV.out w hw
          go_simp
          with_reducible rfl
        simp only [Act.put, List.setIfInBounds_toArray, List.set_cons_zero, List.set_cons_succ]
        refine a_move (some 38) _ rfl rfl rfl (by rfl) ?_
        simp only [Act.put, List.setIfInBounds_toArray, List.set_cons_zero, List.set_cons_succ]
        intro _
        refine d_two (i := 12) (j := 16) (by kernel_rfl) ?wayA ?wayB
        case wayA =>
          refine d_call (some 33) rfl rfl (by rfl) 11 #[.slice da d.size dc, .slice a5 L c5] (by go_simp) (Calls.mono (HBY.out _ hS5) ?_)
          rintro er w6 h6
          obtain ⟨v6, rfl, hT6, hb6⟩ := found_ts h6
          have hS6 : Below w2.heap.size w2 w6 := hS5.trans (hb6.mono hS5.size)
          refine ⟨v6, rfl, hS6, ?_⟩
          simp only [Act.put, List.setIfInBounds_toArray, List.set_cons_zero, List.set_cons_succ]
          refine d_one (i := 16) (by kernel_rfl) ?_
          refine d_alone (some 37) (.slice (some ⟨w6.heap.size, 0, none⟩) 1 1) (w6.alloc (.cells #[.string d] 9)) rfl rfl (by rfl) (by go_simp) (hS6.alloc hS6.size _) ?_
          simp only [Act.put, List.setIfInBounds_toArray, List.set_cons_zero, List.set_cons_succ]
          have hb67 : Below w6.heap.size w6 (w6.alloc (.cells #[.string d] 9)) := (Below.refl _ _).alloc (Nat.le_refl _) _
          have hS7 : Below w2.heap.size w2 (w6.alloc (.cells #[.string d] 9)) := hS6.alloc hS6.size _
          have hT37 : TsAt (w6.alloc (.cells #[.string d] 9)) (.slice (some ⟨w6.heap.size, 0, none⟩) 1 1) [d] := TsAt.of_own (B := 0) (by simpa using World.ownsRow_lit (base := 0) (e := 9) (size := 1) w6 #[.string d] 1 (Nat.zero_le _) (by decide) rfl)
          have hT33 := hT6.keep hb67
          refine d_rest [(true, 18), (true, 19), (false, 20), (false, 21), (false, 22), (false, 23), (false, 24), (true, 25), (false, 26), (false, 27)] (by kernel_rfl) hS7 ?_
          refine a_call (some 39) rfl rfl (by rfl) 12 #[.slice (some ⟨w6.heap.size, 0, none⟩) 1 1, .slice a L c] (by go_simp) (Calls.mono (HFI.out _ _ hS7 hT37) ?_)
          rintro er w8 h8
          obtain ⟨v8, rfl, hT8, hb8⟩ := found_ts h8
          have hS8 : Below w2.heap.size w2 w8 := hS7.trans (hb8.mono hS7.size)
          refine ⟨v8, rfl, hS8, ?_⟩
          simp only [Act.put, List.setIfInBounds_toArray, List.set_cons_zero, List.set_cons_succ]
          refine a_call (some 40) rfl rfl (by rfl) 8 #[v6, v8] (by go_simp) (Calls.mono (same_self v6 v8 _ _ (hT33.keep hb8) hT8) ?_)
          rintro er w9 ⟨rfl, hb9⟩
          have hS9 : Below w2.heap.size w2 w9 := hS8.trans (hb9.mono hS8.size)
          refine ⟨_, rfl, hS9, ?_⟩
          simp only [Act.put, List.setIfInBounds_toArray, List.set_cons_zero, List.set_cons_succ]
          clear h8 hT8 hb8 hb9 hS8 hT37 hT33 h6
          refine a_value (some 41) ?_ rfl rfl (by rfl) (fun w hw => ?_) ?_
          rotate_left
          · go_simp
            with_reducible rfl
          simp only [Act.put, List.setIfInBounds_toArray, List.set_cons_zero, List.set_cons_succ]
          refine a_value (some 42) ?_ rfl rfl (by rfl) (fun w hw => ?_) ?_
          rotate_left
          · go_simp
            with_reducible rfl
          simp only [Act.put, List.setIfInBounds_toArray, List.set_cons_zero, List.set_cons_succ]
          refine a_move (some 43) _ rfl rfl rfl (by rfl) ?_
          simp only [Act.put, List.setIfInBounds_toArray, List.set_cons_zero, List.set_cons_succ]
          refine a_move (some 44) _ rfl rfl rfl (by rfl) ?_
          simp only [Act.put, List.setIfInBounds_toArray, List.set_cons_zero, List.set_cons_succ]
          refine a_move (some 45) _ rfl rfl rfl (by rfl) ?_
          simp only [Act.put, List.setIfInBounds_toArray, List.set_cons_zero, List.set_cons_succ]
          refine a_call (some 46) rfl rfl (by rfl) 8 #[.slice a5 L c5, .slice a L c] (by go_simp) (Calls.mono (same_self _ _ ps _ (HT5.out _ hS9) (HTP2.out _ hS9)) ?_)
          rintro er w10 ⟨rfl, hb10⟩
          have hS10 : Below w2.heap.size w2 w10 := hS9.trans (hb10.mono hS9.size)
          refine ⟨_, rfl, hS10, ?_⟩
          simp only [Act.put, List.setIfInBounds_toArray, List.set_cons_zero, List.set_cons_succ]
          clear hb10 hS9
          refine a_value (some 47) ?_ rfl rfl (by rfl) (fun w hw => ?_) ?_
          rotate_left
          · go_simp
            with_reducible rfl
          simp only [Act.put, List.setIfInBounds_toArray, List.set_cons_zero, List.set_cons_succ]
          refine a_value (some 48) ?_ rfl rfl (by rfl) (fun w hw => ?_) ?_
          rotate_left
          · go_simp
            with_reducible rfl
          simp only [Act.put, List.setIfInBounds_toArray, List.set_cons_zero, List.set_cons_succ]
          refine a_done ?_
          try simp only [Exit.then]
          go_wp2
          go_meet
          exact ⟨rfl, hS10⟩
        case wayB =>
          refine d_alone (some 37) (.slice (some ⟨w5.heap.size, 0, none⟩) 1 1) (w5.alloc (.cells #[.string d] 9)) rfl rfl (by rfl) (by go_simp) (hS5.alloc hS5.size _) ?_
          simp only [Act.put, List.setIfInBounds_toArray, List.set_cons_zero, List.set_cons_succ]
          have hS51 : Below w2.heap.size w2 (w5.alloc (.cells #[.string d] 9)) := hS5.alloc hS5.size _
          have hT51 : TsAt (w5.alloc (.cells #[.string d] 9)) (.slice (some ⟨w5.heap.size, 0, none⟩) 1 1) [d] := TsAt.of_own (B := 0) (by simpa using World.ownsRow_lit (base := 0) (e := 9) (size := 1) w5 #[.string d] 1 (Nat.zero_le _) (by decide) rfl)
          refine d_one (i := 12) (by kernel_rfl) ?_
          refine d_call (some 33) rfl rfl (by rfl) 11 #[.slice da d.size dc, .slice a5 L c5] (by go_simp) (Calls.mono (HBY.out _ hS51) ?_)
          rintro er w7 h6
          obtain ⟨v6, rfl, hT33, hb6⟩ := found_ts h6
          have hS7 : Below w2.heap.size w2 w7 := hS51.trans (hb6.mono hS51.size)
          refine ⟨v6, rfl, hS7, ?_⟩
          simp only [Act.put, List.setIfInBounds_toArray, List.set_cons_zero, List.set_cons_succ]
          have hT37 := hT51.keep hb6
          refine d_rest [(true, 18), (true, 19), (false, 20), (false, 21), (false, 22), (false, 23), (false, 24), (true, 25), (false, 26), (false, 27)] (by kernel_rfl) hS7 ?_
          refine a_call (some 39) rfl rfl (by rfl) 12 #[.slice (some ⟨w5.heap.size, 0, none⟩) 1 1, .slice a L c] (by go_simp) (Calls.mono (HFI.out _ _ hS7 hT37) ?_)
          rintro er w8 h8
          obtain ⟨v8, rfl, hT8, hb8⟩ := found_ts h8
          have hS8 : Below w2.heap.size w2 w8 := hS7.trans (hb8.mono hS7.size)
          refine ⟨v8, rfl, hS8, ?_⟩
          simp only [Act.put, List.setIfInBounds_toArray, List.set_cons_zero, List.set_cons_succ]
          refine a_call (some 40) rfl rfl (by rfl) 8 #[v6, v8] (by go_simp) (Calls.mono (same_self v6 v8 _ _ (hT33.keep hb8) hT8) ?_)
          rintro er w9 ⟨rfl, hb9⟩
          have hS9 : Below w2.heap.size w2 w9 := hS8.trans (hb9.mono hS8.size)
          refine ⟨_, rfl, hS9, ?_⟩
          simp only [Act.put, List.setIfInBounds_toArray, List.set_cons_zero, List.set_cons_succ]
          clear h8 hT8 hb8 hb9 hS8 hT37 hT33 h6
          refine a_value (some 41) ?_ rfl rfl (by rfl) (fun w hw => ?_) ?_
          rotate_left
          · go_simp
            with_reducible rfl
          simp only [Act.put, List.setIfInBounds_toArray, List.set_cons_zero, List.set_cons_succ]
          refine a_value (some 42) ?_ rfl rfl (by rfl) (fun w hw => ?_) ?_
          rotate_left
          · go_simp
            with_reducible rfl
          simp only [Act.put, List.setIfInBounds_toArray, List.set_cons_zero, List.set_cons_succ]
          refine a_move (some 43) _ rfl rfl rfl (by rfl) ?_
          simp only [Act.put, List.setIfInBounds_toArray, List.set_cons_zero, List.set_cons_succ]
          refine a_move (some 44) _ rfl rfl rfl (by rfl) ?_
          simp only [Act.put, List.setIfInBounds_toArray, List.set_cons_zero, List.set_cons_succ]
          refine a_move (some 45) _ rfl rfl rfl (by rfl) ?_
          simp only [Act.put, List.setIfInBounds_toArray, List.set_cons_zero, List.set_cons_succ]
          refine a_call (some 46) rfl rfl (by rfl) 8 #[.slice a5 L c5, .slice a L c] (by go_simp) (Calls.mono (same_self _ _ ps _ (HT5.out _ hS9) (HTP2.out _ hS9)) ?_)
          rintro er w10 ⟨rfl, hb10⟩
          have hS10 : Below w2.heap.size w2 w10 := hS9.trans (hb10.mono hS9.size)
          refine ⟨_, rfl, hS10, ?_⟩
          simp only [Act.put, List.setIfInBounds_toArray, List.set_cons_zero, List.set_cons_succ]
          clear hb10 hS9
          refine a_value (some 47) ?_ rfl rfl (by rfl) (fun w hw => ?_) ?_
          rotate_left
          · go_simp
            with_reducible rfl
          simp only [Act.put, List.setIfInBounds_toArray, List.set_cons_zero, List.set_cons_succ]
          refine a_value (some 48) ?_ rfl rfl (by rfl) (fun w hw => ?_) ?_
          rotate_left
          · go_simp
            with_reducible rfl
          simp only [Act.put, List.setIfInBounds_toArray, List.set_cons_zero, List.set_cons_succ]
          refine a_done ?_
          try simp only [Exit.then]
          go_wp2
          go_meet
          exact ⟨rfl, hS10⟩
      case rest =>
        obtain ⟨rfl, hBc⟩ := hcut
        obtain ⟨W4, hW4⟩ : ∃ x, x = wc := ⟨_, rfl⟩
        subst hW4
        have HR4 : Hid (Row W4 w.heap.size C 26) := HRX.out _ hBc.out
        have hri := rright_ok n W4 C (HNode.out.keep (HX.out _ hBc.out)) hct6
        obtain ⟨r, hr⟩ : ∃ r, r = rightE n := ⟨_, rfl⟩
        rw [← hr] at hri
        have HRR : Hid (r = rightE n) := hr
        clear hr HND HRN HBY HFI HCV HCX HDX HDB HT5 HS5 HTP2 hbd
        go_upto_if 51 with (first
          | (refine wpList_load_row rfl 26 _ rfl w.heap.size rfl 26 C (0, 0) _ HR4.out Tryd.underlying26 rfl hsi ?_)
          | (go_at_call 13; refine hri.mono ?_; rintro e w5 ⟨rfl, hb5⟩; have HB5 : Hid (Below w2.heap.size w2 w5) := hBc.out.trans (hb5.mono hBc.out.size); clear hri hb5))
        go_cut [6] from 52 to 53 (fun v wx => Hid (TsAt wx v (textsOf n)) ∧ Hid (Below w2.heap.size w2 wx))
        case first =>
          by_cases hr0 : r = 0
          · subst hr0
            have hrz : rightE n = 0 := HRR.out.symm
            obtain ⟨hE, hct2⟩ := right_each hrz
            have hTx : textsOf n = n.texts := by unfold textsOf; rw [if_pos hrz]
            have hln := texts_len n
            have HR5 : Hid (Row w5 w.heap.size C 26) := HRX.out _ HB5.out
            have hrt := rtexts_ok n hE (by omega) C w5 (HNode.out.keep (HX.out _ HB5.out))
            have HTX : Hid _ := hTx
            clear hrz hE hct2 hTx hln
            go_wp2_with (first
              | (refine wpList_load_row rfl 26 _ rfl w.heap.size rfl 26 C (0, 0) _ HR5.out Tryd.underlying26 rfl hsi ?_)
              | (go_at_call 14; refine hrt.mono ?_; rintro e w6 ⟨v6, rfl, hO6, hb6⟩; have HO6 : Hid (TsAt w6 v6 n.texts) := TsAt.of_own hO6; have HB6 : Hid (Below w2.heap.size w2 w6) := HB5.out.trans (hb6.mono HB5.out.size); clear hrt hO6 hb6))
            go_meet
            exact ⟨by rw [HTX.out]; exact HO6, HB6⟩
          · have h1 : decide (r = 0) = false := decide_eq_false hr0
            have h2 : (r == 0) = false := by simpa using hr0
            have HTX : Hid (textsOf n = []) := by
              show _ = _
              unfold textsOf
              rw [if_neg (by rw [← HRR.out]; exact hr0)]
            go_wp2
            go_meet
            refine ⟨?_, HB5⟩
            rw [HTX.out]
            exact ⟨none, 0, 0, 0, rfl, fun h => absurd h (by simp), fun i hi => absurd hi (by simp), fun _ => ⟨rfl, rfl⟩, Nat.le_refl _, Nat.zero_le _⟩
        case rest =>
          obtain ⟨HT6, HB6⟩ := hcut
          obtain ⟨W6, hW6⟩ : ∃ x, x = wc := ⟨_, rfl⟩
          subst hW6
          obtain ⟨a6, b6, o6, c6, rfl, _, _, _, hle6, hcp6⟩ := HT6.out.ex
          unfold maxLen at hcp6
          have HR6 : Hid (Row W6 w.heap.size C 26) := HRX.out _ HB6.out
          have htx := stexts_ok n W6 C (HNode.out.keep (HX.out _ HB6.out)) hct6
          obtain ⟨tl, htl⟩ : ∃ x, x = (textsOf n).length := ⟨_, rfl⟩
          rw [← htl] at hle6 HT6 ⊢
          have HTLn : Hid _ := htl
          clear htl
          go_wp2_with (first
            | (refine wpList_load_row rfl 26 _ rfl w.heap.size rfl 26 C (0, 0) _ HR6.out Tryd.underlying26 rfl hsi ?_)
            | (go_at_call 15; refine htx.mono ?_; rintro e w7 ⟨Bs, sv, zs, rfl, hBs, hcB, hzs, hTx, hb7, hzl⟩; have HB7 : Hid (Below W6.heap.size W6 w7) := hb7; have HZS : Hid (zs.map (·.1) = textsOf n) := hzs; have hfn := func_nil Bs w7; clear htx hb7 hzs))
          obtain ⟨i0, hi0, hz0, hz1, hz2⟩ := info_parts infoS9
          have hbE : Below w7.heap.size w7 (w7.alloc (.cells #[.slice none 0 0] 23)) := (Below.refl _ _).alloc (Nat.le_refl _) _
          have hst := values_stops Fence.wide (5 - 1) trivial rfl (by omega) Bs w7.heap.size sv zs (by omega) (w7.alloc (.cells #[.slice none 0 0] 23)) (by simp; omega) (by simp) ((hbE.cell (p := ⟨Bs, 0, none⟩) hBs).trans hcB) (hTx.below hbE)
          have HTXZ : Hid (TxAt w7.heap.size w7 sv zs ∧ w7.cell? ⟨Bs, 0, none⟩ = some sv) := ⟨hTx, hcB⟩
          clear hfn hTx hcB
          refine (wpIn_wide (n := 5)).1 ?_
          refine wpIn_rangeFunc_ownG rfl (by omega) (gf := 47) (lb := #[.pointer (some ⟨Bs, 0, none⟩)]) rfl trivial (enters_of Tryd.func47 (by kernel_rfl) rfl)
            hst KeepC.trans (fun W l o o' _ h1 h2 _ => KeepC.putObj W l o o' h1 h2) (Below.refl _ _) (fun _ => rfl)
            (fun pre W => (∃ v, Boxed W w7.heap.size 23 v ∧ W.ownsRow w7.heap.size 9 1 v pre.length (pre.map fun x => Value.string x.1) ∧ True) ∧ Below w7.heap.size w7 W)
            (fun _ _ _ => False)
            (OwnFrom.and (Own.from (holdsRow_own w7.heap.size w7.heap.size 23 9 1 (fun pre : List Tx => pre.length) (fun pre => pre.map fun x => Value.string x.1) (fun _ _ => True)) _) (ownFrom_below (Nat.le_refl _) (by simp)))
            (fun _ _ _ _ _ hs _ _ => hs)
            ⟨⟨_, Boxed.new w7 23 _, World.ownsRow_nil _ _ _ _, trivial⟩, hbE⟩
            ?a1 ?assign ?body ?done ?stop
          case assign =>
            intro l x W K hK
            gi_wp2
            exact hK
          case body =>
            rintro l pre x W ⟨⟨v, hv, hrow, _⟩, hB⟩ hlt
            have hc := hv.cell
            gi_wp2_with (gi_at_builtin; refine wpListIn_append_own _ rfl _ _ 23 rfl w7.heap.size 9 i0 (.string ⟨#[]⟩) 1 16 Tryd.underlying23 hi0 hz0 hz1 hz2 rfl (by decide) _ _ _ rfl (hrow.alloc _) ⟨W.heap.size, 0, none⟩ 1 1 [.string x.1] rfl rfl (cell_one_new _ _ _) (by simp [Value.oneCell']) (by unfold maxLen; omega) (by omega) (by have := hB.size; simp; omega) ?_; intro v' w1' hown' hgrow _; obtain ⟨g', cap', rfl⟩ := ownsRow_succ hown'; obtain ⟨hv1, hv2, hr2, hk2, hb2⟩ := hv.appended (by decide) hrow hB.size (Nat.le_refl _) hown' hgrow; have hc1 := hv1.cell; have hf1 := hv1.frozen)
            exact ⟨hk2.from _, KeepC.of_below hb2, ⟨_, hv2, by simpa using hr2, trivial⟩, hB.trans hb2⟩
          case stop =>
            rintro D c' pre W _ _ h _
            exact h.elim
          case done =>
            rintro D ys W hD rfl ⟨⟨v, hv, hrow, _⟩, hB⟩ hK
            have HV : Hid (Boxed W w7.heap.size 23 v ∧ W.ownsRow w7.heap.size 9 1 v ys.length (ys.map fun x => Value.string x.1)) := ⟨hv, hrow⟩
            have HK1 : Hid (W.heap[D]? = some (.deferred (some []))) := hK
            have HBW : Hid (Below w7.heap.size w7 W) := hB
            have hD1 : w7.heap.size < D := by simp at hD; omega
            clear hv hrow hB hK hst hbE hD
            go_wp2_with fail
            have hbE2 : Below W.heap.size W (W.alloc (.cells #[.int .i64 0] 3)) := (Below.refl _ _).alloc (Nat.le_refl _) _
            have hw7W := HBW.out.size
            have hcB2 := (hbE2.cell (p := ⟨Bs, 0, none⟩) (by show Bs < _; omega)).trans ((HBW.out.cell (p := ⟨Bs, 0, none⟩) hBs).trans HTXZ.out.2)
            have hst2 := values_stops Fence.wide (5 - 1) trivial rfl (by omega) Bs w7.heap.size sv ys (by omega) (W.alloc (.cells #[.int .i64 0] 3)) (by simp; omega) (by simp; omega) hcB2 ((HTXZ.out.1.below HBW.out).below (hbE2.mono (by omega)))
            refine (wpIn_wide (n := 5)).1 ?_
            refine wpIn_rangeFunc_ownG rfl (by omega) (gf := 47) (lb := #[.pointer (some ⟨Bs, 0, none⟩)]) rfl trivial (enters_of Tryd.func47 (by kernel_rfl) rfl)
              hst2 KeepC.trans (fun W l o o' _ h1 h2 _ => KeepC.putObj W l o o' h1 h2) (Below.refl _ _) (fun _ => rfl)
              (fun pre X => (pre = [] ∧ Boxed X W.heap.size 3 (.int .i64 0)) ∧ Below W.heap.size W X)
              (fun c' pre X => (c' = Code.exit 2 ∧ pre.length = 1 ∧ Boxed X W.heap.size 3 (.int .i64 1)) ∧ Below W.heap.size W X)
              (OwnFrom.and (fun s A B row hs hg hr => ⟨hs.1, hs.2.kept hg (fun e' => by
                obtain ⟨_, o, ho, hc⟩ := hr _ e'.symm
                rw [show A.heap[W.heap.size]? = _ from hs.2] at ho
                cases ho
                cases hc)⟩) (ownFrom_below (Nat.le_refl _) (by simp)))
              (fun c' => OwnFrom.and (fun s A B row hs hg hr => ⟨hs.1, hs.2.1, hs.2.2.kept hg (fun e' => by
                obtain ⟨_, o, ho, hc⟩ := hr _ e'.symm
                rw [show A.heap[W.heap.size]? = _ from hs.2.2] at ho
                cases ho
                cases hc)⟩) (ownFrom_below (Nat.le_refl _) (by simp)))
              ⟨⟨rfl, Boxed.new W 3 _⟩, hbE2⟩
              ?a2 ?assign ?body ?done ?stop
            case assign =>
              intro l x X K hK
              gi_wp2
              exact hK
            case body =>
              rintro l pre x X ⟨⟨rfl, hv⟩, hB⟩ hlt
              have hc := hv.cell
              have hf := hv.frozen
              gi_wp2
              exact ⟨(KeepsOthers.setCell _ _ _).from _, ⟨rfl, rfl, hv.set _⟩, hB.setCell (p := ⟨W.heap.size, 0, none⟩) (Nat.le_refl _) _⟩
            case done =>
              rintro D2 zs2 X hD2 hzz ⟨⟨hz, hv2⟩, hB2⟩ hK2
              have ht0 : tl = 0 := by
                have e1 := congrArg List.length HZS.out
                rw [← hzz, hz] at e1
                have e2 := HTLn.out
                simp at e1
                omega
              subst ht0
              clear hzz hz
              have hD1W : D < W.heap.size := (Array.getElem?_eq_some_iff.1 HK1.out).1
              have hD2W : W.heap.size < D2 := by simp at hD2; omega
              have hbx : Boxed X w7.heap.size 23 v := (hB2.block _ (by omega)).trans HV.out.1
              have hTl : TsAt X v (textsOf n) := by
                rw [← HZS.out]
                refine TsAt.of_own (B := w7.heap.size) ?_
                have := own_belowS HV.out.2 hB2
                simpa [List.map_map, Function.comp_def] using this
              have hbWX : Below w7.heap.size w7 X := HBW.out.trans (hB2.mono hw7W)
              have hb6X : Below W6.heap.size W6 X := HB7.out.trans (hbWX.mono HB7.out.size)
              have hTw : TsAt X (.slice a6 0 c6) (textsOf n) := HT6.out.keep hb6X
              have hsa := same_self v (.slice a6 0 c6) (textsOf n) X hTl hTw
              have c8 := hbx.cell
              have HC10 : Hid (∀ Y, Below X.heap.size X Y → Y.cell? ⟨W.heap.size, 0, none⟩ = some (.int .i64 0)) := fun Y hY => (hY.cell (p := ⟨W.heap.size, 0, none⟩) hv2.lt).trans hv2.cell
              have HKA : Hid (X.heap[D2]? = some (.deferred (some []))) := hK2
              have HKB : Hid (X.heap[D]? = some (.deferred (some []))) := (hB2.block D hD1W).trans HK1.out
              have HB6X : Hid (Below w.heap.size w X) := (HX.out _ HB6.out).trans (hb6X.mono (HX.out _ HB6.out).size)
              clear hbx hTl hbWX hb6X hTw hst2 hcB2 hbE2 hv2 hB2 hK2
              go_wp2_with (go_at_call 8; refine hsa.mono ?_; rintro e Y ⟨rfl, hY⟩; have c10 := HC10.out Y hY; have HY : Hid (Below X.heap.size X Y) := hY; clear hsa hY c8)
              have hKA : Y.heap[D2]? = some (.deferred (some [])) := (HY.out.block D2 (Array.getElem?_eq_some_iff.1 HKA.out).1).trans HKA.out
              have hKB : Y.heap[D]? = some (.deferred (some [])) := (HY.out.block D (Array.getElem?_eq_some_iff.1 HKB.out).1).trans HKB.out
              have hwD : w.heap.size ≤ D := by
                have h1 := (HX.out _ HB6.out).size
                have h2 := HB7.out.size
                omega
              have hKB' : (Y.putObj D2 (.deferred none)).heap[D]? = some (.deferred (some [])) := by
                simp [World.putObj, show D2 ≠ D by omega, hKB]
              refine ⟨by simp, .inl ⟨_, _, rfl, run_takeDeferred hKA, ?_⟩⟩
              refine ⟨by simp, .inl ⟨_, _, rfl, run_takeDeferred hKB', ?_⟩⟩
              have hBY : Below w.heap.size w Y := HB6X.out.trans (HY.out.mono HB6X.out.size)
              refine ⟨_, results_tmp rfl _ _ _, ?_, (hBY.trans (belowK_b (w := w) (Nat.le_refl _) Y D2 _ _ (by omega) hKA rfl rfl)).trans (belowK_b (w := w) (Nat.le_refl _) _ D _ _ (by omega) hKB' rfl rfl)⟩
              exact congrArg (fun b => Ending.returned (Value.bool b)) (show ((0 : Int) == min 1 0) = true by decide)
            case stop =>
              rintro D2 c' pre X hD2 hp ⟨⟨rfl, hpl, hv2⟩, hB2⟩ hK2
              have ht0 : 1 ≤ tl := by
                have e1 := congrArg List.length HZS.out
                have e3 := hp.length_le
                have e2 := HTLn.out
                simp at e1
                omega
              have hmin : min (1 : Int) (tl : Int) = 1 := by omega
              clear hp hpl
              have hD1W : D < W.heap.size := (Array.getElem?_eq_some_iff.1 HK1.out).1
              have hD2W : W.heap.size < D2 := by simp at hD2; omega
              have hbx : Boxed X w7.heap.size 23 v := (hB2.block _ (by omega)).trans HV.out.1
              have hTl : TsAt X v (textsOf n) := by
                rw [← HZS.out]
                refine TsAt.of_own (B := w7.heap.size) ?_
                have := own_belowS HV.out.2 hB2
                simpa [List.map_map, Function.comp_def] using this
              have hbWX : Below w7.heap.size w7 X := HBW.out.trans (hB2.mono hw7W)
              have hb6X : Below W6.heap.size W6 X := HB7.out.trans (hbWX.mono HB7.out.size)
              have hTw : TsAt X (.slice a6 tl c6) (textsOf n) := HT6.out.keep hb6X
              have hsa := same_self v (.slice a6 tl c6) (textsOf n) X hTl hTw
              have c8 := hbx.cell
              have HC10 : Hid (∀ Y, Below X.heap.size X Y → Y.cell? ⟨W.heap.size, 0, none⟩ = some (.int .i64 1)) := fun Y hY => (hY.cell (p := ⟨W.heap.size, 0, none⟩) hv2.lt).trans hv2.cell
              have HKA : Hid (X.heap[D2]? = some (.deferred (some []))) := hK2
              have HKB : Hid (X.heap[D]? = some (.deferred (some []))) := (hB2.block D hD1W).trans HK1.out
              have HB6X : Hid (Below w.heap.size w X) := (HX.out _ HB6.out).trans (hb6X.mono (HX.out _ HB6.out).size)
              clear hbx hTl hbWX hb6X hTw hst2 hcB2 hbE2 hv2 hB2 hK2
              refine (wpIn_wide (n := 5)).2 ?_
              go_wp2_with (go_at_call 8; refine hsa.mono ?_; rintro e Y ⟨rfl, hY⟩; have c10 := HC10.out Y hY; have HY : Hid (Below X.heap.size X Y) := hY; clear hsa hY c8)
              have hKA : Y.heap[D2]? = some (.deferred (some [])) := (HY.out.block D2 (Array.getElem?_eq_some_iff.1 HKA.out).1).trans HKA.out
              have hKB : Y.heap[D]? = some (.deferred (some [])) := (HY.out.block D (Array.getElem?_eq_some_iff.1 HKB.out).1).trans HKB.out
              have hwD : w.heap.size ≤ D := by
                have h1 := (HX.out _ HB6.out).size
                have h2 := HB7.out.size
                omega
              have hKB' : (Y.putObj D2 (.deferred none)).heap[D]? = some (.deferred (some [])) := by
                simp [World.putObj, show D2 ≠ D by omega, hKB]
              refine ⟨by simp, .inl ⟨_, _, rfl, run_takeDeferred hKA, ?_⟩⟩
              refine ⟨by simp, .inl ⟨_, _, rfl, run_takeDeferred hKB', ?_⟩⟩
              have hBY : Below w.heap.size w Y := HB6X.out.trans (HY.out.mono HB6X.out.size)
              refine ⟨_, results_tmp rfl _ _ _, ?_, (hBY.trans (belowK_b (w := w) (Nat.le_refl _) Y D2 _ _ (by omega) hKA rfl rfl)).trans (belowK_b (w := w) (Nat.le_refl _) _ D _ _ (by omega) hKB' rfl rfl)⟩
              rfl
end Go.Proofs.YtpkbfljoakodoaaDoor
