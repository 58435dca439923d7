/- My own work: an info's text. -/
import Derived.Test.YthidlckipiamkaaDoorOT3b
import Derived.Test.YthidlckipiamkaaDoorBufs
namespace Go.Proofs.YthidlckipiamkaaDoor
open Go.RowKit
open S2 (bl bl_len bl_inj splitB splitV Tab NTab arr)

/-- A line. -/
def lineL (word said : List UInt8) : List UInt8 := word ++ [32] ++ said ++ [10]
abbrev WH : List UInt8 := [104, 97, 115, 104]
abbrev WD : List UInt8 := [100, 101, 114, 105, 118, 101, 114]
abbrev WR : List UInt8 := [114, 101, 102]
theorem lineL_len (word said : List UInt8) : (lineL word said).length = word.length + said.length + 2 := by simp [lineL]; omega
/-- The lines of references. -/
def refsL (rs : List ByteArray) : List UInt8 := rs.flatMap fun r => lineL WR (bl r)
/-- An info's text. -/
def txt (i : Inf) : List UInt8 := lineL WH (bl i.hash) ++ (if i.der.toList == [] then [] else lineL WD (bl i.der)) ++ refsL i.refs
theorem refsL_take (rs : List ByteArray) (j : Nat) (hj : j < rs.length) : refsL (rs.take (j + 1)) = refsL (rs.take j) ++ lineL WR (bl rs[j]) := by
  unfold refsL
  rw [List.take_succ_eq_append_getElem hj, List.flatMap_append]
  simp
theorem isP_len {s : ByteArray} (h : isP s = true) : s.size ≤ 67 := by
  obtain ⟨_, h2, _, _, h5⟩ := S2.splitB_facts h
  obtain ⟨_, h6, _⟩ := S2.nameB_facts h5
  rw [List.length_drop, bl_len] at h6
  omega
theorem refsL_len {rs : List ByteArray} (h : rs.all isP = true) : ∀ j, (refsL (rs.take j)).length ≤ j * 72
  | 0 => by simp [refsL]
  | j + 1 => by
    have ih := refsL_len h j
    by_cases hj : j < rs.length
    · rw [refsL_take rs j hj, List.length_append, lineL_len, bl_len]
      have := isP_len (List.all_eq_true.1 h _ (List.getElem_mem hj))
      have e : WR.length = 3 := rfl
      omega
    · have e : rs.take (j + 1) = rs.take j := by rw [List.take_of_length_le (by omega), List.take_of_length_le (by omega)]
      rw [e]
      omega
theorem risR_1024 {rs : List ByteArray} (h : risR rs = true) : rs.length ≤ 1024 := by
  by_cases hl : rs.length ≤ 1024
  · exact hl
  · rw [risR_no (j := 1024) (by omega) rfl] at h
    cases h
/-- What an info that may be has. -/
theorem may_facts {w0 : World} {D : ByteArray → Int} (hD : DP w0 D) {i : Inf} (hh : i.hash.size ≤ big) (h : may D i = true) : S2.signsB (bl i.hash) = true ∧ i.hash.size = 52 ∧ i.refs.length ≤ 1024 ∧ isP i.path = true ∧ ((i.der.toList == []) = true ∨ isP i.der = true) ∧ i.refs.all isP = true := by
  unfold may hasP at h
  simp only [Bool.and_eq_true, decide_eq_true_eq, Bool.or_eq_true] at h
  obtain ⟨⟨h1, h2⟩, ⟨h3, h4⟩, h5⟩ := h
  obtain ⟨h6, h7⟩ := hD.ok i.hash hh h1
  exact ⟨h6, h7, risR_1024 h2, h3, h4, h5⟩
set_option maxHeartbeats 2000000 in
theorem appendLine_ok (B : Nat) (v : Value) (X : List UInt8) (word said : ByteArray) (w : World) (h : Buf w B v X) (hB : B ≤ w.heap.size) (hl : X.length + word.size + said.size + 2 ≤ 140737488355328) :
    Calls Tryd.prog 11 #[v, .string word, .string said] w fun e w' => ∃ v', e = .returned v' ∧ More B w v w' v' (X ++ lineL (bl word) (bl said)) := by
  obtain ⟨T, hT⟩ : ∃ T, T = word ++ ⟨#[32]⟩ ++ said ++ ⟨#[10]⟩ := ⟨_, rfl⟩
  have HTl : Hid (T.data.toList = lineL (bl word) (bl said)) := by
    show _ = _
    rw [hT]
    simp [lineL, bl, ByteArray.data_append]
  have HTs : Hid (X.length + T.size ≤ 140737488355328) := by
    show _ ≤ _
    rw [hT, ByteArray.size_append, ByteArray.size_append, ByteArray.size_append]
    have e1 : (⟨#[32]⟩ : ByteArray).size = 1 := rfl
    have e2 : (⟨#[10]⟩ : ByteArray).size = 1 := rfl
    omega
  have hT' := hT.symm
  have HO : Hid _ := h
  clear hT h
  go_enter Tryd.func11, Tryd.ntmps11
  go_wp2_with (at_builtin; refine ap_str rfl _ _ rfl B v X rfl HO.out T rfl HTs.out hB (fun v' w' hm => ?_))
  rw [HTl.out] at hm
  go_wp2
  go_ret
  exact ⟨_, rfl, hm⟩
/-- What Text tells. -/
def TextPost (D : ByteArray → Int) (i : Inf) (w : World) (e : Ending) (w' : World) : Prop :=
  e = .returned (if may D i then .tuple #[.string ⟨(txt i).toArray⟩, .int .i64 0] else .tuple #[.string ⟨#[]⟩, .int .i64 10]) ∧ Below w.heap.size w w'
set_option maxRecDepth 20000 in
set_option maxHeartbeats 8000000 in
theorem text_ok (w0 : World) (D : ByteArray → Int) (hD : DP w0 D) (i : Inf) (a : Option Addr) (c : Nat) (w : World) (hw : Below w0.heap.size w0 w) (h : InfAt w i a c) (hT : Tab w) (hN : NTab w) : Calls Tryd.prog 4 #[.agg (infV i a c)] w (TextPost D i w) := by
  have hb0 : Below w.heap.size w (w.alloc (.cells (infV i a c) 24)) := (Below.refl _ _).alloc (Nat.le_refl _) _
  have HR : Hid (Row (w.alloc (.cells (infV i a c) 24)) w.heap.size (infV i a c) 24) := Row.new w _ _
  have hmb := mayBe_ok w0 D hD i a c _ (hw.trans (hb0.mono hw.size)) (h.keep hb0) (hT.below hb0 hT.pos) (S2.NTab.keep hN hb0)
  have HMF : Hid (may D i = true → _) := fun hm => may_facts hD h.hash hm
  generalize hwB : w.alloc (.cells (infV i a c) 24) = wB at *
  have HB : Hid _ := hb0
  have HInf : Hid (InfAt w i a c) := h
  clear h hT hN hb0 hw hD
  cases hm : may D i with
  | false =>
    rw [hm] at hmb
    have HV : Hid (may D i = false) := hm
    clear hm
    go_enter Tryd.func4, Tryd.ntmps4
    go_wp2_with (refine wpList_load_row rfl 24 _ rfl w.heap.size rfl 24 (infV i a c) (0, 0) _ HR.out Tryd.underlying24 rfl (infV_size i a c) ?_)
    refine hmb.mono ?_
    rintro e w1 ⟨rfl, hb1⟩
    have HB1 : Hid (Below w.heap.size w w1) := HB.out.trans (hb1.mono HB.out.size)
    clear hmb hb1
    go_wp2
    go_ret2
    exact ⟨by rw [HV.out]; rfl, HB1.out⟩
  | true =>
    rw [hm] at hmb
    obtain ⟨f1, f2, f3, f4, f5, f6⟩ := HMF.out hm
    have HV : Hid (may D i = true) := hm
    have HF5 : Hid _ := f5
    have HF6 : Hid _ := f6
    obtain ⟨p, hs, d, rs⟩ := i
    simp only at f2 f3 f5
    obtain ⟨b, o, hat, hcell⟩ := HInf.out.refs.ex
    have hc := HInf.out.refs.cap
    have hle := HInf.out.refs.le
    simp only at hat hle
    unfold maxLen at hc
    have HCe : Hid (∀ wx, Below w.heap.size w wx → ∀ j (hj : j < rs.length), wx.cell? ⟨b, o + j, none⟩ = some (.string rs[j])) := fun wx hb j hj => (World.cell?_of_block (w := w) (hb.block b (World.block_lt_of_cell? w _ (hcell j hj)))).trans (hcell j hj)
    have HC : Hid (∀ wx, Below wB.heap.size wB wx → wx.cell? ⟨w.heap.size, 1, none⟩ = some (.string hs) ∧ wx.cell? ⟨w.heap.size, 2, none⟩ = some (.string d) ∧ wx.cell? ⟨w.heap.size, 3, none⟩ = some (.slice a rs.length c)) := fun wx hb => ⟨((Row.below HR.out hb (Row.lt HR.out)).cell 1).trans rfl, ((Row.below HR.out hb (Row.lt HR.out)).cell 2).trans rfl, ((Row.below HR.out hb (Row.lt HR.out)).cell 3).trans rfl⟩
    have HF2 : Hid (hs.size = 52) := f2
    have HF3 : Hid (rs.length ≤ 1024) := f3
    have hd67 : d.size ≤ 67 := by
      rcases f5 with h | h
      · rw [beq_nil] at h
        have := of_decide_eq_true h
        omega
      · exact isP_len h
    obtain ⟨m, hmm⟩ : ∃ m, m = rs.length := ⟨_, rfl⟩
    have HM : Hid _ := hmm
    have hm1024 : m ≤ 1024 := by omega
    rw [← hmm] at hat hle
    have hmm' := hmm.symm
    -- the loop and what follows, from any world and buffer
    have HLen : Hid (∀ j, (refsL (rs.take j)).length ≤ j * 72) := refsL_len HF6.out
    clear hm f1 f2 f3 f4 f5 f6 hcell hmm HMF
    have HDe : Hid (d.size ≤ 67) := hd67
    cases hd : (d.toList == []) with
    | true =>
      have HX : Hid (txt ⟨p, hs, d, rs⟩ = lineL WH (bl hs) ++ refsL rs) := by show _ = _; unfold txt; simp only [hd, if_true, List.append_nil]
      obtain ⟨X0, hX0⟩ : ∃ X, X = lineL WH (bl hs) := ⟨_, rfl⟩
      have hX0l : X0.length = 58 := by rw [hX0, lineL_len, bl_len, HF2.out]; rfl
      have HX0 : Hid _ := hX0
      rw [← hX0] at HX
      clear hX0
      go_enter Tryd.func4, Tryd.ntmps4
      go_wp2_with (refine wpList_load_row rfl 24 _ rfl w.heap.size rfl 24 (infV ⟨p, hs, d, rs⟩ a c) (0, 0) _ HR.out Tryd.underlying24 rfl (infV_size ⟨p, hs, d, rs⟩ a c) ?_)
      refine hmb.mono ?_
      rintro e w1 ⟨rfl, hb1⟩
      obtain ⟨c1, c2, c3⟩ := HC.out w1 hb1
      have hal := appendLine_ok w1.heap.size (.slice none 0 0) [] ⟨#[104, 97, 115, 104]⟩ hs w1 (World.ownsRow_nil _ _ _ _) (Nat.le_refl _) (by have := HF2.out; have e : (⟨#[104, 97, 115, 104]⟩ : ByteArray).size = 4 := rfl; simp only [List.length_nil]; omega)
      have HB1 : Hid _ := hb1
      clear hmb hb1 c2 c3
      go_wp2_with fail
      refine hal.mono ?_
      rintro e w2 ⟨v2, rfl, hm2⟩
      have hbf2 : Buf w2 w1.heap.size v2 X0 := by
        have := hm2.buf
        rw [List.nil_append] at this
        rw [HX0.out]
        exact this
      have hb12 : Below w1.heap.size w1 w2 := hm2.below (X := []) (World.ownsRow_nil _ _ _ _) (Nat.le_refl _)
      have HB2 : Hid (Below wB.heap.size wB w2) := HB1.out.trans (hb12.mono HB1.out.size)
      have HBf2 : Hid _ := hbf2
      have HBl2 : Hid _ := hb12
      obtain ⟨d1, d2, d3⟩ := HC.out w2 HB2.out
      rw [hmm'] at d3
      clear hal hm2 hbf2 hb12 c1
      go_wp2
      go_loopw [4, 23] (fun v iv wx => ∃ (j : Nat) (X : List UInt8), iv = .int .i64 j ∧ j ≤ m ∧ Hid (Buf wx w1.heap.size v X) ∧ Hid (X = X0 ++ refsL (rs.take j)) ∧ Hid (Below w1.heap.size w1 wx)) (fun _ iv _ => m - (intOf iv).toNat)
      case atStart => exact ⟨0, X0, rfl, Nat.zero_le _, HBf2, by show _ = _; simp [refsL], HBl2⟩
      case round =>
        obtain ⟨j, X, rfl, hj, HBf, HXe, HBl⟩ := hrel
        by_cases hlt : j < m
        · have hlt' : (j : Int) < (m : Int) := by omega
          obtain rfl := hat (by omega)
          have hin : j < rs.length := by rw [← HM.out]; exact hlt
          have hbw := HB.out.trans ((HB1.out.trans (HBl.out.mono HB1.out.size)).mono HB.out.size)
          have c0 := HCe.out wr hbw j hin
          have hsz := isP_len (List.all_eq_true.1 HF6.out _ (List.getElem_mem hin))
          have hxl : X.length ≤ 134 + j * 72 := by rw [HXe.out, List.length_append]; have := HLen.out j; omega
          obtain ⟨s, hs'⟩ : ∃ s, s = rs[j] := ⟨_, rfl⟩
          rw [← hs'] at c0 hsz
          have hal9 := appendLine_ok w1.heap.size _ X ⟨#[114, 101, 102]⟩ s wr HBf.out HBl.out.size (by have e : (⟨#[114, 101, 102]⟩ : ByteArray).size = 3 := rfl; omega)
          have HTk : Hid (X ++ lineL WR (bl s) = X0 ++ refsL (rs.take (j + 1))) := by
            show _ = _
            rw [refsL_take rs j hin, HXe.out, hs', List.append_assoc]
          clear hs' hbw hsz hxl
          go_wp2_with fail
          refine hal9.mono ?_
          rintro e w9 ⟨v9, rfl, hm9⟩
          have HBf9 : Hid _ := hm9.buf
          have HBl9 : Hid (Below w1.heap.size w1 w9) := HBl.out.trans (hm9.below HBf.out HBl.out.size)
          clear hal9 hm9 c0
          go_wp2
          go_roundw
          case rel => exact ⟨j + 1, _, by go_num, by omega, HBf9, HTk, HBl9⟩
          case measure => simp [intOf]; omega
        · have hlt' : ¬ (j : Int) < (m : Int) := by omega
          have hcv := conv_buf wr w1.heap.size _ X HBf.out
          have HE : Hid (X = txt ⟨p, hs, d, rs⟩) := by
            show _ = _
            rw [HX.out, HXe.out, List.take_of_length_le (by have := HM.out; omega)]
          have HBE : Hid (Below w.heap.size w wr) := HB.out.trans ((HB1.out.trans (HBl.out.mono HB1.out.size)).mono HB.out.size)
          go_wp2
          go_ret2
          exact ⟨by rw [HV.out, ← HE.out]; rfl, HBE.out⟩
    | false =>
      have HX : Hid (txt ⟨p, hs, d, rs⟩ = lineL WH (bl hs) ++ lineL WD (bl d) ++ refsL rs) := by show _ = _; unfold txt; simp only [hd, Bool.false_eq_true, if_false]
      obtain ⟨X0, hX0⟩ : ∃ X, X = lineL WH (bl hs) := ⟨_, rfl⟩
      have hX0l : X0.length = 58 := by rw [hX0, lineL_len, bl_len, HF2.out]; rfl
      have HX0 : Hid _ := hX0
      rw [← hX0] at HX
      obtain ⟨X1, hX1⟩ : ∃ X, X = X0 ++ lineL WD (bl d) := ⟨_, rfl⟩
      have hX1l : X1.length ≤ 134 := by rw [hX1, List.length_append, lineL_len, bl_len]; have e : WD.length = 7 := rfl; omega
      have HX1 : Hid _ := hX1
      rw [← hX1] at HX
      clear hX0 hX1
      go_enter Tryd.func4, Tryd.ntmps4
      go_wp2_with (refine wpList_load_row rfl 24 _ rfl w.heap.size rfl 24 (infV ⟨p, hs, d, rs⟩ a c) (0, 0) _ HR.out Tryd.underlying24 rfl (infV_size ⟨p, hs, d, rs⟩ a c) ?_)
      refine hmb.mono ?_
      rintro e w1 ⟨rfl, hb1⟩
      obtain ⟨c1, c2, c3⟩ := HC.out w1 hb1
      have hal := appendLine_ok w1.heap.size (.slice none 0 0) [] ⟨#[104, 97, 115, 104]⟩ hs w1 (World.ownsRow_nil _ _ _ _) (Nat.le_refl _) (by have := HF2.out; have e : (⟨#[104, 97, 115, 104]⟩ : ByteArray).size = 4 := rfl; simp only [List.length_nil]; omega)
      have HB1 : Hid _ := hb1
      clear hmb hb1 c2 c3
      go_wp2_with fail
      refine hal.mono ?_
      rintro e w2 ⟨v2, rfl, hm2⟩
      have hbf2 : Buf w2 w1.heap.size v2 X0 := by
        have := hm2.buf
        rw [List.nil_append] at this
        rw [HX0.out]
        exact this
      have hb12 : Below w1.heap.size w1 w2 := hm2.below (X := []) (World.ownsRow_nil _ _ _ _) (Nat.le_refl _)
      have HB2 : Hid (Below wB.heap.size wB w2) := HB1.out.trans (hb12.mono HB1.out.size)
      have HBf2 : Hid _ := hbf2
      have HBl2 : Hid _ := hb12
      obtain ⟨d1, d2, d3⟩ := HC.out w2 HB2.out
      rw [hmm'] at d3
      clear hal hm2 hbf2 hb12 c1
      have hal2 := appendLine_ok w1.heap.size v2 X0 ⟨#[100, 101, 114, 105, 118, 101, 114]⟩ d w2 HBf2.out HBl2.out.size (by have e : (⟨#[100, 101, 114, 105, 118, 101, 114]⟩ : ByteArray).size = 7 := rfl; omega)
      go_wp2_with fail
      refine hal2.mono ?_
      rintro e w3 ⟨v3, rfl, hm3⟩
      have hbf3 : Buf w3 w1.heap.size v3 X1 := by rw [HX1.out]; exact hm3.buf
      have hb13 : Below w1.heap.size w1 w3 := HBl2.out.trans (hm3.below HBf2.out HBl2.out.size)
      have HB3 : Hid (Below wB.heap.size wB w3) := HB1.out.trans (hb13.mono HB1.out.size)
      have HBf3 : Hid _ := hbf3
      have HBl3 : Hid _ := hb13
      obtain ⟨g1, g2, g3⟩ := HC.out w3 HB3.out
      rw [hmm'] at g3
      clear hal2 hm3 hbf3 hb13 d1 d2 d3
      go_wp2
      go_loopw [4, 23] (fun v iv wx => ∃ (j : Nat) (X : List UInt8), iv = .int .i64 j ∧ j ≤ m ∧ Hid (Buf wx w1.heap.size v X) ∧ Hid (X = X1 ++ refsL (rs.take j)) ∧ Hid (Below w1.heap.size w1 wx)) (fun _ iv _ => m - (intOf iv).toNat)
      case atStart => exact ⟨0, X1, rfl, Nat.zero_le _, HBf3, by show _ = _; simp [refsL], HBl3⟩
      case round =>
        obtain ⟨j, X, rfl, hj, HBf, HXe, HBl⟩ := hrel
        by_cases hlt : j < m
        · have hlt' : (j : Int) < (m : Int) := by omega
          obtain rfl := hat (by omega)
          have hin : j < rs.length := by rw [← HM.out]; exact hlt
          have hbw := HB.out.trans ((HB1.out.trans (HBl.out.mono HB1.out.size)).mono HB.out.size)
          have c0 := HCe.out wr hbw j hin
          have hsz := isP_len (List.all_eq_true.1 HF6.out _ (List.getElem_mem hin))
          have hxl : X.length ≤ 134 + j * 72 := by rw [HXe.out, List.length_append]; have := HLen.out j; omega
          obtain ⟨s, hs'⟩ : ∃ s, s = rs[j] := ⟨_, rfl⟩
          rw [← hs'] at c0 hsz
          have hal9 := appendLine_ok w1.heap.size _ X ⟨#[114, 101, 102]⟩ s wr HBf.out HBl.out.size (by have e : (⟨#[114, 101, 102]⟩ : ByteArray).size = 3 := rfl; omega)
          have HTk : Hid (X ++ lineL WR (bl s) = X1 ++ refsL (rs.take (j + 1))) := by
            show _ = _
            rw [refsL_take rs j hin, HXe.out, hs', List.append_assoc]
          clear hs' hbw hsz hxl
          go_wp2_with fail
          refine hal9.mono ?_
          rintro e w9 ⟨v9, rfl, hm9⟩
          have HBf9 : Hid _ := hm9.buf
          have HBl9 : Hid (Below w1.heap.size w1 w9) := HBl.out.trans (hm9.below HBf.out HBl.out.size)
          clear hal9 hm9 c0
          go_wp2
          go_roundw
          case rel => exact ⟨j + 1, _, by go_num, by omega, HBf9, HTk, HBl9⟩
          case measure => simp [intOf]; omega
        · have hlt' : ¬ (j : Int) < (m : Int) := by omega
          have hcv := conv_buf wr w1.heap.size _ X HBf.out
          have HE : Hid (X = txt ⟨p, hs, d, rs⟩) := by
            show _ = _
            rw [HX.out, HXe.out, List.take_of_length_le (by have := HM.out; omega)]
          have HBE : Hid (Below w.heap.size w wr) := HB.out.trans ((HB1.out.trans (HBl.out.mono HB1.out.size)).mono HB.out.size)
          go_wp2
          go_ret2
          exact ⟨by rw [HV.out, ← HE.out]; rfl, HBE.out⟩
end Go.Proofs.YthidlckipiamkaaDoor
