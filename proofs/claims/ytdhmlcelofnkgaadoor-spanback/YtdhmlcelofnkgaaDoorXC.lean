/- My own work: a set's Text. My own work: the law SpanBack. -/
import Derived.Test.YtdhmlcelofnkgaaDoorTB2
import Derived.Test.YtdhmlcelofnkgaaDoorPermA
namespace Go.Proofs.YtdhmlcelofnkgaaDoor
open Go.RowKit

theorem pieces_at : ∀ (L : List Cut) (k : Nat) (h : 2 * k + 1 < L.length), (piecesT L)[k]? = some (pieceT L[2 * k] L[2 * k + 1])
  | a :: b :: r, 0, h => rfl
  | a :: b :: r, k + 1, h => by
    show (piecesT r)[k]? = _
    rw [pieces_at r k (by simp at h; omega)]
    simp [show 2 * (k + 1) = 2 * k + 1 + 1 by omega]
  | [a], k, h => by simp at h
  | [], k, h => by simp at h
/-- What holds ahead of each round. -/
structure TtR (w : World) (L : List Cut) (k : Nat) (pv : Value) (wq : World) : Prop where
  own : wq.ownsRow w.heap.size 9 1 pv k ((((piecesT L).map tx).take k).map Value.string)
  t : Pw wq
  old : Below w.heap.size w wq
set_option maxRecDepth 40000 in
set_option maxHeartbeats 8000000 in
theorem setText_ok {w : World} {p : Value} {L : List Cut} (h : GoodAt w p L w.heap.size) (hl : L.length ≤ 9000) (hT : Pw w) : Calls Tryd.prog 11 #[p] w fun e w' => e = .returned (.string (tx (setT L))) ∧ Below w.heap.size w w' := by
  have hm := isMade_sp h.at'
  have he := empty_set h.at' (by omega)
  have HOK : Hid (SetOk L) := h.ok
  obtain ⟨gx, vx, rfl, hgx, hrow, hcuts⟩ := h.at'.ex
  obtain ⟨sa, g2, off, cap, rfl, hc2, hc3, hc4, hc5⟩ := hcuts.ex
  by_cases h0 : L.length = 0
  · rw [decide_eq_true h0] at he
    have HE : Hid (setT L = noneT) := by show _ = _; unfold setT; rw [if_pos (List.eq_nil_of_length_eq_zero h0)]
    clear h hcuts hc2 hc3 hc4 hc5 hl h0 hrow
    go_enter Tryd.func11, Tryd.ntmps11
    go_wp2_with fail
    refine hm.mono ?_
    rintro e w0 ⟨rfl, hw0⟩
    rw [hw0]
    clear hw0 hm
    go_wp2_with fail
    refine he.mono ?_
    rintro e w0 ⟨rfl, hw0⟩
    rw [hw0]
    clear hw0 he
    go_wp2
    go_ret
    exact ⟨by rw [HE.out]; rfl, Below.refl _ _⟩
  · rw [decide_eq_false h0] at he
    obtain ⟨rfl, hg2⟩ := hc2 (by omega)
    have HE : Hid (setT L = joinC 124 (piecesT L)) := by show _ = _; unfold setT; rw [if_neg (fun e => h0 (by rw [e]; rfl))]
    have HRow : Hid (∀ wx, Below w.heap.size w wx → Row wx gx #[.bool true, .slice (some ⟨g2, off, none⟩) L.length cap] 59) := fun wx hx => hrow.below hx hgx
    have HRg : Hid (∀ wx, Below w.heap.size w wx → ∀ i (hi : i < L.length), wx.rangeAt g2 (off + i * 7) (encC L[i])) := fun wx hx i hi j u hj => (hx.cell (p := ⟨g2, off + i * 7 + j, none⟩) hg2).trans (hc5 i hi j u hj)
    obtain ⟨n, hn⟩ : ∃ n, L.length = 2 * n := ⟨L.length / 2, by have := HOK.out.even; omega⟩
    have HN : Hid (L.length = 2 * n) := hn
    have HPl : Hid ((piecesT L).length = n) := piecesT_len n L hn
    have HGW : Hid (1 < w.heap.size) := hT.lt
    have H0 : Hid (TtR w L 0 (.slice none 0 0) w) := ⟨World.ownsRow_nil _ _ _ _, hT, Below.refl _ _⟩
    obtain ⟨m, hm2⟩ : ∃ m, m = L.length := ⟨_, rfl⟩
    have HM : Hid (m = L.length) := hm2
    rw [← hm2] at HRow hc3 hl
    have hmn : m = 2 * n := by omega
    have HMN : Hid (m = 2 * n) := hmn
    have hn0 : 0 < n := by omega
    have hn45 : n ≤ 4500 := by omega
    have HHT : Hid (setT L = joinC 124 (piecesT L)) := HE.out
    clear h hcuts hc2 hc4 hc5 h0 hrow hg2 hn hm2 hmn hT
    go_enter Tryd.func11, Tryd.ntmps11
    go_wp2_with fail
    refine hm.mono ?_
    rintro e w0 ⟨rfl, hw0⟩
    rw [hw0]
    clear hw0 hm
    go_wp2_with fail
    refine he.mono ?_
    rintro e w0 ⟨rfl, hw0⟩
    rw [hw0]
    clear hw0 he
    go_wp2
    go_loopw [3, 4] (fun pv iv wq => ∃ k i : Nat, k ≤ n ∧ Hid (i = 2 * k) ∧ iv = .int .i64 i ∧ TtR w L k pv wq) (fun _ iv _ => m + 1 - (intOf iv).toNat)
    case atStart => exact ⟨0, 0, Nat.zero_le _, rfl, rfl, H0.out⟩
    case round =>
      obtain ⟨k, i, hk, HI, rfl, hR⟩ := hrel
      have HR : Hid (TtR w L k u3 wr) := hR
      clear hR H0
      have hcell := ((HRow.out wr (TtR.old HR.out)).cell 1).trans (show _ = some (Value.slice (some ⟨g2, off, none⟩) m cap) from rfl)
      by_cases hkn : k < n
      · have hik : i + 1 < m := by have := HI.out; have := HMN.out; omega
        have him : (i : Int) < (m : Int) := by omega
        obtain ⟨i1, hi1⟩ : ∃ i1, i1 = i + 1 := ⟨_, rfl⟩
        have hw1 : IntKind.i64.wrap ((i : Int) + 1) = (i1 : Int) := by rw [IntKind.wrap_i64]; omega
        have him1 : (i1 : Int) < (m : Int) := by omega
        have hiL : i < L.length := by have := HM.out; omega
        have hiL1 : i1 < L.length := by have := HM.out; omega
        obtain ⟨ca, hca⟩ : ∃ c, c = L[i] := ⟨_, rfl⟩
        obtain ⟨cb, hcb⟩ : ∃ c, c = L[i1] := ⟨_, rfl⟩
        have HRa : Hid (∀ wx, Below w.heap.size w wx → wx.rangeAt g2 (off + i * 7) (encC ca)) := fun wx hx => by rw [hca]; exact HRg.out wx hx i hiL
        have HRb : Hid (∀ wx, Below w.heap.size w wx → wx.rangeAt g2 (off + i1 * 7) (encC cb)) := fun wx hx => by rw [hcb]; exact HRg.out wx hx i1 hiL1
        have hoa : CutOk ca := by rw [hca]; exact HOK.out.ok _ (List.getElem_mem _)
        have hob : CutOk cb := by rw [hcb]; exact HOK.out.ok _ (List.getElem_mem _)
        obtain ⟨T, hTT⟩ : ∃ T, T = tx (pieceT ca cb) := ⟨_, rfl⟩
        have HTake : Hid ((((piecesT L).map tx).take (k + 1)).map Value.string = (((piecesT L).map tx).take k).map Value.string ++ [.string T]) := by
          have h2 := HI.out
          have e0 : (piecesT L)[k]? = some (pieceT L[2 * k] L[2 * k + 1]) := pieces_at L k (by have := HN.out; omega)
          have e1 : pieceT L[2 * k] L[2 * k + 1] = pieceT ca cb := by
            rw [hca, hcb]
            congr 1
            · congr 1; omega
            · congr 1; omega
          rw [e1] at e0
          show _ = _
          rw [List.take_add_one, List.getElem?_map, e0, List.map_append, hTT]
          rfl
        have hpc := pieceText_ok hoa hob wr.drew ((TtR.t HR.out).keep ((Below.refl _ _).drew) (Pw.lt (TtR.t HR.out)))
        rw [← hTT] at hpc
        have HB0 : Hid (Below w.heap.size w wr.drew) := (TtR.old HR.out).drew
        have HT0 : Hid (Pw wr.drew) := (TtR.t HR.out).keep ((Below.refl _ _).drew) (Pw.lt (TtR.t HR.out))
        clear hca hcb hTT hoa hob hi1
        go_upto_region 9 with fail
        refine wp_region_permA [(false, 0), (false, 1), (false, 2), (false, 3), (false, 4), (false, 5), (false, 6), (false, 7), (false, 8), (false, 9), (false, 10), (false, 11), (false, 12), (false, 13), (false, 14), (false, 15), (true, 16), (true, 17), (true, 18), (true, 19)] (fun wx => Below w.heap.size w wx) (by kernel_rfl) (by kernel_rfl) HB0.out ?_
        refine a_value (some 19) ?_ rfl rfl (by rfl) (fun w hw => ?_) ?_
        rotate_left
        · go_simp
          with_reducible rfl
        simp only [Act.put, List.setIfInBounds_toArray, List.set_cons_zero, List.set_cons_succ]
        refine a_value (some 20) ?_ rfl rfl (by rfl) (fun w hw => ?_) ?_
        rotate_left
        · go_simp
          with_reducible rfl
        simp only [Act.put, List.setIfInBounds_toArray, List.set_cons_zero, List.set_cons_succ]
        refine a_value (some 21) ?_ rfl rfl (by rfl) (fun w hw => ?_) ?_
        rotate_left
        · go_simp
          with_reducible rfl
        simp only [Act.put, List.setIfInBounds_toArray, List.set_cons_zero, List.set_cons_succ]
        refine a_value (some 22) ?_ rfl rfl (by rfl) (fun w hw => ?_) ?_
        rotate_left
        · go_simp
          with_reducible rfl
        simp only [Act.put, List.setIfInBounds_toArray, List.set_cons_zero, List.set_cons_succ]
        refine a_value (some 23) ?_ rfl rfl (by rfl) (fun w hw => ?_) ?_
        rotate_left
        · have hc := ((HRow.out w hw).cell 1).trans (show _ = some (Value.slice (some ⟨g2, off, none⟩) m cap) from rfl)
          go_simp
          with_reducible rfl
        simp only [Act.put, List.setIfInBounds_toArray, List.set_cons_zero, List.set_cons_succ]
        refine a_value (some 24) ?_ rfl rfl (by rfl) (fun w hw => ?_) ?_
        rotate_left
        · go_simp
          with_reducible rfl
        simp only [Act.put, List.setIfInBounds_toArray, List.set_cons_zero, List.set_cons_succ]
        refine a_value (some 25) ?_ rfl rfl (by rfl) (fun w hw => ?_) ?_
        rotate_left
        · go_simp
          with_reducible rfl
        simp only [Act.put, List.setIfInBounds_toArray, List.set_cons_zero, List.set_cons_succ]
        refine a_load_mid (some 26) 62 _ rfl rfl rfl (by rfl) g2 (off + i * 7) rfl (encC ca) _ (fun w hw => HRa.out w hw) Tryd.underlying62 rfl infoC ?_
        simp only [Act.put, List.setIfInBounds_toArray, List.set_cons_zero, List.set_cons_succ]
        refine a_value (some 27) ?_ rfl rfl (by rfl) (fun w hw => ?_) ?_
        rotate_left
        · go_simp
          with_reducible rfl
        simp only [Act.put, List.setIfInBounds_toArray, List.set_cons_zero, List.set_cons_succ]
        refine a_value (some 28) ?_ rfl rfl (by rfl) (fun w hw => ?_) ?_
        rotate_left
        · go_simp
          with_reducible rfl
        simp only [Act.put, List.setIfInBounds_toArray, List.set_cons_zero, List.set_cons_succ]
        refine a_value (some 29) ?_ rfl rfl (by rfl) (fun w hw => ?_) ?_
        rotate_left
        · go_simp
          with_reducible rfl
        simp only [Act.put, List.setIfInBounds_toArray, List.set_cons_zero, List.set_cons_succ]
        refine a_value (some 30) ?_ rfl rfl (by rfl) (fun w hw => ?_) ?_
        rotate_left
        · have hc := ((HRow.out w hw).cell 1).trans (show _ = some (Value.slice (some ⟨g2, off, none⟩) m cap) from rfl)
          go_simp
          with_reducible rfl
        simp only [Act.put, List.setIfInBounds_toArray, List.set_cons_zero, List.set_cons_succ]
        refine a_value (some 31) ?_ rfl rfl (by rfl) (fun w hw => ?_) ?_
        rotate_left
        · go_simp
          with_reducible rfl
        simp only [Act.put, List.setIfInBounds_toArray, List.set_cons_zero, List.set_cons_succ]
        refine a_value (some 32) ?_ rfl rfl (by rfl) (fun w hw => ?_) ?_
        rotate_left
        · go_simp
          with_reducible rfl
        simp only [Act.put, List.setIfInBounds_toArray, List.set_cons_zero, List.set_cons_succ]
        refine a_value (some 33) ?_ rfl rfl (by rfl) (fun w hw => ?_) ?_
        rotate_left
        · go_simp
          with_reducible rfl
        simp only [Act.put, List.setIfInBounds_toArray, List.set_cons_zero, List.set_cons_succ]
        refine a_load_mid (some 34) 62 _ rfl rfl rfl (by rfl) g2 (off + i1 * 7) rfl (encC cb) _ (fun w hw => HRb.out w hw) Tryd.underlying62 rfl infoC ?_
        simp only [Act.put, List.setIfInBounds_toArray, List.set_cons_zero, List.set_cons_succ]
        refine a_call (some 35) rfl rfl (by rfl) 25 #[cutV ca, cutV cb] (by go_simp) ?_
        refine hpc.mono ?_
        rintro e w5 ⟨rfl, hb5⟩
        have HB5 : Hid (Below w.heap.size w w5) := HB0.out.trans (hb5.mono HB0.out.size)
        have HT5 : Hid (Pw w5) := Pw.keep HT0.out hb5 (Pw.lt HT0.out)
        have hown6 : (w5.alloc (.cells #[.string T] 9)).ownsRow w.heap.size 9 1 u3 k ((((piecesT L).map tx).take k).map Value.string) := own_below (own_below (own_below (TtR.own HR.out) ((Below.refl _ _).drew)) hb5) ((Below.refl _ _).alloc (Nat.le_refl _) _)
        clear hpc
        refine ⟨_, rfl, HB5.out, ?_⟩
        simp only [Act.put, List.setIfInBounds_toArray, List.set_cons_zero, List.set_cons_succ]
        refine a_alone (some 36) (.slice (some ⟨w5.heap.size, 0, none⟩) 1 1) (w5.alloc (.cells #[.string T] 9)) rfl rfl (by rfl) (by go_simp) (HB5.out.alloc HB5.out.size _) ?_
        simp only [Act.put, List.setIfInBounds_toArray, List.set_cons_zero, List.set_cons_succ]
        refine a_wp rfl (by rfl) ?_
        refine ap_one (some 37) rfl _ _ rfl w.heap.size u3 k ((((piecesT L).map tx).take k).map Value.string) rfl T hown6 rfl HB5.out.size (by omega) ?_
        intro v7 w7 ho7 hg7
        have hb7 : Below w.heap.size (w5.alloc (.cells #[.string T] 9)) w7 := below_own' hg7 (by have := HB5.out.size; simp; omega) fun j hj => (own_block hown6 j hj).1
        have hS7 : Below w.heap.size w w7 := (HB5.out.alloc HB5.out.size _).trans hb7
        have HR7 : Hid (TtR w L (k + 1) v7 w7) := ⟨by rw [HTake.out]; exact ho7, ?_, hS7⟩
        · refine ⟨hS7, ?_⟩
          simp only [Act.put, List.setIfInBounds_toArray, List.set_cons_zero, List.set_cons_succ]
          refine a_alone (some 3) v7 w7 rfl rfl (by rfl) (by go_simp) hS7 ?_
          simp only [Act.put, List.setIfInBounds_toArray, List.set_cons_zero, List.set_cons_succ]
          refine a_done ?_
          try simp only [Exit.then]
          clear ho7 hg7 hb7 hown6 hS7
          have hw2 : IntKind.i64.wrap ((i : Int) + 2) = ((i + 2 : Nat) : Int) := by rw [IntKind.wrap_i64]; omega
          have HI2 : Hid (i + 2 = 2 * (k + 1)) := by show _ = _; have := HI.out; omega
          clear hw1
          go_wp2
          go_roundw
          case rel => exact ⟨k + 1, i + 2, by omega, HI2.out, by go_num, HR7.out⟩
          case measure => simp [intOf]; omega
        · have hp6 : Pw (w5.alloc (.cells #[.string T] 9)) := Pw.keep HT5.out ((Below.refl _ _).alloc (Nat.le_refl _) _) (Pw.lt HT5.out)
          exact hp6.keep hb7 HGW.out
      · obtain rfl : k = n := by omega
        have him : ¬ (i : Int) < (m : Int) := by have := HI.out; have := HMN.out; omega
        have htk : ((piecesT L).map tx).take k = (piecesT L).map tx := List.take_of_length_le (by rw [List.length_map, HPl.out]; exact Nat.le_refl _)
        have hown := TtR.own HR.out
        rw [htk] at hown
        have hlen : ((piecesT L).map tx).length = k := by rw [List.length_map, HPl.out]
        have hmap : ((piecesT L).map tx).map vb = piecesT L := by
          rw [List.map_map]
          have : (vb ∘ tx) = id := by funext x; exact vb_tx x
          rw [this, List.map_id]
        have hne : (piecesT L).map tx ≠ [] := fun e => by rw [e] at hlen; simp at hlen; omega
        have hj := join_any (B := w.heap.size) (sv := u3) ((piecesT L).map tx) 124 wr (by rw [hlen]; exact hown) hne (by
          rw [hmap]
          have h1 := joinC_small 124 200 (piecesT L) (pieces_small L HOK.out.ok)
          rw [HPl.out] at h1
          omega) (by rw [hlen]; omega)
        rw [hmap, ← HHT.out] at hj
        obtain ⟨J, hJ⟩ : ∃ J, J = tx (setT L) := ⟨_, rfl⟩
        rw [← hJ] at hj
        have HJ : Hid (J = tx (setT L)) := hJ
        have HBr : Hid (Below w.heap.size w wr) := TtR.old HR.out
        clear hJ htk hown hlen hmap hne
        go_wp2_with fail
        refine hj.mono ?_
        rintro e w8 ⟨rfl, hb8⟩
        clear hj
        go_wp2
        go_ret
        exact ⟨(by show Ending.returned (.string J) = _; rw [HJ.out]), HBr.out.trans (hb8.mono HBr.out.size)⟩
end Go.Proofs.YtdhmlcelofnkgaaDoor
namespace Go.Proofs.YtdhmlcelofnkgaaDoor
open Go.RowKit

/-- What holds at the law's end. -/
structure SbS (w : World) (A : List Cut) (x y : Value) (v : Ver) (wx : World) : Prop where
  x : Gd wx x A 578
  y : Gd wx y A 578
  v : Row wx w.heap.size (verC v) 34
  t : Pw wx
  old : Below w.heap.size w wx
theorem SbS.next {w : World} {A : List Cut} {x y : Value} {v : Ver} {wx w' : World} (h : SbS w A x y v wx) (hb : Below wx.heap.size wx w') : SbS w A x y v w' :=
  ⟨h.x.next hb, h.y.next hb, h.v.below hb h.v.lt, h.t.keep hb h.t.lt, h.old.trans (hb.mono h.old.size)⟩
theorem count_more {l : By} {i : Nat} (h : i < l.length) (c : UInt8) : (l.take (i + 1)).count c = (l.take i).count c + if l[i] = c then 1 else 0 := by
  rw [List.take_succ_eq_append_getElem h, List.count_append, List.count_singleton]
  by_cases e : l[i] = c
  · simp [e]
  · simp [e]
set_option maxRecDepth 40000 in
set_option maxHeartbeats 16000000 in
theorem law_back14 (a : ByteArray) (v : Ver) (ha : a.size ≤ 140737488355328) (w : World) (hT : Pw w) : Calls Tryd.prog 4 #[.string a, verV v] w fun e w' => e = .returned (.bool true) ∧ Below w.heap.size w w' := by
  have hb0 : Below w.heap.size w (w.alloc (.cells (verC v) 34)) := (Below.refl _ _).alloc (Nat.le_refl _) _
  have hr0 : Row (w.alloc (.cells (verC v) 34)) w.heap.size (verC v) 34 := Row.new _ _ _
  obtain ⟨w0, hw0⟩ : ∃ x, x = w.alloc (.cells (verC v) 34) := ⟨_, rfl⟩
  have hw0' := hw0.symm
  rw [← hw0] at hb0 hr0
  have h1 := rangeParse_ok a w0 ha
  have HT : Hid (Pw w0) := hT.keep hb0 hT.lt
  have HOne : Hid (rangeS (vb ⟨#[42, 124, 61, 49]⟩) = some allC) := one_back
  have HA1 : Hid (tx (setT allC) = ⟨#[42]⟩) := rfl
  have HA0 : Hid (tx (setT []) = ⟨#[62, 48, 45, 48, 44, 60, 48, 45, 48]⟩) := rfl
  have HB0 : Hid (Below w.heap.size w w0) := hb0
  have HR0 : Hid (Row w0 w.heap.size (verC v) 34) := hr0
  clear hT ha hw0 hb0 hr0
  go_enter Tryd.func4, Tryd.ntmps4
  go_wp2_with fail
  refine h1.mono ?_
  rintro e w1 (⟨_, rfl, hb1⟩ | ⟨A, x, _, rfl, hx, hxl, hb1⟩)
  · have HB1 : Hid (Below w0.heap.size w0 w1) := hb1
    clear h1 hb1
    go_wp2_with fail
    refine Calls.mono (rangeParse_ok ⟨#[42, 124, 61, 49]⟩ w1 (by decide)) ?_
    rintro e w2 h2
    have h2' := h2
    unfold PaPost at h2'
    rw [HOne.out] at h2'
    rcases h2' with ⟨h3, _⟩ | ⟨L1, p1, h3, rfl, hg1, hl1, hb2⟩
    · cases h3
    · obtain rfl : allC = L1 := Option.some.inj h3
      have HB2 : Hid (Below w0.heap.size w0 w2) := HB1.out.trans (hb2.mono HB1.out.size)
      have HT2 : Hid (Pw w2) := Pw.keep HT.out HB2.out (Pw.lt HT.out)
      have htx1 := setText_ok hg1 (by decide) HT2.out
      rw [HA1.out] at htx1
      obtain ⟨g1, v1, rfl, _⟩ := hg1.at'.ex
      clear h2 h3 hg1 hl1 hb2
      go_wp2_with fail
      refine htx1.mono ?_
      rintro e w3 ⟨rfl, hb3⟩
      have HB3 : Hid (Below w0.heap.size w0 w3) := HB2.out.trans (hb3.mono HB2.out.size)
      clear htx1 hb3
      go_wp2_with fail
      refine (Gd.none w3).mono ?_
      rintro e w4 ⟨q4, rfl, hg4, hb4⟩
      have HB4 : Hid (Below w0.heap.size w0 w4) := HB3.out.trans (hb4.mono HB3.out.size)
      have HT4 : Hid (Pw w4) := Pw.keep HT.out HB4.out (Pw.lt HT.out)
      have htx4 := setText_ok hg4.g (by decide) HT4.out
      rw [HA0.out] at htx4
      clear hg4 hb4
      go_wp2_with fail
      refine htx4.mono ?_
      rintro e w5 ⟨rfl, hb5⟩
      have HB5 : Hid (Below w0.heap.size w0 w5) := HB4.out.trans (hb5.mono HB4.out.size)
      clear htx4 hb5
      go_wp2
      go_ret
      exact ⟨rfl, HB0.out.trans (HB5.out.mono HB0.out.size)⟩
  · have HB1 : Hid (Below w0.heap.size w0 w1) := hb1
    have HX1 : Hid (Gd w1 x A 578) := ⟨hx, hxl⟩
    have HOA : Hid (SetOk A) := hx.ok
    have hxl' := hxl
    obtain ⟨gx, vx, rfl, _⟩ := hx.at'.ex
    clear h1 hb1 hx
    go_wp2_with fail
    refine Calls.mono (rangeParse_ok ⟨#[42, 124, 61, 49]⟩ w1 (by decide)) ?_
    rintro e w2 h2
    have h2' := h2
    unfold PaPost at h2'
    rw [HOne.out] at h2'
    rcases h2' with ⟨h3, _⟩ | ⟨L1, p1, h3, rfl, hg1, hl1, hb2⟩
    · cases h3
    · obtain rfl : allC = L1 := Option.some.inj h3
      have HB2 : Hid (Below w0.heap.size w0 w2) := HB1.out.trans (hb2.mono HB1.out.size)
      have HT2 : Hid (Pw w2) := Pw.keep HT.out HB2.out (Pw.lt HT.out)
      have htx1 := setText_ok hg1 (by decide) HT2.out
      rw [HA1.out] at htx1
      obtain ⟨g1, v1, rfl, _⟩ := hg1.at'.ex
      have HX2 : Hid (Gd w2 (.pointer (some ⟨gx, 0, none⟩)) A 578) := Gd.next HX1.out hb2
      clear h2 h3 hg1 hl1 hb2
      go_wp2_with fail
      refine htx1.mono ?_
      rintro e w3 ⟨rfl, hb3⟩
      have HB3 : Hid (Below w0.heap.size w0 w3) := HB2.out.trans (hb3.mono HB2.out.size)
      have HX3 : Hid (Gd w3 (.pointer (some ⟨gx, 0, none⟩)) A 578) := Gd.next HX2.out hb3
      clear htx1 hb3
      go_wp2_with fail
      refine (Gd.none w3).mono ?_
      rintro e w4 ⟨q4, rfl, hg4, hb4⟩
      have HB4 : Hid (Below w0.heap.size w0 w4) := HB3.out.trans (hb4.mono HB3.out.size)
      have HT4 : Hid (Pw w4) := Pw.keep HT.out HB4.out (Pw.lt HT.out)
      have HX4 : Hid (Gd w4 (.pointer (some ⟨gx, 0, none⟩)) A 578) := Gd.next HX3.out hb4
      have htx4 := setText_ok hg4.g (by decide) HT4.out
      rw [HA0.out] at htx4
      clear hg4 hb4
      go_wp2_with fail
      refine htx4.mono ?_
      rintro e w5 ⟨rfl, hb5⟩
      have HB5 : Hid (Below w0.heap.size w0 w5) := HB4.out.trans (hb5.mono HB4.out.size)
      have HX5 : Hid (Gd w5 (.pointer (some ⟨gx, 0, none⟩)) A 578) := Gd.next HX4.out hb5
      clear htx4 hb5
      have HT5 : Hid (Pw w5) := Pw.keep HT.out HB5.out (Pw.lt HT.out)
      obtain ⟨S, hS⟩ : ∃ S, S = tx (setT A) := ⟨_, rfl⟩
      have HTX : Hid (∀ wx p, Gd wx p A 578 → Pw wx → Calls Tryd.prog 11 #[p] wx fun e w' => e = .returned (.string S) ∧ Below wx.heap.size wx w') := fun wx p h ht => by
        have h1 := setText_ok h.g (by have := h.l; omega) ht
        rw [← hS] at h1
        exact h1
      have HSv : Hid (vb S = setT A) := by show _ = _; rw [hS, vb_tx]
      have hSz : S.size ≤ 200000 := by rw [hS, tx_size]; have := setT_small HOA.out; omega
      have htx := HTX.out w5 _ HX5.out HT5.out
      clear hS hxl'
      go_wp2_with fail
      refine htx.mono ?_
      rintro e w6 ⟨rfl, hb6⟩
      have HB6 : Hid (Below w0.heap.size w0 w6) := HB5.out.trans (hb6.mono HB5.out.size)
      have HX6 : Hid (Gd w6 (.pointer (some ⟨gx, 0, none⟩)) A 578) := Gd.next HX5.out hb6
      have hp := rangeParse_ok S w6 (by omega)
      clear htx hb6
      go_wp2
      go_loop [10, 11] (fun pv iv => ∃ i c : Nat, i ≤ S.size ∧ iv = .int .i64 i ∧ pv = .int .i64 c ∧ c ≤ i + 1 ∧ Hid (c = ((setT A).take i).count 124 + 1)) (fun _ iv => S.size - (intOf iv).toNat)
      case atStart => exact ⟨0, 1, Nat.zero_le _, rfl, rfl, Nat.le_refl _, rfl⟩
      case round =>
        obtain ⟨i, c, hi, rfl, rfl, hc, HC⟩ := hrel
        by_cases hlt : i < S.size
        · have hlt' : (i : Int) < (S.size : Int) := by omega
          have hiL : i < (setT A).length := by rw [← HSv.out, vb_len]; exact hlt
          obtain ⟨b, hb⟩ : ∃ b, b = S[i] := ⟨_, rfl⟩
          have hb' : S[i].toNat = b.toNat := by rw [hb]
          have HBB : Hid ((setT A)[i] = b) := by
            show _ = _
            rw [hb]
            have e : (setT A)[i]? = (vb S)[i]? := by rw [HSv.out]
            rw [List.getElem?_eq_getElem hiL, List.getElem?_eq_getElem (by rw [vb_len]; exact hlt)] at e
            exact Option.some.inj e
          clear hb hp
          by_cases hbc : b = 124
          · have HN : Hid (c + 1 = ((setT A).take (i + 1)).count 124 + 1) := by
              show _ = _
              rw [count_more hiL, HBB.out, if_pos hbc, ← HC.out]
            have hb2 : b.toNat = 124 := by rw [hbc]; rfl
            clear hbc
            go_wp2
            go_round
            case rel => exact ⟨i + 1, c + 1, by omega, by go_num, by go_num, by omega, HN.out⟩
            case measure => simp [intOf]; omega
          · have HN : Hid (c = ((setT A).take (i + 1)).count 124 + 1) := by
              show _ = _
              rw [count_more hiL, HBB.out, if_neg hbc, Nat.add_zero]
              exact HC.out
            have hb2 : ¬ b.toNat = 124 := fun e => hbc (UInt8.toNat_inj.1 (by rw [e]; rfl))
            have hb3 : ((b.toNat : Int) == 124) = false := by simp only [beq_eq_false_iff_ne]; omega
            clear hbc
            go_wp2
            go_round
            case rel => exact ⟨i + 1, c, by omega, by go_num, rfl, by omega, HN.out⟩
            case measure => simp [intOf]; omega
        · have hlt' : ¬ (i : Int) < (S.size : Int) := by omega
          have HCC : Hid (c = (setT A).count 124 + 1) := by
            have h := HC.out
            rw [List.take_of_length_le (by rw [← HSv.out, vb_len]; omega)] at h
            exact h
          unfold PaPost at hp
          rw [HSv.out] at hp
          rcases set_back HOA.out with ⟨hbig, hno⟩ | ⟨hsm, hyes⟩
          · rw [hno] at hp
            have hc16 : (16 : Int) < (c : Int) := by have := HCC.out; omega
            clear hbig hno
            go_wp2_with fail
            refine hp.mono ?_
            rintro e w7 (⟨_, rfl, hb7⟩ | ⟨_, _, h, _⟩)
            · have HB7 : Hid (Below w0.heap.size w0 w7) := HB6.out.trans (hb7.mono HB6.out.size)
              clear hp hb7
              go_wp2
              go_ret
              exact ⟨rfl, HB0.out.trans (HB7.out.mono HB0.out.size)⟩
            · cases h
          · rw [hyes] at hp
            have hc16 : ¬ (16 : Int) < (c : Int) := by have := HCC.out; omega
            clear hsm hyes
            go_wp2_with fail
            refine hp.mono ?_
            rintro e w7 (⟨h, _⟩ | ⟨L7, y, hL, rfl, hy, hyl, hb7⟩)
            · cases h
            · obtain rfl : A = L7 := Option.some.inj hL
              have HB7 : Hid (Below w0.heap.size w0 w7) := HB6.out.trans (hb7.mono HB6.out.size)
              obtain ⟨gy, vy, rfl, _⟩ := hy.at'.ex
              have hrow7 : Row w7 w.heap.size (verC v) 34 := Row.below HR0.out HB7.out (Row.lt HR0.out)
              have HS7 : Hid (SbS w A (.pointer (some ⟨gx, 0, none⟩)) (.pointer (some ⟨gy, 0, none⟩)) v w7) := ⟨Gd.next HX6.out hb7, ⟨hy, hyl⟩, hrow7, Pw.keep HT.out HB7.out (Pw.lt HT.out), HB0.out.trans (HB7.out.mono HB0.out.size)⟩
              obtain ⟨p, hpv⟩ : ∃ p, hasV A v = p := ⟨_, rfl⟩
              have HP : Hid (hasV A v = p) := hpv
              clear hp hL hy hyl hb7 hpv hrow7
              go_upto_region 17 with fail
              refine wp_region_quiet (C := SbS w A (.pointer (some ⟨gx, 0, none⟩)) (.pointer (some ⟨gy, 0, none⟩)) v) (by kernel_rfl) (by kernel_rfl) (SbS.next HS7.out ((Below.refl _ _).drew)) ?_
              simp only []
              refine q_value ?_ (by rfl) (fun w hw => ?_) ?_
              rotate_left
              · go_simp
                with_reducible rfl
              simp only [Act.put, List.setIfInBounds_toArray, List.set_cons_zero, List.set_cons_succ]
              refine q_value ?_ (by rfl) (fun w hw => ?_) ?_
              rotate_left
              · go_simp
                with_reducible rfl
              simp only [Act.put, List.setIfInBounds_toArray, List.set_cons_zero, List.set_cons_succ]
              refine q_value ?_ (by rfl) (fun w hw => ?_) ?_
              rotate_left
              · go_simp
                with_reducible rfl
              simp only [Act.put, List.setIfInBounds_toArray, List.set_cons_zero, List.set_cons_succ]
              refine q_value ?_ (by rfl) (fun w hw => ?_) ?_
              rotate_left
              · go_simp
                with_reducible rfl
              simp only [Act.put, List.setIfInBounds_toArray, List.set_cons_zero, List.set_cons_succ]
              refine q_call (.string S) (by rfl) 11 #[(.pointer (some ⟨gy, 0, none⟩))] (fun w h => by go_simp) (fun w h => (HTX.out _ _ h.y h.t).mono fun e w' ⟨he, hb⟩ => ⟨he, h.next hb⟩) ?_
              simp only [Act.put, List.setIfInBounds_toArray, List.set_cons_zero, List.set_cons_succ]
              refine q_value ?_ (by rfl) (fun w hw => ?_) ?_
              rotate_left
              · go_simp
                with_reducible rfl
              simp only [Act.put, List.setIfInBounds_toArray, List.set_cons_zero, List.set_cons_succ]
              refine q_value ?_ (by rfl) (fun w hw => ?_) ?_
              rotate_left
              · go_simp
                with_reducible rfl
              simp only [Act.put, List.setIfInBounds_toArray, List.set_cons_zero, List.set_cons_succ]
              refine q_value ?_ (by rfl) (fun w hw => ?_) ?_
              rotate_left
              · go_simp
                with_reducible rfl
              simp only [Act.put, List.setIfInBounds_toArray, List.set_cons_zero, List.set_cons_succ]
              refine q_value ?_ (by rfl) (fun w hw => ?_) ?_
              rotate_left
              · go_simp
                with_reducible rfl
              simp only [Act.put, List.setIfInBounds_toArray, List.set_cons_zero, List.set_cons_succ]
              refine q_value ?_ (by rfl) (fun w hw => ?_) ?_
              rotate_left
              · go_simp
                with_reducible rfl
              simp only [Act.put, List.setIfInBounds_toArray, List.set_cons_zero, List.set_cons_succ]
              refine q_value ?_ (by rfl) (fun w hw => ?_) ?_
              rotate_left
              · go_simp
                with_reducible rfl
              simp only [Act.put, List.setIfInBounds_toArray, List.set_cons_zero, List.set_cons_succ]
              refine q_call (.bool true) (by rfl) 13 #[(.pointer (some ⟨gy, 0, none⟩)), (.pointer (some ⟨gx, 0, none⟩))] (fun w h => by go_simp) (fun w h => (Gd.same h.y h.x (by omega) (by omega) rfl).mono fun e w' ⟨he, hb⟩ => ⟨he, h.next hb⟩) ?_
              simp only [Act.put, List.setIfInBounds_toArray, List.set_cons_zero, List.set_cons_succ]
              refine q_value ?_ (by rfl) (fun w hw => ?_) ?_
              rotate_left
              · go_simp
                with_reducible rfl
              simp only [Act.put, List.setIfInBounds_toArray, List.set_cons_zero, List.set_cons_succ]
              refine q_value ?_ (by rfl) (fun w hw => ?_) ?_
              rotate_left
              · go_simp
                with_reducible rfl
              simp only [Act.put, List.setIfInBounds_toArray, List.set_cons_zero, List.set_cons_succ]
              refine q_value ?_ (by rfl) (fun w hw => ?_) ?_
              rotate_left
              · go_simp
                with_reducible rfl
              simp only [Act.put, List.setIfInBounds_toArray, List.set_cons_zero, List.set_cons_succ]
              refine q_load 34 _ rfl (by rfl) w.heap.size (verC v) 34 _ rfl (fun w h => h.v) Tryd.underlying34 rfl infoVs ?_
              simp only [Act.put, List.setIfInBounds_toArray, List.set_cons_zero, List.set_cons_succ]
              refine q_call (.bool p) (by rfl) 8 #[(.pointer (some ⟨gy, 0, none⟩)), verV v] (fun w h => by go_simp) (fun w h => (Gd.has h.y (by omega) h.t v p HP.out).mono fun e w' ⟨he, hb⟩ => ⟨he, h.next hb⟩) ?_
              simp only [Act.put, List.setIfInBounds_toArray, List.set_cons_zero, List.set_cons_succ]
              refine q_value ?_ (by rfl) (fun w hw => ?_) ?_
              rotate_left
              · go_simp
                with_reducible rfl
              simp only [Act.put, List.setIfInBounds_toArray, List.set_cons_zero, List.set_cons_succ]
              refine q_load 34 _ rfl (by rfl) w.heap.size (verC v) 34 _ rfl (fun w h => h.v) Tryd.underlying34 rfl infoVs ?_
              simp only [Act.put, List.setIfInBounds_toArray, List.set_cons_zero, List.set_cons_succ]
              refine q_call (.bool p) (by rfl) 8 #[(.pointer (some ⟨gx, 0, none⟩)), verV v] (fun w h => by go_simp) (fun w h => (Gd.has h.x (by omega) h.t v p HP.out).mono fun e w' ⟨he, hb⟩ => ⟨he, h.next hb⟩) ?_
              simp only [Act.put, List.setIfInBounds_toArray, List.set_cons_zero, List.set_cons_succ]
              refine q_value ?_ (by rfl) (fun w hw => ?_) ?_
              rotate_left
              · go_simp
                with_reducible rfl
              simp only [Act.put, List.setIfInBounds_toArray, List.set_cons_zero, List.set_cons_succ]
              refine q_value ?_ (by rfl) (fun w hw => ?_) ?_
              rotate_left
              · go_simp
                with_reducible rfl
              simp only [Act.put, List.setIfInBounds_toArray, List.set_cons_zero, List.set_cons_succ]
              refine q_value ?_ (by rfl) (fun w hw => ?_) ?_
              rotate_left
              · go_simp
                with_reducible rfl
              simp only [Act.put, List.setIfInBounds_toArray, List.set_cons_zero, List.set_cons_succ]
              refine wpQuiet_nil ?_
              intro wB hB
              try simp only [Exit.then]
              have HB : Hid _ := hB
              clear hB
              go_wp2
              go_ret
              exact ⟨rfl, (SbS.old HB.out)⟩
end Go.Proofs.YtdhmlcelofnkgaaDoor
