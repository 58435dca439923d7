/- My own work: the walk of the document's own Parse. -/
import Derived.Test.YtdhmlcelofnkgaaDoorR4M
import Derived.Test.YtdhmlcelofnkgaaDoorPerm
namespace Go.Proofs.YtdhmlcelofnkgaaDoor
open Go.RowKit

theorem resultsRp : Tryd.f33.results = #[.cell 2 33, .tmp 3] := by kernel_rfl
/-- What holds behind k bytes. -/
structure PrR (w wr : World) (gu : Nat) (s : ByteArray) (k : Nat) (u : Ver) : Prop where
  zero : Row wr w.heap.size zeroC 33
  ver : Row wr gu (verC u) 33
  far : w.heap.size < gu
  bel : Below w.heap.size w wr
  read : refR (vb s) startV = refR ((vb s).drop k) u
  tag : u.tag = ⟨#[]⟩
  cnt : 1 ≤ u.cnt ∧ u.cnt ≤ 4
  small : ∀ j, j < 4 → 0 ≤ nAt u j ∧ nAt u j ≤ 9999999999
theorem PrR.set {w wr : World} {gu : Nat} {s : ByteArray} {k : Nat} {u u' : Ver} {i : Nat} {x : Value} (h : PrR w wr gu s k u) (hr : (verC u).setIfInBounds i x = verC u') (h1 : refR ((vb s).drop k) u = refR ((vb s).drop (k + 1)) u') (h2 : u'.tag = ⟨#[]⟩) (h3 : 1 ≤ u'.cnt ∧ u'.cnt ≤ 4) (h4 : ∀ j, j < 4 → 0 ≤ nAt u' j ∧ nAt u' j ≤ 9999999999) : PrR w (wr.setCell ⟨gu, i, none⟩ x) gu s (k + 1) u' :=
  ⟨h.zero.setCell_other (by have := h.far; omega) _, by rw [← hr]; exact h.ver.setCell x, h.far, h.bel.trans (below_set (by have := h.far; omega) _ _), h.read.trans h1, h2, h3, h4⟩
theorem PrR.drew {w wr : World} {gu : Nat} {s : ByteArray} {k : Nat} {u : Ver} (h : PrR w wr gu s k u) : PrR w wr.drew gu s k u := ⟨h.zero, h.ver, h.far, h.bel.drew, h.read, h.tag, h.cnt, h.small⟩
theorem drop_at {s : ByteArray} {k : Nat} (h : k < s.size) : (vb s).drop k = s[k] :: (vb s).drop (k + 1) := by
  rw [List.drop_eq_getElem_cons (by rw [vb_len]; exact h)]
  rfl
theorem nAt_other (u : Ver) (k j : Nat) (y : Int) (h : ¬ j = k) (hj : j < 4) (hk : k < 4) : nAt (setN u k y) j = nAt u j := by
  match k, hk, j, hj with
  | 0, _, 0, _ => exact absurd rfl h
  | 0, _, 1, _ => rfl
  | 0, _, 2, _ => rfl
  | 0, _, 3, _ => rfl
  | 1, _, 0, _ => rfl
  | 1, _, 1, _ => exact absurd rfl h
  | 1, _, 2, _ => rfl
  | 1, _, 3, _ => rfl
  | 2, _, 0, _ => rfl
  | 2, _, 1, _ => rfl
  | 2, _, 2, _ => exact absurd rfl h
  | 2, _, 3, _ => rfl
  | 3, _, 0, _ => rfl
  | 3, _, 1, _ => rfl
  | 3, _, 2, _ => rfl
  | 3, _, 3, _ => exact absurd rfl h
theorem refR_other {b : UInt8} {r : By} {u : Ver} (h45 : b ≠ 45) (h46 : b ≠ 46) (hd : digB b = false) : refR (b :: r) u = none := by
  rw [refR, if_neg h45]
  unfold stepR
  rw [if_neg h46, if_neg (fun h => by rw [hd] at h; cases h.1)]
  rfl
theorem refR_big {b : UInt8} {r : By} {u : Ver} (h45 : b ≠ 45) (h46 : b ≠ 46) (hb : 999999999 < nAt u (u.cnt.toNat - 1)) : refR (b :: r) u = none := by
  rw [refR, if_neg h45]
  unfold stepR
  rw [if_neg h46, if_neg (fun h => by omega)]
  rfl
theorem refR_many {r : By} {u : Ver} (h : 4 < u.cnt + 1) : refR (46 :: r) u = none := by
  rw [refR, if_neg (by decide)]
  unfold stepR
  rw [if_pos rfl, if_pos h]
  rfl
set_option maxRecDepth 20000 in
set_option maxHeartbeats 16000000 in
theorem refParse_ok (s : ByteArray) (w : World) (hs : s.size ≤ 140737488355328) : Calls Tryd.prog 33 #[.string s] w fun e w' => e = .returned (parseE s) ∧ Below w.heap.size w w' := by
  have HL : Hid _ := vb_len s
  have hr0 : PrR w ((w.alloc (.cells zeroC 33)).alloc (.cells (verC startV) 33)) (w.heap.size + 1) s 0 startV := by
    refine ⟨(Row.new w _ _).alloc _, ?_, by omega, ((Below.refl _ _).alloc (Nat.le_refl _) _).alloc (by simp) _, rfl, rfl, by decide, fun j hj => ?_⟩
    · have h := Row.new (w.alloc (.cells zeroC 33)) (verC startV) 33
      rw [World.size_alloc] at h
      exact h
    · match j, hj with
      | 0, _ => decide
      | 1, _ => decide
      | 2, _ => decide
      | 3, _ => decide
  obtain ⟨w1, hw1⟩ : ∃ x, x = w.alloc (.cells zeroC 33) := ⟨_, rfl⟩
  have hs1 : w1.heap.size = w.heap.size + 1 := by rw [hw1]; simp
  have hw1' := hw1.symm
  rw [← hw1] at hr0
  obtain ⟨gu, hgu⟩ : ∃ g, g = w1.heap.size := ⟨_, rfl⟩
  rw [← hs1, ← hgu] at hr0
  obtain ⟨w2, hw2⟩ : ∃ x, x = w1.alloc (.cells (verC startV) 33) := ⟨_, rfl⟩
  rw [← hw2] at hr0
  have hw2' : w1.alloc (.cells #[.int .i64 0, .int .i64 0, .int .i64 0, .int .i64 0, .int .i64 1, .string ⟨#[]⟩] 33) = w2 := hw2.symm
  have HGU : Hid (gu = w1.heap.size) := hgu
  have HR0 : Hid (PrR w w2 gu s 0 startV) := hr0
  clear hw1 hs1 hw2 hr0 hgu
  go_enter Tryd.func33, Tryd.ntmps33
  go_wp2_with (refine wpList_store_new rfl 33 _ _ rfl w1 zeroC #[.int .i64 0, .int .i64 0, .int .i64 0, .int .i64 0, .int .i64 1, .string ⟨#[]⟩] 33 rfl w1.heap.size rfl rfl rfl infoRs rfl (verC_one ⟨0, 0, 0, 0, 1, ⟨#[]⟩⟩) ?_)
  rw [← HGU.out]
  clear hw1' hw2' HGU
  go_loopw [5] (fun i wr => ∃ (k : Nat) (u : Ver), k ≤ s.size ∧ i = .int .i64 k ∧ PrR w wr gu s k u) (fun i _ => s.size - (intOf i).toNat)
  case atStart => exact ⟨0, startV, Nat.zero_le _, rfl, HR0.out⟩
  case round =>
    obtain ⟨k, u, hk, rfl, hR⟩ := hrel
    have HR : Hid (PrR w wr gu s k u) := hR
    clear hR
    by_cases hlt : k < s.size
    · obtain ⟨c, hc⟩ : ∃ c, c = s[k] := ⟨_, rfl⟩
      have hc' : s[k].toNat = c.toNat := by rw [hc]
      have HD : Hid ((vb s).drop k = c :: (vb s).drop (k + 1)) := by show _ = _; rw [drop_at hlt, hc]
      have hlt' : (k : Int) < (s.size : Int) := by omega
      have hcl : c.toNat < 256 := UInt8.toNat_lt c
      clear hc
      obtain ⟨cc, hcc⟩ : ∃ cc : Nat, u.cnt = (cc : Int) := ⟨u.cnt.toNat, by have := HR.out.cnt; omega⟩
      have hcc4 : 1 ≤ cc ∧ cc ≤ 4 := by have := HR.out.cnt; omega
      have e4 : (verC u)[4]? = some (.int .i64 (cc : Int)) := by show some (Value.int .i64 u.cnt) = _; rw [hcc]
      have c4 : wr.cell? ⟨gu, 4, none⟩ = some (.int .i64 (cc : Int)) := (HR.out.ver.cell 4).trans e4
      have f4 := HR.out.ver.frozen 4
      by_cases h45 : c = 45
      · have hcv : c.toNat = 45 := by rw [h45]; rfl
        have c5 : wr.cell? ⟨gu, 5, none⟩ = some (.string u.tag) := (HR.out.ver.cell 5).trans rfl
        have f5 := HR.out.ver.frozen 5
        obtain ⟨t, ht⟩ : ∃ t, t = s.extract (k + 1) s.size := ⟨_, rfl⟩
        have ht' := ht.symm
        have HTX : Hid (tx ((vb s).drop (k + 1)) = t) := by
          show _ = _
          rw [ht]
          apply vb_inj
          rw [vb_tx, vb_extract, List.take_of_length_le (by rw [vb_len]; omega : (vb s).length ≤ s.size)]
        obtain ⟨ut, hut⟩ : ∃ ut : Ver, ut = { u with tag := t } := ⟨_, rfl⟩
        have HFt : Hid (refR (vb s) startV = some ut) := by
          show _ = _
          rw [HR.out.read, HD.out, h45, refR_dash, HTX.out, hut]
        have hts : ut.tag.size ≤ 140737488355328 := by rw [hut]; show t.size ≤ _; rw [ht, ByteArray.size_extract]; omega
        have hRt : Row (wr.setCell ⟨gu, 5, none⟩ (.string t)) gu (verC ut) 33 := by
          have h := HR.out.ver.setCell (i := 5) (.string t)
          rw [hut]
          exact h
        have hZt : Row (wr.setCell ⟨gu, 5, none⟩ (.string t)) w.heap.size zeroC 33 := HR.out.zero.setCell_other (by have := HR.out.far; omega) _
        have hBt : Below w.heap.size w (wr.setCell ⟨gu, 5, none⟩ (.string t)) := HR.out.bel.trans (below_set (by have := HR.out.far; omega) _ _)
        obtain ⟨wt, hwt⟩ : ∃ x, x = wr.setCell ⟨gu, 5, none⟩ (.string t) := ⟨_, rfl⟩
        rw [← hwt] at hRt hZt hBt
        have hwt' := hwt.symm
        have HRt : Hid (Row wt gu (verC ut) 33) := hRt
        have HZt : Hid (Row wt w.heap.size zeroC 33) := hZt
        have HBt : Hid (Below w.heap.size w wt) := hBt
        clear hwt hRt hZt hBt hut ht h45 e4 c4 f4
        have HPV : Hid (parseV (vb s) = if mayV ut = true ∧ textV ut = vb s then some ut else none) := parse_ref_some HFt.out
        have htx := refText_ok ut wt hts
        cases hmu : mayV ut with
        | false =>
          rw [textE_no hmu] at htx
          have HE : Hid (parseE s = .tuple #[verV zeroV, .int .i64 20]) := parseE_no (by rw [HPV.out, if_neg (fun h => by rw [hmu] at h; cases h.1)])
          clear hmu
          go_wp2_with (refine wpList_load_row rfl 33 _ rfl gu rfl 33 (verC ut) (0, 0) _ HRt.out Tryd.underlying33 rfl infoRs ?_)
          refine htx.mono ?_
          rintro e wy ⟨rfl, hby⟩
          have HZy : Hid (Row wy w.heap.size zeroC 33) := Row.below HZt.out hby (Row.lt HZt.out)
          have HBy : Hid (Below w.heap.size w wy) := HBt.out.trans (hby.mono HBt.out.size)
          clear htx hby
          go_wp2_with (refine wpList_store_row rfl 33 _ _ rfl w.heap.size zeroC rfl rfl 33 zeroC HZy.out infoRs rfl zeroC_one ?_)
          exact bodyPost_ret (results_cell_row2 resultsRp _ _ w.heap.size 33 zeroC (0, 0) _ rfl (Row.setRow HZy.out) Tryd.underlying33 rfl infoRs) rfl ⟨by rw [HE.out]; rfl, bel_setRow HBy.out (Nat.le_refl _) _⟩
        | true =>
          rw [textE_yes hmu] at htx
          obtain ⟨T, hT⟩ : ∃ T, T = tx (textV ut) := ⟨_, rfl⟩
          rw [← hT] at htx
          by_cases hts2 : textV ut = vb s
          · have hTs : T = s := by rw [hT, hts2, tx_vb]
            have HE : Hid (parseE s = .tuple #[verV ut, .int .i64 0]) := parseE_yes (by rw [HPV.out, if_pos ⟨hmu, hts2⟩])
            subst hTs
            clear hmu hts2 hT
            go_wp2_with (refine wpList_load_row rfl 33 _ rfl gu rfl 33 (verC ut) (0, 0) _ HRt.out Tryd.underlying33 rfl infoRs ?_)
            refine htx.mono ?_
            rintro e wy ⟨rfl, hby⟩
            have HZy : Hid (Row wy w.heap.size zeroC 33) := Row.below HZt.out hby (Row.lt HZt.out)
            have HBy : Hid (Below w.heap.size w wy) := HBt.out.trans (hby.mono HBt.out.size)
            have HRy : Hid (Row wy gu (verC ut) 33) := Row.below HRt.out hby (Row.lt HRt.out)
            clear htx hby
            go_wp2_with (first | refine wpList_load_row rfl 33 _ rfl gu rfl 33 (verC ut) (0, 0) _ HRy.out Tryd.underlying33 rfl infoRs ?_ | refine wpList_store_row rfl 33 _ _ rfl w.heap.size (verC ut) rfl rfl 33 zeroC HZy.out infoRs rfl (verC_one ut) ?_)
            exact bodyPost_ret (results_cell_row2 resultsRp _ _ w.heap.size 33 (verC ut) (0, 0) _ rfl (Row.setRow HZy.out) Tryd.underlying33 rfl infoRs) rfl ⟨by rw [HE.out]; rfl, bel_setRow HBy.out (Nat.le_refl _) _⟩
          · have hne : ¬ T.toList = s.toList := fun e => hts2 (by
              rw [ByteArray.toList_eq, ByteArray.toList_eq] at e
              rw [← vb_tx (textV ut), ← hT]
              exact e)
            have hne2 : (T.toList == s.toList) = false := by simpa using hne
            have HE : Hid (parseE s = .tuple #[verV zeroV, .int .i64 20]) := parseE_no (by rw [HPV.out, if_neg (fun h => hts2 h.2)])
            clear hmu hts2 hT
            go_wp2_with (refine wpList_load_row rfl 33 _ rfl gu rfl 33 (verC ut) (0, 0) _ HRt.out Tryd.underlying33 rfl infoRs ?_)
            refine htx.mono ?_
            rintro e wy ⟨rfl, hby⟩
            have HZy : Hid (Row wy w.heap.size zeroC 33) := Row.below HZt.out hby (Row.lt HZt.out)
            have HBy : Hid (Below w.heap.size w wy) := HBt.out.trans (hby.mono HBt.out.size)
            clear htx hby
            go_wp2_with (refine wpList_store_row rfl 33 _ _ rfl w.heap.size zeroC rfl rfl 33 zeroC HZy.out infoRs rfl zeroC_one ?_)
            exact bodyPost_ret (results_cell_row2 resultsRp _ _ w.heap.size 33 zeroC (0, 0) _ rfl (Row.setRow HZy.out) Tryd.underlying33 rfl infoRs) rfl ⟨by rw [HE.out]; rfl, bel_setRow HBy.out (Nat.le_refl _) _⟩
      · have n45 : ((c.toNat : Int) == 45) = false := by
          simp only [beq_eq_false_iff_ne]
          exact fun e => h45 (UInt8.toNat_inj.1 (by simpa using (by omega : c.toNat = 45)))
        by_cases h46 : c = 46
        · have hcv : c.toNat = 46 := by rw [h46]; rfl
          have hwc : IntKind.i64.wrap ((cc : Int) + 1) = ((cc + 1 : Nat) : Int) := by rw [IntKind.wrap_i64]; omega
          obtain ⟨c1, hc1⟩ : ∃ c1, c1 = cc + 1 := ⟨_, rfl⟩
          rw [← hc1] at hwc
          have hs4 := HR.out.ver.setCell (i := 4) (.int .i64 (c1 : Int))
          have q4 : (wr.setCell ⟨gu, 4, none⟩ (.int .i64 (c1 : Int))).cell? ⟨gu, 4, none⟩ = some (.int .i64 (c1 : Int)) := (hs4.cell 4).trans rfl
          have hZ4 : Row (wr.setCell ⟨gu, 4, none⟩ (.int .i64 (c1 : Int))) w.heap.size zeroC 33 := HR.out.zero.setCell_other (by have := HR.out.far; omega) _
          have hB4 : Below w.heap.size w (wr.setCell ⟨gu, 4, none⟩ (.int .i64 (c1 : Int))) := HR.out.bel.trans (below_set (by have := HR.out.far; omega) _ _)
          by_cases h5 : 4 < c1
          · have HE : Hid (parseE s = .tuple #[verV zeroV, .int .i64 20]) := parseE_no (parse_ref_none (by rw [HR.out.read, HD.out, h46]; exact refR_many (by rw [hcc]; omega)))
            have h5' : (4 : Int) < (c1 : Int) := by omega
            obtain ⟨w4, hw4⟩ : ∃ x, x = wr.setCell ⟨gu, 4, none⟩ (.int .i64 (c1 : Int)) := ⟨_, rfl⟩
            rw [← hw4] at q4 hZ4 hB4
            have hw4' := hw4.symm
            have HZ4 : Hid (Row w4 w.heap.size zeroC 33) := hZ4
            have HB4 : Hid (Below w.heap.size w w4) := hB4
            clear hs4 hZ4 hB4 hw4 h46 h45 e4 hc1 h5
            go_wp2_with (refine wpList_store_row rfl 33 _ _ rfl w.heap.size zeroC rfl rfl 33 zeroC HZ4.out infoRs rfl zeroC_one ?_)
            exact bodyPost_ret (results_cell_row2 resultsRp _ _ w.heap.size 33 zeroC (0, 0) _ rfl (Row.setRow HZ4.out) Tryd.underlying33 rfl infoRs) rfl ⟨by rw [HE.out]; rfl, bel_setRow HB4.out (Nat.le_refl _) _⟩
          · have h5' : ¬ (4 : Int) < (c1 : Int) := by omega
            have HN : Hid (PrR w (wr.setCell ⟨gu, 4, none⟩ (.int .i64 (c1 : Int))) gu s (k + 1) { u with cnt := (c1 : Int) }) := HR.out.set (u' := { u with cnt := (c1 : Int) }) rfl (by
              rw [HD.out, h46, refR_point _ _ (by rw [hcc]; omega)]
              congr 2
              rw [hcc]
              omega) HR.out.tag ⟨by show (1 : Int) ≤ c1; omega, by show (c1 : Int) ≤ 4; omega⟩ HR.out.small
            clear hs4 hZ4 hB4 h46 h45 e4 hc1 h5
            go_wp2
            go_roundw
            case rel => exact ⟨k + 1, _, by omega, by go_num, HN.out⟩
            case measure => simp [intOf]; omega
        · have n46 : ((c.toNat : Int) == 46) = false := by
            simp only [beq_eq_false_iff_ne]
            exact fun e => h46 (UInt8.toNat_inj.1 (by simpa using (by omega : c.toNat = 46)))
          obtain ⟨m1, hm1⟩ : ∃ m1, m1 = cc - 1 := ⟨_, rfl⟩
          have hwm : IntKind.i64.wrap ((cc : Int) - 1) = (m1 : Int) := by rw [IntKind.wrap_i64]; omega
          have hm14 : (m1 : Int) < 4 := by omega
          obtain ⟨x, hx⟩ : ∃ x, x = nAt u m1 := ⟨_, rfl⟩
          have hxm : nAt u (u.cnt.toNat - 1) = x := by rw [hcc, Int.toNat_natCast, ← hm1, hx]
          have em : (verC u)[m1]? = some (.int .i64 x) := (ver_cell u m1 (by omega)).trans (by rw [hx])
          have cm : wr.cell? ⟨gu, m1, none⟩ = some (.int .i64 x) := (HR.out.ver.cell m1).trans em
          have hxr := HR.out.small m1 (by omega)
          rw [← hx] at hxr
          by_cases h48 : c.toNat < 48
          · have HE : Hid (parseE s = .tuple #[verV zeroV, .int .i64 20]) := parseE_no (parse_ref_none (by
              rw [HR.out.read, HD.out]
              refine refR_other h45 h46 ?_
              cases e : digB c with
              | false => rfl
              | true => have := (digB_iff c).1 e; omega))
            have h48' : (c.toNat : Int) < 48 := by omega
            have HZe : Hid (Row wr w.heap.size zeroC 33) := PrR.zero HR.out
            have HBe : Hid (Below w.heap.size w wr) := PrR.bel HR.out
            clear h45 h46 e4 em hm1 hx hxm hwm hm14 cm hxr
            go_upto_if 54 with fail
            go_wp2_with (refine wpList_store_row rfl 33 _ _ rfl w.heap.size zeroC rfl rfl 33 zeroC HZe.out infoRs rfl zeroC_one ?_)
            exact bodyPost_ret (results_cell_row2 resultsRp _ _ w.heap.size 33 zeroC (0, 0) _ rfl (Row.setRow HZe.out) Tryd.underlying33 rfl infoRs) rfl ⟨by rw [HE.out]; rfl, bel_setRow HBe.out (Nat.le_refl _) _⟩
          · have h48' : ¬ (c.toNat : Int) < 48 := by omega
            by_cases h57 : 57 < c.toNat
            · have HE : Hid (parseE s = .tuple #[verV zeroV, .int .i64 20]) := parseE_no (parse_ref_none (by
                rw [HR.out.read, HD.out]
                refine refR_other h45 h46 ?_
                cases e : digB c with
                | false => rfl
                | true => have := (digB_iff c).1 e; omega))
              have h57' : (57 : Int) < (c.toNat : Int) := by omega
              have HZe : Hid (Row wr w.heap.size zeroC 33) := PrR.zero HR.out
              have HBe : Hid (Below w.heap.size w wr) := PrR.bel HR.out
              clear h45 h46 e4 em hm1 hx hxm hwm hm14 cm hxr
              go_upto_if 54 with fail
              go_wp2_with (refine wpList_store_row rfl 33 _ _ rfl w.heap.size zeroC rfl rfl 33 zeroC HZe.out infoRs rfl zeroC_one ?_)
              exact bodyPost_ret (results_cell_row2 resultsRp _ _ w.heap.size 33 zeroC (0, 0) _ rfl (Row.setRow HZe.out) Tryd.underlying33 rfl infoRs) rfl ⟨by rw [HE.out]; rfl, bel_setRow HBe.out (Nat.le_refl _) _⟩
            · have h57' : ¬ (57 : Int) < (c.toNat : Int) := by omega
              by_cases hbig : 999999999 < x
              · have HE : Hid (parseE s = .tuple #[verV zeroV, .int .i64 20]) := parseE_no (parse_ref_none (by
                  rw [HR.out.read, HD.out]
                  exact refR_big h45 h46 (by rw [hxm]; exact hbig)))
                clear h45 h46 e4 em hm1 hx hxm
                go_wp2_with (refine wpList_store_row rfl 33 _ _ rfl w.heap.size zeroC rfl rfl 33 zeroC (PrR.zero HR.out) infoRs rfl zeroC_one ?_)
                exact bodyPost_ret (results_cell_row2 resultsRp _ _ w.heap.size 33 zeroC (0, 0) _ rfl (Row.setRow (PrR.zero HR.out)) Tryd.underlying33 rfl infoRs) rfl ⟨by rw [HE.out]; rfl, bel_setRow (PrR.bel HR.out) (Nat.le_refl _) _⟩
              · have HN : Hid (PrR w (wr.drew.setCell ⟨gu, m1, none⟩ (.int .i64 (x * 10 + ((c.toNat - 48 : Nat) : Int)))) gu s (k + 1) (setN u m1 (x * 10 + ((c.toNat - 48 : Nat) : Int)))) := by
                  refine HR.out.drew.set (setN_row u m1 _ (by omega)) ?_ (by rw [setN_tag]; exact HR.out.tag) (by rw [setN_cnt]; exact HR.out.cnt) (fun j hj => ?_)
                  · rw [HD.out, refR_digit c _ u ((digB_iff c).2 ⟨by omega, by omega⟩) (by rw [hxm]; omega), hxm, hcc, Int.toNat_natCast, ← hm1]
                  · by_cases e : j = m1
                    · subst e
                      rw [nAt_set]
                      omega
                    · have h := HR.out.small j hj
                      rw [nAt_other u m1 j _ e hj (by omega)]
                      exact h
                have hw8 : IntKind.u8.wrap ((c.toNat : Int) - 48) = ((c.toNat - 48 : Nat) : Int) := by simp [IntKind.wrap, IntKind.bits, IntKind.signed]; omega
                have hwx : IntKind.i64.wrap (x * 10) = x * 10 := by rw [IntKind.wrap_i64]; omega
                have hwy : IntKind.i64.wrap (x * 10 + ((c.toNat - 48 : Nat) : Int)) = x * 10 + ((c.toNat - 48 : Nat) : Int) := by rw [IntKind.wrap_i64]; omega
                have hwz : IntKind.i64.wrap ((c.toNat - 48 : Nat) : Int) = ((c.toNat - 48 : Nat) : Int) := by rw [IntKind.wrap_i64]; omega
                have hS0 : Row wr.drew gu (verC u) 33 := HR.out.ver
                clear h45 h46 hm1 hx hxm hcc
                go_upto_region 13 with fail
                refine wp_region_perm [(false, 0), (false, 1), (false, 2), (false, 3), (false, 4), (false, 5), (false, 6), (false, 7), (false, 8), (false, 9), (false, 10), (false, 11), (false, 12), (false, 13), (false, 14), (false, 15), (true, 16), (false, 17), (true, 18)] (fun wx => Row wx gu (verC u) 33) (by kernel_rfl) (by kernel_rfl) hS0 ?_
                generalize wr.drew = wd at *
                refine p_value (some 56) (.pointer (some ⟨gu, 4, none⟩)) rfl rfl (by rfl) (fun wx hw => ?_) ?_
                · have q4 := (Row.cell hw 4).trans e4
                  have qm := (Row.cell hw m1).trans em
                  go_simp
                simp only [Act.put, List.setIfInBounds_toArray, List.set_cons_zero, List.set_cons_succ]
                refine p_value (some 57) (.int .i64 (cc : Int)) rfl rfl (by rfl) (fun wx hw => ?_) ?_
                · have q4 := (Row.cell hw 4).trans e4
                  have qm := (Row.cell hw m1).trans em
                  go_simp
                simp only [Act.put, List.setIfInBounds_toArray, List.set_cons_zero, List.set_cons_succ]
                refine p_value (some 58) (.int .i64 (m1 : Int)) rfl rfl (by rfl) (fun wx hw => ?_) ?_
                · have q4 := (Row.cell hw 4).trans e4
                  have qm := (Row.cell hw m1).trans em
                  go_simp
                simp only [Act.put, List.setIfInBounds_toArray, List.set_cons_zero, List.set_cons_succ]
                refine p_value (some 59) (.pointer (some ⟨gu, 4, none⟩)) rfl rfl (by rfl) (fun wx hw => ?_) ?_
                · have q4 := (Row.cell hw 4).trans e4
                  have qm := (Row.cell hw m1).trans em
                  go_simp
                simp only [Act.put, List.setIfInBounds_toArray, List.set_cons_zero, List.set_cons_succ]
                refine p_value (some 60) (.int .i64 (cc : Int)) rfl rfl (by rfl) (fun wx hw => ?_) ?_
                · have q4 := (Row.cell hw 4).trans e4
                  have qm := (Row.cell hw m1).trans em
                  go_simp
                simp only [Act.put, List.setIfInBounds_toArray, List.set_cons_zero, List.set_cons_succ]
                refine p_value (some 61) (.int .i64 (m1 : Int)) rfl rfl (by rfl) (fun wx hw => ?_) ?_
                · have q4 := (Row.cell hw 4).trans e4
                  have qm := (Row.cell hw m1).trans em
                  go_simp
                simp only [Act.put, List.setIfInBounds_toArray, List.set_cons_zero, List.set_cons_succ]
                refine p_value (some 62) (.pointer (some ⟨gu, 0, none⟩)) rfl rfl (by rfl) (fun wx hw => ?_) ?_
                · have q4 := (Row.cell hw 4).trans e4
                  have qm := (Row.cell hw m1).trans em
                  go_simp
                simp only [Act.put, List.setIfInBounds_toArray, List.set_cons_zero, List.set_cons_succ]
                refine p_value (some 63) (.pointer (some ⟨gu, m1, none⟩)) rfl rfl (by rfl) (fun wx hw => ?_) ?_
                · have q4 := (Row.cell hw 4).trans e4
                  have qm := (Row.cell hw m1).trans em
                  go_simp
                simp only [Act.put, List.setIfInBounds_toArray, List.set_cons_zero, List.set_cons_succ]
                refine p_value (some 64) (.int .i64 x) rfl rfl (by rfl) (fun wx hw => ?_) ?_
                · have q4 := (Row.cell hw 4).trans e4
                  have qm := (Row.cell hw m1).trans em
                  go_simp
                simp only [Act.put, List.setIfInBounds_toArray, List.set_cons_zero, List.set_cons_succ]
                refine p_value (some 65) (.int .i64 (x * 10)) rfl rfl (by rfl) (fun wx hw => ?_) ?_
                · have q4 := (Row.cell hw 4).trans e4
                  have qm := (Row.cell hw m1).trans em
                  go_simp
                simp only [Act.put, List.setIfInBounds_toArray, List.set_cons_zero, List.set_cons_succ]
                refine p_value (some 66) (.string s) rfl rfl (by rfl) (fun wx hw => ?_) ?_
                · have q4 := (Row.cell hw 4).trans e4
                  have qm := (Row.cell hw m1).trans em
                  go_simp
                simp only [Act.put, List.setIfInBounds_toArray, List.set_cons_zero, List.set_cons_succ]
                refine p_value (some 67) (.int .i64 (k : Int)) rfl rfl (by rfl) (fun wx hw => ?_) ?_
                · have q4 := (Row.cell hw 4).trans e4
                  have qm := (Row.cell hw m1).trans em
                  go_simp
                simp only [Act.put, List.setIfInBounds_toArray, List.set_cons_zero, List.set_cons_succ]
                refine p_value (some 68) (.int .u8 (c.toNat : Int)) rfl rfl (by rfl) (fun wx hw => ?_) ?_
                · have q4 := (Row.cell hw 4).trans e4
                  have qm := (Row.cell hw m1).trans em
                  go_simp
                simp only [Act.put, List.setIfInBounds_toArray, List.set_cons_zero, List.set_cons_succ]
                refine p_value (some 69) (.int .u8 ((c.toNat - 48 : Nat) : Int)) rfl rfl (by rfl) (fun wx hw => ?_) ?_
                · have q4 := (Row.cell hw 4).trans e4
                  have qm := (Row.cell hw m1).trans em
                  go_simp
                simp only [Act.put, List.setIfInBounds_toArray, List.set_cons_zero, List.set_cons_succ]
                refine p_value (some 70) (.int .i64 ((c.toNat - 48 : Nat) : Int)) rfl rfl (by rfl) (fun wx hw => ?_) ?_
                · have q4 := (Row.cell hw 4).trans e4
                  have qm := (Row.cell hw m1).trans em
                  go_simp
                simp only [Act.put, List.setIfInBounds_toArray, List.set_cons_zero, List.set_cons_succ]
                refine p_value (some 71) (.int .i64 (x * 10 + ((c.toNat - 48 : Nat) : Int))) rfl rfl (by rfl) (fun wx hw => ?_) ?_
                · have q4 := (Row.cell hw 4).trans e4
                  have qm := (Row.cell hw m1).trans em
                  go_simp
                simp only [Act.put, List.setIfInBounds_toArray, List.set_cons_zero, List.set_cons_succ]
                refine p_alone (some 72) (.pointer (some ⟨gu, 0, none⟩)) _ rfl rfl (by rfl) (by go_simp) (fun _ => hS0) ?_
                simp only [Act.put, List.setIfInBounds_toArray, List.set_cons_zero, List.set_cons_succ]
                refine p_value (some 73) (.pointer (some ⟨gu, m1, none⟩)) rfl rfl (by rfl) (fun wx hw => ?_) ?_
                · have q4 := (Row.cell hw 4).trans e4
                  have qm := (Row.cell hw m1).trans em
                  go_simp
                simp only [Act.put, List.setIfInBounds_toArray, List.set_cons_zero, List.set_cons_succ]
                have q5 : wd.cell? ⟨gu, m1, none⟩ = some (.int .i64 x) := (Row.cell hS0 m1).trans em
                have q6 : wd.frozen? ⟨gu, m1, none⟩ = false := Row.frozen hS0 m1
                refine p_store (wd.setCell ⟨gu, m1, none⟩ (.int .i64 (x * 10 + ((c.toNat - 48 : Nat) : Int)))) rfl rfl (by rfl) (by go_simp) (fun h => absurd rfl h) ?_
                refine p_done ?_
                try simp only [Exit.then]
                clear hS0 q5 q6 e4 em
                go_wp2
                go_roundw
                case rel => exact ⟨k + 1, _, by omega, by go_num, HN.out⟩
                case measure => simp [intOf]; omega
    · have hlt' : ¬ (k : Int) < (s.size : Int) := by omega
      obtain ⟨ut, hut⟩ : ∃ ut, ut = u := ⟨_, rfl⟩
      obtain ⟨wt, hwt⟩ : ∃ x, x = wr := ⟨_, rfl⟩
      have HFt : Hid (refR (vb s) startV = some ut) := by
        show _ = _
        rw [HR.out.read, List.drop_of_length_le (by rw [HL.out]; omega), hut]
        rfl
      have hts : ut.tag.size ≤ 140737488355328 := by rw [hut, HR.out.tag]; decide
      have HRt : Hid (Row wt gu (verC ut) 33) := by rw [hut, hwt]; exact HR.out.ver
      have HZt : Hid (Row wt w.heap.size zeroC 33) := by rw [hwt]; exact HR.out.zero
      have HBt : Hid (Below w.heap.size w wt) := by rw [hwt]; exact HR.out.bel
      rw [← hwt]
      clear hut hwt
      have HPV : Hid (parseV (vb s) = if mayV ut = true ∧ textV ut = vb s then some ut else none) := parse_ref_some HFt.out
      have htx := refText_ok ut wt hts
      cases hmu : mayV ut with
      | false =>
        rw [textE_no hmu] at htx
        have HE : Hid (parseE s = .tuple #[verV zeroV, .int .i64 20]) := parseE_no (by rw [HPV.out, if_neg (fun h => by rw [hmu] at h; cases h.1)])
        clear hmu
        go_wp2_with (refine wpList_load_row rfl 33 _ rfl gu rfl 33 (verC ut) (0, 0) _ HRt.out Tryd.underlying33 rfl infoRs ?_)
        refine htx.mono ?_
        rintro e wy ⟨rfl, hby⟩
        have HZy : Hid (Row wy w.heap.size zeroC 33) := Row.below HZt.out hby (Row.lt HZt.out)
        have HBy : Hid (Below w.heap.size w wy) := HBt.out.trans (hby.mono HBt.out.size)
        clear htx hby
        go_wp2_with (refine wpList_store_row rfl 33 _ _ rfl w.heap.size zeroC rfl rfl 33 zeroC HZy.out infoRs rfl zeroC_one ?_)
        exact bodyPost_ret (results_cell_row2 resultsRp _ _ w.heap.size 33 zeroC (0, 0) _ rfl (Row.setRow HZy.out) Tryd.underlying33 rfl infoRs) rfl ⟨by rw [HE.out]; rfl, bel_setRow HBy.out (Nat.le_refl _) _⟩
      | true =>
        rw [textE_yes hmu] at htx
        obtain ⟨T, hT⟩ : ∃ T, T = tx (textV ut) := ⟨_, rfl⟩
        rw [← hT] at htx
        by_cases hts2 : textV ut = vb s
        · have hTs : T = s := by rw [hT, hts2, tx_vb]
          have HE : Hid (parseE s = .tuple #[verV ut, .int .i64 0]) := parseE_yes (by rw [HPV.out, if_pos ⟨hmu, hts2⟩])
          subst hTs
          clear hmu hts2 hT
          go_wp2_with (refine wpList_load_row rfl 33 _ rfl gu rfl 33 (verC ut) (0, 0) _ HRt.out Tryd.underlying33 rfl infoRs ?_)
          refine htx.mono ?_
          rintro e wy ⟨rfl, hby⟩
          have HZy : Hid (Row wy w.heap.size zeroC 33) := Row.below HZt.out hby (Row.lt HZt.out)
          have HBy : Hid (Below w.heap.size w wy) := HBt.out.trans (hby.mono HBt.out.size)
          have HRy : Hid (Row wy gu (verC ut) 33) := Row.below HRt.out hby (Row.lt HRt.out)
          clear htx hby
          go_wp2_with (first | refine wpList_load_row rfl 33 _ rfl gu rfl 33 (verC ut) (0, 0) _ HRy.out Tryd.underlying33 rfl infoRs ?_ | refine wpList_store_row rfl 33 _ _ rfl w.heap.size (verC ut) rfl rfl 33 zeroC HZy.out infoRs rfl (verC_one ut) ?_)
          exact bodyPost_ret (results_cell_row2 resultsRp _ _ w.heap.size 33 (verC ut) (0, 0) _ rfl (Row.setRow HZy.out) Tryd.underlying33 rfl infoRs) rfl ⟨by rw [HE.out]; rfl, bel_setRow HBy.out (Nat.le_refl _) _⟩
        · have hne : ¬ T.toList = s.toList := fun e => hts2 (by
            rw [ByteArray.toList_eq, ByteArray.toList_eq] at e
            rw [← vb_tx (textV ut), ← hT]
            exact e)
          have hne2 : (T.toList == s.toList) = false := by simpa using hne
          have HE : Hid (parseE s = .tuple #[verV zeroV, .int .i64 20]) := parseE_no (by rw [HPV.out, if_neg (fun h => hts2 h.2)])
          clear hmu hts2 hT
          go_wp2_with (refine wpList_load_row rfl 33 _ rfl gu rfl 33 (verC ut) (0, 0) _ HRt.out Tryd.underlying33 rfl infoRs ?_)
          refine htx.mono ?_
          rintro e wy ⟨rfl, hby⟩
          have HZy : Hid (Row wy w.heap.size zeroC 33) := Row.below HZt.out hby (Row.lt HZt.out)
          have HBy : Hid (Below w.heap.size w wy) := HBt.out.trans (hby.mono HBt.out.size)
          clear htx hby
          go_wp2_with (refine wpList_store_row rfl 33 _ _ rfl w.heap.size zeroC rfl rfl 33 zeroC HZy.out infoRs rfl zeroC_one ?_)
          exact bodyPost_ret (results_cell_row2 resultsRp _ _ w.heap.size 33 zeroC (0, 0) _ rfl (Row.setRow HZy.out) Tryd.underlying33 rfl infoRs) rfl ⟨by rw [HE.out]; rfl, bel_setRow HBy.out (Nat.le_refl _) _⟩
end Go.Proofs.YtdhmlcelofnkgaaDoor
