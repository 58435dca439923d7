/- My own work: the law VersionTells. -/
import Derived.Test.YthhcpnlpkomoiaaDoorR4
namespace Go.Proofs.YthhcpnlpkomoiaaDoor
open Go.RowKit

theorem parseE_form (s : ByteArray) : ∃ (v : Ver) (e : Int), parseE s = .tuple #[verV v, .int .i64 e] := by
  cases h : parseV (vb s) with
  | none => exact ⟨_, _, parseE_no h⟩
  | some v => exact ⟨_, _, parseE_yes h⟩
theorem textE_form (v : Ver) : ∃ (t : ByteArray) (e : Int), textE v = .tuple #[.string t, .int .i64 e] := by
  cases h : mayV v with
  | false => exact ⟨_, _, textE_no h⟩
  | true => exact ⟨_, _, textE_yes h⟩
theorem bumpE_form (v : Ver) (n : Int) : ∃ (b : Ver) (e : Int), bumpE v n = .tuple #[verV b, .int .i64 e] := ⟨_, _, rfl⟩
theorem names_ok (w : World) : Calls Tryd.prog 14 #[] w fun e w' => e = .returned (.bool true) ∧ w' = w := by
  go_enter Tryd.func14, Tryd.ntmps14
  go_wp2
  go_ret
  exact ⟨rfl, rfl⟩
set_option maxRecDepth 20000 in
set_option maxHeartbeats 16000000 in
theorem law_tells (s : ByteArray) (v : Ver) (n : Int) (w : World) (hT : Pw w) (hs : s.size ≤ 140737488355328) (hv : v.tag.size ≤ 140737488355328) : Calls Tryd.prog 3 #[.string s, verV v, .int .i64 n] w fun e w' => e = .returned (.bool true) ∧ Below w.heap.size w w' := by
  have hA : Row (boxW w v) w.heap.size (verC v) 24 := Row.new w (verC v) 24
  have hb1 : Below w.heap.size w (boxW w v) := (Below.refl _ _).alloc (Nat.le_refl _) _
  obtain ⟨w1, hw1⟩ : ∃ x, x = boxW w v := ⟨_, rfl⟩
  have hw1' := hw1.symm
  rw [← hw1] at hA hb1
  have HA1 : Hid (Row w1 w.heap.size (verC v) 24) := hA
  have HB1 : Hid (Below w.heap.size w w1) := hb1
  have HT : Hid (Pw w) := hT
  clear hw1 hA hb1 hT
  obtain ⟨pv, pe, hpE⟩ := parseE_form s
  obtain ⟨tt, te, htE⟩ := textE_form v
  obtain ⟨bv, be, hbE⟩ := bumpE_form v n
  have HP1 : Hid (∀ wx, Calls Tryd.prog 8 #[.string s] wx fun e w' => e = .returned (.tuple #[verV pv, .int .i64 pe]) ∧ Below wx.heap.size wx w') := fun wx => by rw [← hpE]; exact parse_ok s wx hs
  have HP2 : Hid (∀ wx, Calls Tryd.prog 9 #[.string s] wx fun e w' => e = .returned (.tuple #[verV pv, .int .i64 pe]) ∧ Below wx.heap.size wx w') := fun wx => by rw [← hpE]; exact refParse_ok s wx hs
  have HT1 : Hid (∀ wx, Pw wx → Calls Tryd.prog 10 #[verV v] wx fun e w' => e = .returned (.tuple #[.string tt, .int .i64 te]) ∧ Below wx.heap.size wx w') := fun wx hx => by rw [← htE]; exact text_ok v wx hx
  have HT2 : Hid (∀ wx, Calls Tryd.prog 11 #[verV v] wx fun e w' => e = .returned (.tuple #[.string tt, .int .i64 te]) ∧ Below wx.heap.size wx w') := fun wx => by rw [← htE]; exact refText_ok v wx hv
  have HU1 : Hid (∀ wx, Calls Tryd.prog 12 #[verV v, .int .i64 n] wx fun e w' => e = .returned (.tuple #[verV bv, .int .i64 be]) ∧ Below wx.heap.size wx w') := fun wx => by rw [← hbE]; exact bump_ok v n wx
  have HU2 : Hid (∀ wx, Calls Tryd.prog 13 #[verV v, .int .i64 n] wx fun e w' => e = .returned (.tuple #[verV bv, .int .i64 be]) ∧ Below wx.heap.size wx w') := fun wx => by rw [← hbE]; exact refBump_ok v n wx hv
  clear hpE htE hbE hs hv
  go_enter Tryd.func3, Tryd.ntmps3
  go_wp2_with fail
  refine (HP1.out w1).mono ?_
  rintro e w2 ⟨rfl, hb2⟩
  have hq3 : Below w1.heap.size w1 (w2.alloc (.cells (verC pv) 24)) := hb2.alloc hb2.size _
  have HX3 : Hid (Row (w2.alloc (.cells (verC pv) 24)) w2.heap.size (verC pv) 24) := Row.new _ _ _
  have HA3 : Hid (Row (w2.alloc (.cells (verC pv) 24)) w.heap.size (verC v) 24) := Row.below HA1.out hq3 (Row.lt HA1.out)
  have HB3 : Hid (Below w.heap.size w (w2.alloc (.cells (verC pv) 24))) := HB1.out.trans (hq3.mono HB1.out.size)
  clear hb2 hq3 hw1'
  go_wp2_with (refine wpList_store_new rfl 24 _ _ rfl w2 zeroC (verC pv) 24 rfl w2.heap.size rfl rfl rfl infoVs rfl (verC_one _) ?_)
  obtain ⟨w3, hw3⟩ : ∃ x, x = w2.alloc (.cells (verC pv) 24) := ⟨_, rfl⟩
  rw [← hw3] at HX3 HA3 HB3
  rw [← hw3]
  clear hw3
  refine (HP2.out w3).mono ?_
  rintro e w4 ⟨rfl, hb4⟩
  have hq5 : Below w3.heap.size w3 (w4.alloc (.cells (verC pv) 28)) := hb4.alloc hb4.size _
  have HY5 : Hid (Row (w4.alloc (.cells (verC pv) 28)) w4.heap.size (verC pv) 28) := Row.new _ _ _
  have HX5 : Hid (Row (w4.alloc (.cells (verC pv) 28)) w2.heap.size (verC pv) 24) := Row.below HX3.out hq5 (Row.lt HX3.out)
  have HA5 : Hid (Row (w4.alloc (.cells (verC pv) 28)) w.heap.size (verC v) 24) := Row.below HA3.out hq5 (Row.lt HA3.out)
  have HB5 : Hid (Below w.heap.size w (w4.alloc (.cells (verC pv) 28))) := HB3.out.trans (hq5.mono HB3.out.size)
  clear hb4 hq5
  go_wp2_with (first | refine wpList_store_new rfl 28 _ _ rfl w4 zeroC (verC pv) 28 rfl w4.heap.size rfl rfl rfl infoRs rfl (verC_one _) ?_ | refine wpList_load_row rfl 24 _ rfl w.heap.size rfl 24 (verC v) (0, 0) _ HA5.out Tryd.underlying24 rfl infoVs ?_)
  obtain ⟨w5, hw5⟩ : ∃ x, x = w4.alloc (.cells (verC pv) 28) := ⟨_, rfl⟩
  rw [← hw5] at HY5 HX5 HA5 HB5
  rw [← hw5]
  clear hw5
  refine (HT1.out w5 (HT.out.keep HB5.out HT.out.lt)).mono ?_
  rintro e w6 ⟨rfl, hb6⟩
  have HY6 : Hid (Row w6 w4.heap.size (verC pv) 28) := Row.below HY5.out hb6 (Row.lt HY5.out)
  have HX6 : Hid (Row w6 w2.heap.size (verC pv) 24) := Row.below HX5.out hb6 (Row.lt HX5.out)
  have HA6 : Hid (Row w6 w.heap.size (verC v) 24) := Row.below HA5.out hb6 (Row.lt HA5.out)
  have HB6 : Hid (Below w.heap.size w w6) := HB5.out.trans (hb6.mono HB5.out.size)
  clear hb6
  go_wp2_with (refine wpList_load_row rfl 24 _ rfl w.heap.size rfl 24 (verC v) (0, 0) _ HA6.out Tryd.underlying24 rfl infoVs ?_)
  refine (HT2.out w6).mono ?_
  rintro e w7 ⟨rfl, hb7⟩
  have HY7 : Hid (Row w7 w4.heap.size (verC pv) 28) := Row.below HY6.out hb7 (Row.lt HY6.out)
  have HX7 : Hid (Row w7 w2.heap.size (verC pv) 24) := Row.below HX6.out hb7 (Row.lt HX6.out)
  have HA7 : Hid (Row w7 w.heap.size (verC v) 24) := Row.below HA6.out hb7 (Row.lt HA6.out)
  have HB7 : Hid (Below w.heap.size w w7) := HB6.out.trans (hb7.mono HB6.out.size)
  clear hb7
  go_wp2_with (refine wpList_load_row rfl 24 _ rfl w.heap.size rfl 24 (verC v) (0, 0) _ HA7.out Tryd.underlying24 rfl infoVs ?_)
  refine (HU1.out w7).mono ?_
  rintro e w8 ⟨rfl, hb8⟩
  have hq9 : Below w7.heap.size w7 (w8.alloc (.cells (verC bv) 24)) := hb8.alloc hb8.size _
  have HU9 : Hid (Row (w8.alloc (.cells (verC bv) 24)) w8.heap.size (verC bv) 24) := Row.new _ _ _
  have HY9 : Hid (Row (w8.alloc (.cells (verC bv) 24)) w4.heap.size (verC pv) 28) := Row.below HY7.out hq9 (Row.lt HY7.out)
  have HX9 : Hid (Row (w8.alloc (.cells (verC bv) 24)) w2.heap.size (verC pv) 24) := Row.below HX7.out hq9 (Row.lt HX7.out)
  have HA9 : Hid (Row (w8.alloc (.cells (verC bv) 24)) w.heap.size (verC v) 24) := Row.below HA7.out hq9 (Row.lt HA7.out)
  have HB9 : Hid (Below w.heap.size w (w8.alloc (.cells (verC bv) 24))) := HB7.out.trans (hq9.mono HB7.out.size)
  clear hb8 hq9
  go_wp2_with (first | refine wpList_store_new rfl 24 _ _ rfl w8 zeroC (verC bv) 24 rfl w8.heap.size rfl rfl rfl infoVs rfl (verC_one _) ?_ | refine wpList_load_row rfl 24 _ rfl w.heap.size rfl 24 (verC v) (0, 0) _ HA9.out Tryd.underlying24 rfl infoVs ?_)
  obtain ⟨w9, hw9⟩ : ∃ x, x = w8.alloc (.cells (verC bv) 24) := ⟨_, rfl⟩
  rw [← hw9] at HU9 HY9 HX9 HA9 HB9
  rw [← hw9]
  clear hw9
  refine (HU2.out w9).mono ?_
  rintro e wa ⟨rfl, hba⟩
  have hqb : Below w9.heap.size w9 (wa.alloc (.cells (verC bv) 28)) := hba.alloc hba.size _
  have HW : Hid (Row (wa.alloc (.cells (verC bv) 28)) wa.heap.size (verC bv) 28) := Row.new _ _ _
  have HU : Hid (Row (wa.alloc (.cells (verC bv) 28)) w8.heap.size (verC bv) 24) := Row.below HU9.out hqb (Row.lt HU9.out)
  have HY : Hid (Row (wa.alloc (.cells (verC bv) 28)) w4.heap.size (verC pv) 28) := Row.below HY9.out hqb (Row.lt HY9.out)
  have HX : Hid (Row (wa.alloc (.cells (verC bv) 28)) w2.heap.size (verC pv) 24) := Row.below HX9.out hqb (Row.lt HX9.out)
  have HB : Hid (Below w.heap.size w (wa.alloc (.cells (verC bv) 28))) := HB9.out.trans (hqb.mono HB9.out.size)
  have hnm := names_ok (wa.alloc (.cells (verC bv) 28))
  clear hba hqb
  go_wp2_with (first | refine wpList_store_new rfl 28 _ _ rfl wa zeroC (verC bv) 28 rfl wa.heap.size rfl rfl rfl infoRs rfl (verC_one _) ?_ | refine wpList_load_wanted (by rfl) 24 _ rfl w2.heap.size rfl 24 (verC pv) _ HX.out Tryd.underlying24 rfl infoVs ?_ | refine wpList_load_wanted (by rfl) 28 _ rfl w4.heap.size rfl 28 (verC pv) _ HY.out Tryd.underlying28 rfl infoRs ?_ | refine wpList_load_wanted (by rfl) 24 _ rfl w8.heap.size rfl 24 (verC bv) _ HU.out Tryd.underlying24 rfl infoVs ?_ | refine wpList_load_wanted (by rfl) 28 _ rfl wa.heap.size rfl 28 (verC bv) _ HW.out Tryd.underlying28 rfl infoRs ?_ | (refine wp_eqv_wanted (by rfl) 28 guardR pv pv (fun w => eq_verR pv pv w) _ _ rfl rfl rfl ?_; rw [decide_eq_true (rfl : pv = pv)]) | (refine wp_eqv_wanted (by rfl) 28 guardR bv bv (fun w => eq_verR bv bv w) _ _ rfl rfl rfl ?_; rw [decide_eq_true (rfl : bv = bv)]) | (go_at_call 14; refine hnm.mono ?_; rintro e wz ⟨rfl, hwz⟩; rw [hwz]; clear hwz))
  go_ret
  exact ⟨rfl, HB.out⟩
end Go.Proofs.YthhcpnlpkomoiaaDoor
