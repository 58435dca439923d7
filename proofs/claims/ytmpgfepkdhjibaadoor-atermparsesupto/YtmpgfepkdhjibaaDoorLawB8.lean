/- My own work: the walk of AtermBack's law. -/
import Derived.Test.YtmpgfepkdhjibaaDoorRd8l
import Derived.Test.YtmpgfepkdhjibaaDoorSame8
namespace Go.Proofs.YtmpgfepkdhjibaaDoor
open Go.RowKit

/-- The document's example. -/
def dvF : Dv := ⟨[(⟨#[111, 117, 116]⟩, ⟨#[47, 115, 116, 111, 114, 101, 47, 120]⟩, ⟨#[]⟩)], [], [], ⟨#[115]⟩, ⟨#[98]⟩, [], []⟩
theorem drvE_dvF : drvE dvF = [68, 101, 114, 105, 118, 101, 40, 91, 40, 34, 111, 117, 116, 34, 44, 34, 47, 115, 116, 111, 114, 101, 47, 120, 34, 44, 34, 34, 41, 93, 44, 91, 93, 44, 91, 93, 44, 34, 115, 34, 44, 34, 98, 34, 44, 91, 93, 44, 91, 93, 41] := by decide +kernel
theorem right_dvF : rightE dvF = 0 := by decide +kernel
theorem putE_dvF : putE dvF = 0 := by
  unfold putE
  rw [right_dvF, drvE_dvF]
  rfl
theorem putS_dvF : putS dvF = ⟨#[68, 101, 114, 105, 118, 101, 40, 91, 40, 34, 111, 117, 116, 34, 44, 34, 47, 115, 116, 111, 114, 101, 47, 120, 34, 44, 34, 34, 41, 93, 44, 91, 93, 44, 91, 93, 44, 34, 115, 34, 44, 34, 98, 34, 44, 91, 93, 44, 91, 93, 41]⟩ := by
  unfold putS
  rw [right_dvF, drvE_dvF]
  rfl
theorem drvAt_zero (w : World) : DrvAt w dv0 zDrv := by
  obtain ⟨cs, e1, h, _⟩ := (drvO_zero 0 w).at
  obtain rfl : zDrv = cs := Value.agg.inj e1
  exact h
theorem drvAt_row {w : World} {d : Dv} {cs : Array Value} (h : DrvAt w d cs) : cs.size = 7 ∧ cs.all (·.oneCell') = true := by
  obtain ⟨vo, vi, vs, va, ve, rfl, ho, hi, hs, ha, he⟩ := h.ex
  obtain ⟨oa, oc, rfl, _⟩ := ho.shape
  obtain ⟨ns, hns, hsl, _⟩ := hi
  obtain ⟨ia, ic, rfl, _⟩ := hsl.shape
  obtain ⟨ga, gc, rfl, _⟩ := hs.shape
  obtain ⟨aa, ac, rfl, _⟩ := ha.shape
  obtain ⟨ea, ec, rfl, _⟩ := he.shape
  exact ⟨rfl, drv_one _ _ _ _ _ _ _ _ _ _ _ _ _ _ _ _ _⟩
theorem put_of {s : ByteArray} {d : Dv} (h1 : s.size ≤ 1048576) (h2 : bl s = drvE d) (h3 : rightE d = 0) : putS d = s ∧ putE d = 0 := by
  have hl : (drvE d).length ≤ 1048576 := by rw [← h2, bl_len]; exact h1
  constructor
  · unfold putS
    rw [if_pos ⟨h3, hl⟩]
    apply bl_inj
    rw [h2]
  · unfold putE
    rw [if_pos h3, if_neg (by omega)]
/-- What is put is read again. -/
theorem of_put {d : Dv} (h : putE d = 0) : rightE d = 0 ∧ (drvE d).length ≤ 1048576 ∧ bl (putS d) = drvE d := by
  unfold putE at h
  by_cases hr : rightE d = 0
  · rw [if_pos hr] at h
    by_cases hl : 1048576 < (drvE d).length
    · rw [if_pos hl] at h
      cases h
    · refine ⟨hr, by omega, ?_⟩
      unfold putS
      rw [if_pos ⟨hr, by omega⟩]
  · rw [if_neg hr] at h
    exact absurd h hr
theorem back_of {d : Dv} (h : putE d = 0) {w w' : World} {r : Ending} (hp : ParsePost (putS d) w r w') : Below w.heap.size w w' ∧ ∃ cs, r = .returned (.tuple #[.agg cs, .int .i64 0]) ∧ DrvAt w' d cs := by
  obtain ⟨h1, h2, h3⟩ := of_put h
  have hsz : (putS d).size ≤ 1048576 := by rw [← bl_len, h3]; exact h2
  refine ⟨hp.1, ?_⟩
  rcases hp.2 with ⟨cs, d', e1, e2, _, e4, _⟩ | ⟨e, _, hf, _⟩
  · have e5 : d = d' := (drvE_pf d d' [] [] (by rw [← h3, e4])).1
    subst e5
    exact ⟨cs, e1, e2⟩
  · exfalso
    rcases hf with ⟨hb, _⟩ | ⟨_, ⟨hn, _⟩ | ⟨y, e4, e5, _⟩⟩
    · omega
    · exact hn d h3
    · have e6 : d = y := (drvE_pf d y [] [] (by rw [← h3, e4])).1
      subst e6
      exact e5 h1
set_option maxRecDepth 20000 in
set_option maxHeartbeats 8000000 in
theorem law_back (d : Dv) (cs : Array Value) (s : ByteArray) (w : World) (h : DrvAt w d cs) (hT : ETab w) (hG : GH w) : Calls Tryd.prog 5 #[.agg cs, .string s] w fun e w' => e = .returned (.bool true) ∧ Below w.heap.size w w' := by
  have HTB : Hid (∀ wx, Below w.heap.size w wx → ETab wx) := fun wx hb => hT.keep hb
  have HGB : Hid (∀ wx, Below w.heap.size w wx → GH wx) := fun wx hb => hG.below hb
  have HDB : Hid (∀ wx, Below w.heap.size w wx → DrvAt wx d cs) := fun wx hb => h.keep hb
  obtain ⟨h7, hone⟩ := drvAt_row h
  obtain ⟨vo, vi, vs, va, ve, rfl, ho, hi, hs, ha, he⟩ := h.ex
  clear h hT hG ho hi hs ha he
  have hrun := run_one_out (w.alloc (.cells #[vo, vi, vs, .string d.sys, .string d.bld, va, ve] 27)) (⟨#[111, 117, 116]⟩, ⟨#[47, 115, 116, 111, 114, 101, 47, 120]⟩, ⟨#[]⟩)
  obtain ⟨w1, hw1⟩ : ∃ w1, w1 = (w.alloc (.cells #[vo, vi, vs, .string d.sys, .string d.bld, va, ve] 27)).alloc (.cells #[.string ⟨#[111, 117, 116]⟩, .string ⟨#[47, 115, 116, 111, 114, 101, 47, 120]⟩, .string ⟨#[]⟩] 46) := ⟨_, rfl⟩
  have HW1 : Hid (w1 = (w.alloc (.cells #[vo, vi, vs, .string d.sys, .string d.bld, va, ve] 27)).alloc (.cells #[.string ⟨#[111, 117, 116]⟩, .string ⟨#[47, 115, 116, 111, 114, 101, 47, 120]⟩, .string ⟨#[]⟩] 46)) := hw1
  have hb1 : Below w.heap.size w w1 := by rw [hw1]; exact below_new (below_new (Below.refl _ _) _) _
  have HR1 : Hid (Row w1 w.heap.size #[vo, vi, vs, .string d.sys, .string d.bld, va, ve] 27) := by show Row _ _ _ _; rw [hw1]; exact (Row.new w _ _).alloc _
  have hsl : SlAt w1 (.slice (some ⟨w.heap.size + 1, 0, none⟩) 1 1) 1 [.string ⟨#[111, 117, 116]⟩, .string ⟨#[47, 115, 116, 111, 114, 101, 47, 120]⟩, .string ⟨#[]⟩] := by
    have := slat_new (w.alloc (.cells #[vo, vi, vs, .string d.sys, .string d.bld, va, ve] 27)) [.string ⟨#[111, 117, 116]⟩, .string ⟨#[47, 115, 116, 111, 114, 101, 47, 120]⟩, .string ⟨#[]⟩] 46 1 (by decide)
    rw [alloc_size, ← hw1] at this
    exact this
  have hdF : DrvAt w1 dvF #[.slice (some ⟨w.heap.size + 1, 0, none⟩) 1 1, .slice none 0 0, .slice none 0 0, .string ⟨#[115]⟩, .string ⟨#[98]⟩, .slice none 0 0, .slice none 0 0] :=
    ⟨_, _, _, _, _, rfl, hsl, (InL.nil 0 0 w1).sl, (StrL.nil 0 0 w1).sl, (StrL.nil 0 0 w1).sl, (PairL.nil 0 0 w1).sl⟩
  have HP0 := putD_ok dvF _ w1 hdF (HTB.out _ hb1)
  rw [putS_dvF, putE_dvF] at HP0
  have HB1 : Hid _ := hb1
  have hrun2 := hrun
  rw [alloc_size, ← hw1] at hrun2
  clear hrun hw1 hsl hdF hb1
  go_enter Tryd.func5, Tryd.ntmps5
  go_wp2_with fail
  try rw [← HW1.out]
  refine Calls.mono HP0 ?_
  rintro e w2 ⟨rfl, hb2⟩
  have HB2 : Hid (Below w.heap.size w w2) := below_next HB1.out hb2
  have hR2 : Row w2 w.heap.size #[vo, vi, vs, .string d.sys, .string d.bld, va, ve] 27 := HR1.out.below hb2 HR1.out.lt
  have HR2 : Hid (Row w2 w.heap.size #[vo, vi, vs, .string d.sys, .string d.bld, va, ve] 27) := hR2
  have HP := putD_ok d #[vo, vi, vs, .string d.sys, .string d.bld, va, ve] w2 (HDB.out _ HB2.out) (HTB.out _ HB2.out)
  clear hb2 HP0 HR1 HB1 HW1 hrun2
  go_wp2_with (refine wpList_load_row rfl 27 _ rfl w.heap.size rfl 27 #[vo, vi, vs, .string d.sys, .string d.bld, va, ve] (0, 0) _ hR2 Tryd.underlying27 rfl info_drv ?_)
  refine Calls.mono HP ?_
  rintro e w3 ⟨rfl, hb3⟩
  have HB3 : Hid (Below w.heap.size w w3) := below_next HB2.out hb3
  have HR3 : Hid (Row w3 w.heap.size #[vo, vi, vs, .string d.sys, .string d.bld, va, ve] 27) := HR2.out.below hb3 HR2.out.lt
  clear hb3 HP hR2 HR2 HB2
  by_cases hpe : putE d = 0
  · have HPE : Hid (putE d = 0) := hpe
    have HC := parse_ok (putS d) w3 (HTB.out _ HB3.out) (HGB.out _ HB3.out)
    generalize hps : putS d = ps at *
    have HPS : Hid (putS d = ps) := hps
    rw [hpe]
    clear hps hpe
    go_wp2_with fail
    refine Calls.mono HC ?_
    rintro e w4 hp4
    rw [← HPS.out] at hp4
    obtain ⟨hb4, cs4, rfl, hd4⟩ := back_of HPE.out hp4
    obtain ⟨h47, hone4⟩ := drvAt_row hd4
    have hci4 : (Tryd.prog.info? 27).map (·.size) = some cs4.size := by rw [h47]; exact info_drv
    have hbn : Below w4.heap.size w4 (w4.alloc (.cells cs4 27)) := below_new (Below.refl _ _) _
    have HB5 : Hid (Below w.heap.size w (w4.alloc (.cells cs4 27))) := below_next (below_next HB3.out hb4) hbn
    have hR5 : Row (w4.alloc (.cells cs4 27)) w4.heap.size cs4 27 := Row.new w4 _ _
    have hA5 : Row (w4.alloc (.cells cs4 27)) w.heap.size #[vo, vi, vs, .string d.sys, .string d.bld, va, ve] 27 := (HR3.out.below hb4 HR3.out.lt).alloc _
    have HS := same_ok d cs4 #[vo, vi, vs, .string d.sys, .string d.bld, va, ve] _ (hd4.keep hbn) (HDB.out _ HB5.out)
    obtain ⟨xo, xi, xs, xa, xe, rfl, _⟩ := hd4.ex
    clear hb4 hp4 hd4 hbn HC HPS HPE HR3 HB3
    have m0 := (hR5.cell 0).trans (rfl : _ = some (xo))
    have m1 := (hR5.cell 1).trans (rfl : _ = some (xi))
    have m2 := (hR5.cell 2).trans (rfl : _ = some (xs))
    have m3 := (hR5.cell 3).trans (rfl : _ = some (Value.string d.sys))
    have m4 := (hR5.cell 4).trans (rfl : _ = some (Value.string d.bld))
    have m5 := (hR5.cell 5).trans (rfl : _ = some (xa))
    have m6 := (hR5.cell 6).trans (rfl : _ = some (xe))
    have q0 := (hA5.cell 0).trans (rfl : _ = some (vo))
    have q1 := (hA5.cell 1).trans (rfl : _ = some (vi))
    have q2 := (hA5.cell 2).trans (rfl : _ = some (vs))
    have q3 := (hA5.cell 3).trans (rfl : _ = some (Value.string d.sys))
    have q4 := (hA5.cell 4).trans (rfl : _ = some (Value.string d.bld))
    have q5 := (hA5.cell 5).trans (rfl : _ = some (va))
    have q6 := (hA5.cell 6).trans (rfl : _ = some (ve))
    clear hR5 hA5
    go_wp2_with (refine store_new rfl 27 _ _ rfl w4 _ _ 27 rfl w4.heap.size rfl rfl rfl hci4 (by rw [h47]; rfl) hone4 ?_)
    refine Calls.mono HS ?_
    rintro e w6 ⟨rfl, hb6⟩
    have HBY : Hid (Below w.heap.size w w6) := below_next HB5.out hb6
    clear hb6 HS HB5 m0 m1 m2 m3 m4 m5 m6 q0 q1 q2 q3 q4 q5 q6
    have HC := parse_ok s w6 (HTB.out _ HBY.out) (HGB.out _ HBY.out)
    go_wp2_with fail
    refine Calls.mono HC ?_
    rintro e w7 ⟨hb7, ⟨cs7, d7, rfl, hd7, hsz7, hbl7, hr7⟩ | ⟨en, hne, hfl, rfl⟩⟩
    · obtain ⟨h7, hone7⟩ := drvAt_row hd7
      have hci7 : (Tryd.prog.info? 27).map (·.size) = some cs7.size := by rw [h7]; exact info_drv
      have hR8 : Row (w7.alloc (.cells cs7 27)) w7.heap.size cs7 27 := Row.new w7 _ _
      have hbn : Below w7.heap.size w7 (w7.alloc (.cells cs7 27)) := below_new (Below.refl _ _) _
      have HB8 : Hid (Below w.heap.size w (w7.alloc (.cells cs7 27))) := below_next (below_next HBY.out hb7) hbn
      obtain ⟨hp1, hp2⟩ := put_of hsz7 hbl7 hr7
      have HP := putD_ok d7 cs7 _ (hd7.keep hbn) (HTB.out _ HB8.out)
      rw [hp1, hp2] at HP
      have e1 : (s.toList == s.toList) = true := by simp
      clear hb7 hd7 hsz7 hbl7 hr7 hbn hp1 hp2 HC HBY
      go_wp2_with (first
        | refine store_new rfl 27 _ _ rfl w7 _ cs7 27 rfl w7.heap.size rfl rfl rfl hci7 (by rw [h7]; rfl) hone7 ?_
        | refine wpList_load_row rfl 27 _ rfl w7.heap.size rfl 27 cs7 (0, 0) _ hR8 Tryd.underlying27 rfl hci7 ?_)
      refine Calls.mono HP ?_
      rintro e w9 ⟨rfl, hb9⟩
      have HZ : Hid (Below w.heap.size w w9) := below_next HB8.out hb9
      clear hb9 HP HB8 hR8
      go_wp2
      go_ret
      exact ⟨rfl, HZ.out⟩
    · have hnb : (en == 0) = false := by simpa using hne
      have hR8 : Row (w7.alloc (.cells zDrv 27)) w7.heap.size zDrv 27 := Row.new w7 _ _
      have hbn : Below w7.heap.size w7 (w7.alloc (.cells zDrv 27)) := below_new (Below.refl _ _) _
      have HB8 : Hid (Below w.heap.size w (w7.alloc (.cells zDrv 27))) := below_next (below_next HBY.out hb7) hbn
      have HP := same_ok dv0 zDrv zDrv (w7.alloc (.cells zDrv 27)) (drvAt_zero _) (drvAt_zero _)
      clear hb7 hbn HC HBY hfl
      go_wp2_with (first
        | refine store_new rfl 27 _ _ rfl w7 _ zDrv 27 rfl w7.heap.size rfl rfl rfl info_drv rfl (drv_one _ _ _ _ _ _ _ _ _ _ _ _ _ _ _ _ _) ?_
        | refine wpList_load_row rfl 27 _ rfl w7.heap.size rfl 27 zDrv (0, 0) _ hR8 Tryd.underlying27 rfl info_drv ?_)
      refine Calls.mono HP ?_
      rintro e w9 ⟨rfl, hb9⟩
      have HZ : Hid (Below w.heap.size w w9) := below_next HB8.out hb9
      clear hb9 HP HB8 hR8
      go_wp2
      go_ret
      exact ⟨rfl, HZ.out⟩
  · have hnb : (putE d == 0) = false := by simpa using hpe
    have HBY := HB3
    generalize putS d = ps at *
    generalize putE d = pe at *
    clear HB3 HR3
    have HC := parse_ok s w3 (HTB.out _ HBY.out) (HGB.out _ HBY.out)
    go_wp2_with fail
    refine Calls.mono HC ?_
    rintro e w7 ⟨hb7, ⟨cs7, d7, rfl, hd7, hsz7, hbl7, hr7⟩ | ⟨en, hne, hfl, rfl⟩⟩
    · obtain ⟨h7, hone7⟩ := drvAt_row hd7
      have hci7 : (Tryd.prog.info? 27).map (·.size) = some cs7.size := by rw [h7]; exact info_drv
      have hR8 : Row (w7.alloc (.cells cs7 27)) w7.heap.size cs7 27 := Row.new w7 _ _
      have hbn : Below w7.heap.size w7 (w7.alloc (.cells cs7 27)) := below_new (Below.refl _ _) _
      have HB8 : Hid (Below w.heap.size w (w7.alloc (.cells cs7 27))) := below_next (below_next HBY.out hb7) hbn
      obtain ⟨hp1, hp2⟩ := put_of hsz7 hbl7 hr7
      have HP := putD_ok d7 cs7 _ (hd7.keep hbn) (HTB.out _ HB8.out)
      rw [hp1, hp2] at HP
      have e1 : (s.toList == s.toList) = true := by simp
      clear hb7 hd7 hsz7 hbl7 hr7 hbn hp1 hp2 HC HBY
      go_wp2_with (first
        | refine store_new rfl 27 _ _ rfl w7 _ cs7 27 rfl w7.heap.size rfl rfl rfl hci7 (by rw [h7]; rfl) hone7 ?_
        | refine wpList_load_row rfl 27 _ rfl w7.heap.size rfl 27 cs7 (0, 0) _ hR8 Tryd.underlying27 rfl hci7 ?_)
      refine Calls.mono HP ?_
      rintro e w9 ⟨rfl, hb9⟩
      have HZ : Hid (Below w.heap.size w w9) := below_next HB8.out hb9
      clear hb9 HP HB8 hR8
      go_wp2
      go_ret
      exact ⟨rfl, HZ.out⟩
    · have hnb : (en == 0) = false := by simpa using hne
      have hR8 : Row (w7.alloc (.cells zDrv 27)) w7.heap.size zDrv 27 := Row.new w7 _ _
      have hbn : Below w7.heap.size w7 (w7.alloc (.cells zDrv 27)) := below_new (Below.refl _ _) _
      have HB8 : Hid (Below w.heap.size w (w7.alloc (.cells zDrv 27))) := below_next (below_next HBY.out hb7) hbn
      have HP := same_ok dv0 zDrv zDrv (w7.alloc (.cells zDrv 27)) (drvAt_zero _) (drvAt_zero _)
      clear hb7 hbn HC HBY hfl
      go_wp2_with (first
        | refine store_new rfl 27 _ _ rfl w7 _ zDrv 27 rfl w7.heap.size rfl rfl rfl info_drv rfl (drv_one _ _ _ _ _ _ _ _ _ _ _ _ _ _ _ _ _) ?_
        | refine wpList_load_row rfl 27 _ rfl w7.heap.size rfl 27 zDrv (0, 0) _ hR8 Tryd.underlying27 rfl info_drv ?_)
      refine Calls.mono HP ?_
      rintro e w9 ⟨rfl, hb9⟩
      have HZ : Hid (Below w.heap.size w w9) := below_next HB8.out hb9
      clear hb9 HP HB8 hR8
      go_wp2
      go_ret
      exact ⟨rfl, HZ.out⟩
end Go.Proofs.YtmpgfepkdhjibaaDoor
