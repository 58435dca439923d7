/- My own work: the walk of Put. -/
import Derived.Test.YtmpgfepkdhjibaaDoorWr7
import Derived.Test.YtmpgfepkdhjibaaDoorSortM
namespace Go.Proofs.YtmpgfepkdhjibaaDoor
open Go.RowKit

/-- What Put tells. -/
def putE (d : Dv) : Int := if rightE d = 0 then (if 1048576 < (drvE d).length then 3 else 0) else rightE d
def putS (d : Dv) : ByteArray := if rightE d = 0 ∧ (drvE d).length ≤ 1048576 then ⟨(drvE d).toArray⟩ else ⟨#[]⟩
set_option maxRecDepth 20000 in
set_option maxHeartbeats 4000000 in
theorem putD_ok (d : Dv) (cs : Array Value) (w : World) (h : DrvAt w d cs) (hT : ETab w) : Calls Tryd.prog 9 #[.agg cs] w fun e w' => e = .returned (.tuple #[.string (putS d), .int .i64 (putE d)]) ∧ Below w.heap.size w w' := by
  by_cases hr : ¬ rightE d = 0
  · have e1 : putS d = ⟨#[]⟩ := by unfold putS; rw [if_neg (fun h => hr h.1)]
    have e2 : putE d = rightE d := by unfold putE; rw [if_neg hr]
    rw [e1, e2]
    exact put_err d cs w h hr
  replace hr := Decidable.of_not_not hr
  have hb0 : Below w.heap.size w (w.alloc (.cells cs 27)) := below_new (Below.refl _ _) _
  have HR : Hid (Calls Tryd.prog 11 #[.agg cs] (w.alloc (.cells cs 27)) fun e w' => e = .returned (.int .i64 0) ∧ Below (w.alloc (.cells cs 27)).heap.size (w.alloc (.cells cs 27)) w') := by
    have := right_ok d cs _ (h.keep hb0)
    rwa [hr] at this
  have HB0 : Hid _ := hb0
  have HR0 : Hid (Row (w.alloc (.cells cs 27)) w.heap.size cs 27) := Row.new w _ _
  have HD : Hid (DrvAt w d cs) := h
  have HT : Hid (ETab w) := hT
  have HS : Hid (rightE d = 0) := hr
  obtain ⟨vo, vi, vs, va, ve, rfl, _⟩ := h.ex
  clear h hb0 hT hr
  go_enter Tryd.func9, Tryd.ntmps9
  go_wp2_with fail
  refine Calls.mono HR.out ?_
  rintro e w1 ⟨rfl, hb1⟩
  have HB1 : Hid (Below w.heap.size w w1) := below_next HB0.out hb1
  have HR1 : Hid (Row w1 w.heap.size #[vo, vi, vs, .string d.sys, .string d.bld, va, ve] 27) := Row.below HR0.out hb1 (Row.lt HR0.out)
  clear hb1 HR HR0 HB0
  have hb2 : Below w1.heap.size w1 (w1.alloc (.cells #[.slice none 0 0, .bool false] 55)) := below_new (Below.refl _ _) _
  have hw2 : Wr (w1.alloc (.cells #[.slice none 0 0, .bool false] 55)) w1.heap.size [] := ⟨_, false, [], Row.new w1 _ _, World.ownsRow_nil _ _ _ _, by simp, .inl ⟨rfl, rfl⟩⟩
  have hB2 : Below w.heap.size w (w1.alloc (.cells #[.slice none 0 0, .bool false] 55)) := below_next HB1.out hb2
  have hR2 : Row (w1.alloc (.cells #[.slice none 0 0, .bool false] 55)) w.heap.size #[vo, vi, vs, .string d.sys, .string d.bld, va, ve] 27 := HR1.out.below hb2 HR1.out.lt
  have HC := drv_ok d #[vo, vi, vs, .string d.sys, .string d.bld, va, ve] w1.heap.size [] _ hw2 (HT.out.keep hB2) (by have := HT.out.pos; have := HB1.out.size; omega) w HD.out hB2 HB1.out.size
  have c0 := hR2.cell 0
  have c1 := hR2.cell 1
  have c2 := hR2.cell 2
  have c3 := hR2.cell 3
  have c4 := hR2.cell 4
  have c5 := hR2.cell 5
  have c6 := hR2.cell 6
  have HB2 : Hid _ := hB2
  clear hb2 hw2 hB2 hR2 HR1
  go_wp2_with fail
  refine Calls.mono HC ?_
  rintro e w3 ⟨⟨v3, rfl⟩, hw3, hf3⟩
  have HB3 : Hid (Below w.heap.size w w3) := Below.trans HB2.out (hf3.bel.mono HB1.out.size)
  obtain ⟨v, big, X, hr3, hx3, hX3, hc3⟩ := hw3.ex
  obtain ⟨va3, vc3, rfl⟩ := buf_slice hx3
  have k0 := (hr3.cell 0).trans (rfl : _ = some (Value.slice va3 X.length vc3))
  have k1 := (hr3.cell 1).trans (rfl : _ = some (Value.bool big))
  have hcv := conv_buf w3 _ _ _ hx3
  rw [List.nil_append] at hc3
  clear hf3 HC hw3 hr3 hx3 HB2 c0 c1 c2 c3 c4 c5 c6
  rcases hc3 with ⟨rfl, rfl⟩ | ⟨rfl, hbig⟩
  · have HE : Hid (putS d = ⟨(drvE d).toArray⟩ ∧ putE d = 0) := by
      constructor
      · unfold putS; rw [if_pos ⟨HS.out, hX3⟩]
      · unfold putE; rw [if_pos HS.out, if_neg (by omega)]
    go_wp2
    go_ret2
    exact ⟨by rw [HE.out.1, HE.out.2]; rfl, HB3.out⟩
  · have HE : Hid (putS d = ⟨#[]⟩ ∧ putE d = 3) := by
      constructor
      · unfold putS; rw [if_neg (fun h => by omega)]
      · unfold putE; rw [if_pos HS.out, if_pos hbig]
    go_wp2
    go_ret2
    exact ⟨by rw [HE.out.1, HE.out.2]; rfl, HB3.out⟩
end Go.Proofs.YtmpgfepkdhjibaaDoor
