/- My own work: the walk of the document's Put. -/
import Derived.Test.YtmpgfepkdhjibaaDoorRefR
import Derived.Test.YtmpgfepkdhjibaaDoorRefT
import Derived.Test.YtmpgfepkdhjibaaDoorPutD
namespace Go.Proofs.YtmpgfepkdhjibaaDoor
open Go.RowKit

set_option maxRecDepth 20000 in
set_option maxHeartbeats 4000000 in
theorem rput_ok (d : Dv) (cs : Array Value) (w : World) (h : DrvAt w d cs) (hS : Sm d) : Calls Tryd.prog 10 #[.agg cs] w fun e w' => e = .returned (.tuple #[.string (putS d), .int .i64 (putE d)]) ∧ Below w.heap.size w w' := by
  have hb0 : Below w.heap.size w (w.alloc (.cells cs 27)) := below_new (Below.refl _ _) _
  have HR : Hid (Calls Tryd.prog 12 #[.agg cs] (w.alloc (.cells cs 27)) fun e w' => e = .returned (.int .i64 (rightE d)) ∧ Below (w.alloc (.cells cs 27)).heap.size (w.alloc (.cells cs 27)) w') := rright_ok d cs _ (h.keep hb0)
  have HR0 : Hid (Row (w.alloc (.cells cs 27)) w.heap.size cs 27) := Row.new w _ _
  have HB0 : Hid _ := hb0
  have HTx : Hid (∀ wx, Below w.heap.size w wx → Calls Tryd.prog 20 #[.agg cs] wx fun e w' => e = .returned (.string (tx (drvE d))) ∧ Below wx.heap.size wx w') := fun wx hb => text_ok d cs wx (h.keep hb) hS
  obtain ⟨vo, vi, vs, va, ve, rfl, _⟩ := h.ex
  clear h hb0 hS
  have HE1 : Hid (rightE d ≠ 0 → putS d = ⟨#[]⟩ ∧ putE d = rightE d) := fun h => ⟨by unfold putS; rw [if_neg (fun x => h x.1)], by unfold putE; rw [if_neg h]⟩
  have HE2 : Hid (rightE d = 0 → 1048576 < (drvE d).length → putS d = ⟨#[]⟩ ∧ putE d = 3) := fun h h2 => ⟨by unfold putS; rw [if_neg (fun x => by omega)], by unfold putE; rw [if_pos h, if_pos h2]⟩
  have HE3 : Hid (rightE d = 0 → ¬ 1048576 < (drvE d).length → putS d = tx (drvE d) ∧ putE d = 0) := fun h h2 => ⟨by unfold putS; rw [if_pos ⟨h, by omega⟩]; rfl, by unfold putE; rw [if_pos h, if_neg h2]⟩
  generalize putS d = ps at *
  generalize putE d = pe at *
  generalize rightE d = q at *
  have htz := tx_size (drvE d)
  generalize drvE d = D at *
  by_cases hq : q = 0
  · subst hq
    have H2 : Hid _ := HE2.out rfl
    have H3 : Hid _ := HE3.out rfl
    clear HE1 HE2 HE3
    go_enter Tryd.func10, Tryd.ntmps10
    go_wp2_with fail
    refine Calls.mono HR.out ?_
    rintro e w1 ⟨rfl, hb1⟩
    have HB1 : Hid (Below w.heap.size w w1) := below_next HB0.out hb1
    have hR1 : Row w1 w.heap.size #[vo, vi, vs, .string d.sys, .string d.bld, va, ve] 27 := Row.below HR0.out hb1 (Row.lt HR0.out)
    have HT1 := HTx.out w1 HB1.out
    have c0 := hR1.cell 0
    have c1 := hR1.cell 1
    have c2 := hR1.cell 2
    have c3 := hR1.cell 3
    have c4 := hR1.cell 4
    have c5 := hR1.cell 5
    have c6 := hR1.cell 6
    clear hb1 hR1 HR HR0 HB0
    go_wp2_with fail
    refine Calls.mono HT1 ?_
    rintro e w2 ⟨rfl, hb2⟩
    have HB2 : Hid (Below w.heap.size w w2) := below_next HB1.out hb2
    clear hb2 HT1 c0 c1 c2 c3 c4 c5 c6
    by_cases hl : 1048576 < D.length
    · have hl' : (1048576 : Int) < ((tx D).size : Int) := by omega
      obtain ⟨rfl, rfl⟩ := H2.out hl
      go_wp2
      go_ret2
      exact ⟨rfl, HB2.out⟩
    · have hl' : ¬ (1048576 : Int) < ((tx D).size : Int) := by omega
      obtain ⟨rfl, rfl⟩ := H3.out hl
      go_wp2
      go_ret2
      exact ⟨rfl, HB2.out⟩
  · obtain ⟨rfl, rfl⟩ := HE1.out hq
    have hq' : (pe == 0) = false := beq_false_of_ne hq
    go_enter Tryd.func10, Tryd.ntmps10
    go_wp2_with fail
    refine Calls.mono HR.out ?_
    rintro e w1 ⟨rfl, hb1⟩
    have HB1 : Hid (Below w.heap.size w w1) := below_next HB0.out hb1
    clear hb1
    go_wp2
    go_ret2
    exact ⟨rfl, HB1.out⟩
theorem names_ok (w : World) : Calls Tryd.prog 14 #[] w fun e w' => e = .returned (.bool true) ∧ w' = w := by
  go_enter Tryd.func14, Tryd.ntmps14
  go_wp2
  go_ret
  exact ⟨rfl, rfl⟩
end Go.Proofs.YtmpgfepkdhjibaaDoor
