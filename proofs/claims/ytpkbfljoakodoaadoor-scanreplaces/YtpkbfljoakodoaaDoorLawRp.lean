/- My own work: the walk of ScanReplaces. -/
import Derived.Test.YtpkbfljoakodoaaDoorXF
import Derived.Test.YtpkbfljoakodoaaDoorSRoom
import Derived.Test.YtpkbfljoakodoaaDoorSameT
namespace Go.Proofs.YtpkbfljoakodoaaDoor
open Go.RowKit
open S2 (bl bl_len bl_inj splitB splitV Tab NTab)

theorem same_self6 (n : Nd) (w : World) (C D : Array Value) (h : NodeAt w n C) (h' : NodeAt w n D) : Calls Tryd.prog 18 #[.agg C, .agg D] w fun e w' => e = .returned (.bool true) ∧ Below w.heap.size w w' :=
  (sameT_ok n n w C D h h').mono fun e w' hh => ⟨by rw [hh.1, (sameN_iff n n).2 rfl], hh.2⟩
set_option maxRecDepth 20000 in
set_option maxHeartbeats 4000000 in
theorem law_replaces (n : Nd) (f t : ByteArray) (w : World) (C : Array Value) (h : NodeAt w n C) (hfs : f.size ≤ 140737488355328) (hts : t.size ≤ 140737488355328) (hT : Tab w) (hNT : NTab w) (hm : MxTab w) :
    Calls Tryd.prog 4 #[.agg C, .string f, .string t] w fun e w' => e = .returned (.bool true) ∧ Below w.heap.size w w' := by
  have hsi : (Tryd.prog.info? 26).map (·.size) = some C.size := by rw [infoN, h.size]
  have hb0 : Below w.heap.size w (w.alloc (.cells C 26)) := (Below.refl _ _).alloc (Nat.le_refl _) _
  have HR : Hid (Row (w.alloc (.cells C 26)) w.heap.size C 26) := Row.new w _ _
  have hla := large_ok n _ C (h.keep hb0)
  have HND : Hid (NodeAt w n C) := h
  have HT : Hid (Tab w) := hT
  have HNT : Hid (NTab w) := hNT
  have HM : Hid (MxTab w) := hm
  have HB : Hid _ := hb0
  clear h hT hNT hm hb0
  go_enter Tryd.func4, Tryd.ntmps4
  generalize hwB : w.alloc (.cells C 26) = wB at *
  go_wp2_with (refine wpList_load_row rfl 26 _ rfl w.heap.size rfl 26 C (0, 0) _ HR.out Tryd.underlying26 rfl hsi ?_)
  refine hla.mono ?_
  rintro e w1 ⟨b, rfl, hbc, hb1⟩
  have HB1 : Hid (Below w.heap.size w w1) := HB.out.trans (hb1.mono HB.out.size)
  have HR1 : Hid (Row w1 w.heap.size C 26) := Row.below HR.out hb1 (Row.lt HR.out)
  clear hla hb1
  cases b with
  | true =>
    go_wp2
    go_ret
    exact ⟨rfl, HB1.out⟩
  | false =>
    have hct := hbc rfl
    have h6 : n.count ≤ 16000 := by omega
    have HRE := replace_ok n f t w1 C (HND.out.keep HB1.out) h6 hfs hts (HT.out.below HB1.out HT.out.pos) (S2.NTab.keep HNT.out HB1.out) (HM.out.keep HB1.out)
    clear hbc hct
    go_wp2_with (refine wpList_load_row rfl 26 _ rfl w.heap.size rfl 26 C (0, 0) _ HR1.out Tryd.underlying26 rfl hsi ?_)
    refine HRE.mono ?_
    rintro e w2 ⟨C2, rfl, hN2, hb2⟩
    have hA2 := hN2.at'
    have hC2 := hA2.size
    have h12 := NodeAt.one hA2
    have hbx : Below w2.heap.size w2 (w2.alloc (.cells C2 26)) := (Below.refl _ _).alloc (Nat.le_refl _) _
    have HBX : Hid (Below w.heap.size w (w2.alloc (.cells C2 26))) := (HB1.out.trans (hb2.mono HB1.out.size)).trans (hbx.mono (HB1.out.trans (hb2.mono HB1.out.size)).size)
    have HA2 : Hid (NodeAt (w2.alloc (.cells C2 26)) (repN n f t) C2) := hA2.keep hbx
    have HRow2 : Hid (Row (w2.alloc (.cells C2 26)) w2.heap.size C2 26) := Row.new w2 _ _
    have HR2 : Hid (Row (w2.alloc (.cells C2 26)) w.heap.size C 26) := (Row.below HR1.out hb2 (Row.lt HR1.out)).alloc _
    have hi2 : (Tryd.prog.info? 26).map (·.size) = some C2.size := by rw [infoN, hC2]
    have HRR := rreplace_ok n f t (w2.alloc (.cells C2 26)) C (HND.out.keep HBX.out) h6 hfs hts
    clear HRE hN2 hb2 hA2 hbx
    go_wp2_with (first
      | refine wpList_store_new rfl 26 _ _ rfl w2 nodeZ C2 26 rfl w2.heap.size rfl rfl rfl hi2 hC2.symm h12 ?_
      | refine wpList_load_row rfl 26 _ rfl w.heap.size rfl 26 C (0, 0) _ HR2.out Tryd.underlying26 rfl hsi ?_)
    refine HRR.mono ?_
    rintro e w3 ⟨C3, rfl, hN3, hb3⟩
    have hA3 := hN3.at'
    have hC3 := hA3.size
    have h13 := NodeAt.one hA3
    have hi3 : (Tryd.prog.info? 26).map (·.size) = some C3.size := by rw [infoN, hC3]
    have hby : Below w3.heap.size w3 (w3.alloc (.cells C3 26)) := (Below.refl _ _).alloc (Nat.le_refl _) _
    have hb23 := hb3.trans (hby.mono hb3.size)
    have HBY : Hid (Below w.heap.size w (w3.alloc (.cells C3 26))) := HBX.out.trans (hb23.mono HBX.out.size)
    have HRow3 : Hid (Row (w3.alloc (.cells C3 26)) w3.heap.size C3 26) := Row.new w3 _ _
    have HRow2' : Hid (Row (w3.alloc (.cells C3 26)) w2.heap.size C2 26) := (Row.below HRow2.out hb3 (Row.lt HRow2.out)).alloc _
    have hsm := same_self6 (repN n f t) (w3.alloc (.cells C3 26)) C2 C3 (HA2.out.keep hb23) (hA3.keep hby)
    clear HRR hN3 hb3 hA3 hby hb23
    go_wp2_with (first
      | refine wpList_store_new rfl 26 _ _ rfl w3 nodeZ C3 26 rfl w3.heap.size rfl rfl rfl hi3 hC3.symm h13 ?_
      | refine wpList_load_row rfl 26 _ rfl w2.heap.size rfl 26 C2 (0, 0) _ HRow2'.out Tryd.underlying26 rfl hi2 ?_
      | refine wpList_load_row rfl 26 _ rfl w3.heap.size rfl 26 C3 (0, 0) _ HRow3.out Tryd.underlying26 rfl hi3 ?_)
    refine hsm.mono ?_
    rintro e w4 ⟨rfl, hb4⟩
    have HB4 : Hid (Below w.heap.size w w4) := HBY.out.trans (hb4.mono HBY.out.size)
    clear hsm hb4
    go_wp2
    go_ret
    exact ⟨rfl, HB4.out⟩
end Go.Proofs.YtpkbfljoakodoaaDoor
