/- My own work: the walks of the document's texts and Same, where both are alike. -/
import Derived.Test.YtmpgfepkdhjibaaDoorRt
namespace Go.Proofs.YtmpgfepkdhjibaaDoor
open Go.RowKit

/-- A list's cells, element by element. -/
theorem SlAt.cells1 {w : World} {v : Value} {l : List ByteArray} (h : SlAt w v l.length (strV l)) : ∃ a c b off, v = .slice a l.length c ∧ l.length ≤ c ∧ c ≤ 9223372036854775807 ∧ (0 < l.length → a = some ⟨b, off, none⟩) ∧ ∀ wx, Below w.heap.size w wx → ∀ i (hi : i < l.length), wx.cell? ⟨b, off + i, none⟩ = some (.string l[i]) := by
  obtain ⟨a, c, b, off, h1, h2, h3, h4, h5⟩ := h.ex
  refine ⟨a, c, b, off, h1, h2, h3, fun hp => h4 (fun e => by have := strV_len l; rw [e] at this; simp at this; omega), fun wx hb i hi => ?_⟩
  have hc := h5 i _ (strV_at l i hi)
  exact (World.cell?_of_block (w := w) (hb.block b (World.block_lt_of_cell? w _ hc))).trans hc
theorem SlAt.cells3 {w : World} {v : Value} {l : List (ByteArray × ByteArray × ByteArray)} (h : SlAt w v l.length (outV l)) : ∃ a c b off, v = .slice a l.length c ∧ l.length ≤ c ∧ c ≤ 9223372036854775807 ∧ (0 < l.length → a = some ⟨b, off, none⟩) ∧
    ∀ wx, Below w.heap.size w wx → ∀ i (hi : i < l.length), wx.cell? ⟨b, off + i * 3, none⟩ = some (.string l[i].1) ∧ wx.cell? ⟨b, off + i * 3 + 1, none⟩ = some (.string l[i].2.1) ∧ wx.cell? ⟨b, off + i * 3 + 2, none⟩ = some (.string l[i].2.2) := by
  obtain ⟨a, c, b, off, h1, h2, h3, h4, h5⟩ := h.ex
  refine ⟨a, c, b, off, h1, h2, h3, fun hp => h4 (fun e => by have := outV_len l; rw [e] at this; simp at this; omega), fun wx hb i hi => ?_⟩
  have kk : ∀ j x, (outV l)[j]? = some x → wx.cell? ⟨b, off + j, none⟩ = some x := fun j x hx => by
    have hc := h5 j x hx
    exact (World.cell?_of_block (w := w) (hb.block b (World.block_lt_of_cell? w _ hc))).trans hc
  have h6 := outV_at l i hi
  simp only [Nat.mul_comm i 3, Nat.add_assoc]
  exact ⟨kk _ _ h6.1, kk _ _ h6.2.1, kk _ _ h6.2.2⟩
theorem SlAt.cells2 {w : World} {v : Value} {l : List (ByteArray × ByteArray)} (h : SlAt w v l.length (pairV l)) : ∃ a c b off, v = .slice a l.length c ∧ l.length ≤ c ∧ c ≤ 9223372036854775807 ∧ (0 < l.length → a = some ⟨b, off, none⟩) ∧
    ∀ wx, Below w.heap.size w wx → ∀ i (hi : i < l.length), wx.cell? ⟨b, off + i * 2, none⟩ = some (.string l[i].1) ∧ wx.cell? ⟨b, off + i * 2 + 1, none⟩ = some (.string l[i].2) := by
  obtain ⟨a, c, b, off, h1, h2, h3, h4, h5⟩ := h.ex
  refine ⟨a, c, b, off, h1, h2, h3, fun hp => h4 (fun e => by have := pairV_len l; rw [e] at this; simp at this; omega), fun wx hb i hi => ?_⟩
  have kk : ∀ j x, (pairV l)[j]? = some x → wx.cell? ⟨b, off + j, none⟩ = some x := fun j x hx => by
    have hc := h5 j x hx
    exact (World.cell?_of_block (w := w) (hb.block b (World.block_lt_of_cell? w _ hc))).trans hc
  have h6 := pairV_at l i hi
  simp only [Nat.mul_comm i 2, Nat.add_assoc]
  exact ⟨kk _ _ h6.1, kk _ _ h6.2⟩
set_option maxRecDepth 20000 in
set_option maxHeartbeats 2000000 in
theorem texts_ok (l : List ByteArray) (v v' : Value) (w : World) (h : SlAt w v l.length (strV l)) (h' : SlAt w v' l.length (strV l)) : Calls Tryd.prog 24 #[v, v'] w fun e w' => e = .returned (.bool true) ∧ Below w.heap.size w w' := by
  obtain ⟨a, c, b, off, rfl, hc1, hc2, hat, hcell⟩ := h.cells1
  obtain ⟨a', c', b', off', rfl, hc1', hc2', hat', hcell'⟩ := h'.cells1
  have HC : Hid _ := hcell
  have HC' : Hid _ := hcell'
  clear h h' hcell hcell'
  have hl0 : l.length = 0 ∨ (a = some ⟨b, off, none⟩ ∧ a' = some ⟨b', off', none⟩) := by
    by_cases hl : l.length = 0
    · exact .inl hl
    · exact .inr ⟨hat (by omega), hat' (by omega)⟩
  clear hat hat'
  have hne : ((l.length : Int) == (l.length : Int)) = true := by simp
  go_enter Tryd.func24, Tryd.ntmps24
  go_wp2
  go_loopw [5] (fun iv wx => ∃ (i : Nat), iv = .int .i64 i ∧ i ≤ l.length ∧ Hid (Below w.heap.size w wx)) (fun iv _ => l.length - (intOf iv).toNat)
  case atStart => exact ⟨0, rfl, by omega, Below.refl _ _⟩
  case round =>
    obtain ⟨i, rfl, hi1, HB⟩ := hrel
    by_cases hlt : i < l.length
    · have hlt' : (i : Int) < (l.length : Int) := by omega
      obtain ⟨rfl, rfl⟩ := hl0.resolve_left (by omega)
      have hBd : Below w.heap.size w wr.drew := HB.out.drew
      obtain ⟨s, hs⟩ : ∃ s, s = l[i] := ⟨_, rfl⟩
      have K : Hid (∀ wx, Below w.heap.size w wx → wx.cell? ⟨b, off + i, none⟩ = some (.string s) ∧ wx.cell? ⟨b', off' + i, none⟩ = some (.string s)) := fun wx hb => by rw [hs]; exact ⟨HC.out wx hb i hlt, HC'.out wx hb i hlt⟩
      clear hs
      go_wp2_with fail
      refine wp_region_mix [false, false, false, false, false, false, false, false, false] (fun wx => Below w.heap.size w wx) (by kernel_rfl) (by kernel_rfl) hBd ?_
      refine m_move _ rfl (by rfl) ?_
      simp only [Act.put, List.setIfInBounds_toArray, List.set_cons_zero, List.set_cons_succ]
      refine m_move _ rfl (by rfl) ?_
      simp only [Act.put, List.setIfInBounds_toArray, List.set_cons_zero, List.set_cons_succ]
      refine m_value ?_ (by rfl) (fun w hw => ?_) ?_
      rotate_left
      · go_simp
        with_reducible rfl
      simp only [Act.put, List.setIfInBounds_toArray, List.set_cons_zero, List.set_cons_succ]
      refine m_value ?_ (by rfl) (fun w hw => ?_) ?_
      rotate_left
      · obtain ⟨k1, k2⟩ := K.out _ hw
        go_simp
        with_reducible rfl
      simp only [Act.put, List.setIfInBounds_toArray, List.set_cons_zero, List.set_cons_succ]
      refine m_move _ rfl (by rfl) ?_
      simp only [Act.put, List.setIfInBounds_toArray, List.set_cons_zero, List.set_cons_succ]
      refine m_move _ rfl (by rfl) ?_
      simp only [Act.put, List.setIfInBounds_toArray, List.set_cons_zero, List.set_cons_succ]
      refine m_value ?_ (by rfl) (fun w hw => ?_) ?_
      rotate_left
      · go_simp
        with_reducible rfl
      simp only [Act.put, List.setIfInBounds_toArray, List.set_cons_zero, List.set_cons_succ]
      refine m_value ?_ (by rfl) (fun w hw => ?_) ?_
      rotate_left
      · obtain ⟨k1, k2⟩ := K.out _ hw
        go_simp
        with_reducible rfl
      simp only [Act.put, List.setIfInBounds_toArray, List.set_cons_zero, List.set_cons_succ]
      refine m_value ?_ (by rfl) (fun w hw => ?_) ?_
      rotate_left
      · go_simp
        with_reducible rfl
      simp only [Act.put, List.setIfInBounds_toArray, List.set_cons_zero, List.set_cons_succ]
      refine m_done ?_
      try simp only [Exit.then]
      have HBd : Hid _ := hBd
      clear hBd
      go_wp2
      go_roundw
      case rel => exact ⟨i + 1, by go_num, by omega, HBd⟩
      case measure => simp [intOf]; omega
    · have hlt' : ¬ (i : Int) < (l.length : Int) := by omega
      go_wp2
      go_ret
      exact ⟨rfl, HB.out⟩
set_option maxRecDepth 20000 in
set_option maxHeartbeats 8000000 in
theorem same_ok (d : Dv) (cs1 cs2 : Array Value) (w : World) (h1 : DrvAt w d cs1) (h2 : DrvAt w d cs2) : Calls Tryd.prog 13 #[.agg cs1, .agg cs2] w fun e w' => e = .returned (.bool true) ∧ Below w.heap.size w w' := by
  obtain ⟨vo, vi, vs, va, ve, rfl, ho, hi, hs, ha, he⟩ := h1.ex
  obtain ⟨oa1, oc1, bo1, fo1, rfl, o11, o21, o31, o41⟩ := ho.cells3
  obtain ⟨sa1, sc1, rfl, s11, s21⟩ := hs.shape
  obtain ⟨aa1, ac1, rfl, a11, a21⟩ := ha.shape
  obtain ⟨ea1, ec1, be1, fe1, rfl, e11, e21, e31, e41⟩ := he.cells2
  obtain ⟨ns1, ia1, ic1, bi1, fi1, hns1, hsl1, rfl, i11, i21, i31, hin1⟩ := hi.cells
  have HO1 : Hid _ := o41
  have HS1 : Hid (SlAt w (.slice sa1 d.srcs.length sc1) d.srcs.length (strV d.srcs)) := hs
  have HA1 : Hid (SlAt w (.slice aa1 d.args.length ac1) d.args.length (strV d.args)) := ha
  have HE1 : Hid _ := e41
  have HI1 : Hid _ := hin1
  clear ho hi hs ha he o41 e41 hin1 hsl1
  obtain ⟨vo, vi, vs, va, ve, rfl, ho, hi, hs, ha, he⟩ := h2.ex
  obtain ⟨oa2, oc2, bo2, fo2, rfl, o12, o22, o32, o42⟩ := ho.cells3
  obtain ⟨sa2, sc2, rfl, s12, s22⟩ := hs.shape
  obtain ⟨aa2, ac2, rfl, a12, a22⟩ := ha.shape
  obtain ⟨ea2, ec2, be2, fe2, rfl, e12, e22, e32, e42⟩ := he.cells2
  obtain ⟨ns2, ia2, ic2, bi2, fi2, hns2, hsl2, rfl, i12, i22, i32, hin2⟩ := hi.cells
  have HO2 : Hid _ := o42
  have HS2 : Hid (SlAt w (.slice sa2 d.srcs.length sc2) d.srcs.length (strV d.srcs)) := hs
  have HA2 : Hid (SlAt w (.slice aa2 d.args.length ac2) d.args.length (strV d.args)) := ha
  have HE2 : Hid _ := e42
  have HI2 : Hid _ := hin2
  clear ho hi hs ha he o42 e42 hin2 hsl2
  clear h1 h2
  have hb0 : Below w.heap.size w ((w.alloc (.cells #[.slice oa1 d.outs.length oc1, .slice ia1 d.ins.length ic1, .slice sa1 d.srcs.length sc1, .string d.sys, .string d.bld, .slice aa1 d.args.length ac1, .slice ea1 d.env.length ec1] 27)).alloc (.cells #[.slice oa2 d.outs.length oc2, .slice ia2 d.ins.length ic2, .slice sa2 d.srcs.length sc2, .string d.sys, .string d.bld, .slice aa2 d.args.length ac2, .slice ea2 d.env.length ec2] 27)) := below_new (below_new (Below.refl _ _) _) _
  have hr1 : Row ((w.alloc (.cells #[.slice oa1 d.outs.length oc1, .slice ia1 d.ins.length ic1, .slice sa1 d.srcs.length sc1, .string d.sys, .string d.bld, .slice aa1 d.args.length ac1, .slice ea1 d.env.length ec1] 27)).alloc (.cells #[.slice oa2 d.outs.length oc2, .slice ia2 d.ins.length ic2, .slice sa2 d.srcs.length sc2, .string d.sys, .string d.bld, .slice aa2 d.args.length ac2, .slice ea2 d.env.length ec2] 27)) w.heap.size #[.slice oa1 d.outs.length oc1, .slice ia1 d.ins.length ic1, .slice sa1 d.srcs.length sc1, .string d.sys, .string d.bld, .slice aa1 d.args.length ac1, .slice ea1 d.env.length ec1] 27 := (Row.new w _ _).alloc _
  have hr2 : Row ((w.alloc (.cells #[.slice oa1 d.outs.length oc1, .slice ia1 d.ins.length ic1, .slice sa1 d.srcs.length sc1, .string d.sys, .string d.bld, .slice aa1 d.args.length ac1, .slice ea1 d.env.length ec1] 27)).alloc (.cells #[.slice oa2 d.outs.length oc2, .slice ia2 d.ins.length ic2, .slice sa2 d.srcs.length sc2, .string d.sys, .string d.bld, .slice aa2 d.args.length ac2, .slice ea2 d.env.length ec2] 27)) (w.heap.size + 1) #[.slice oa2 d.outs.length oc2, .slice ia2 d.ins.length ic2, .slice sa2 d.srcs.length sc2, .string d.sys, .string d.bld, .slice aa2 d.args.length ac2, .slice ea2 d.env.length ec2] 27 := by
    have := Row.new (w.alloc (.cells #[.slice oa1 d.outs.length oc1, .slice ia1 d.ins.length ic1, .slice sa1 d.srcs.length sc1, .string d.sys, .string d.bld, .slice aa1 d.args.length ac1, .slice ea1 d.env.length ec1] 27)) #[.slice oa2 d.outs.length oc2, .slice ia2 d.ins.length ic2, .slice sa2 d.srcs.length sc2, .string d.sys, .string d.bld, .slice aa2 d.args.length ac2, .slice ea2 d.env.length ec2] 27
    rwa [show (w.alloc (.cells #[.slice oa1 d.outs.length oc1, .slice ia1 d.ins.length ic1, .slice sa1 d.srcs.length sc1, .string d.sys, .string d.bld, .slice aa1 d.args.length ac1, .slice ea1 d.env.length ec1] 27)).heap.size = w.heap.size + 1 by simp] at this
  obtain ⟨w0, hw0⟩ : ∃ w0, w0 = ((w.alloc (.cells #[.slice oa1 d.outs.length oc1, .slice ia1 d.ins.length ic1, .slice sa1 d.srcs.length sc1, .string d.sys, .string d.bld, .slice aa1 d.args.length ac1, .slice ea1 d.env.length ec1] 27)).alloc (.cells #[.slice oa2 d.outs.length oc2, .slice ia2 d.ins.length ic2, .slice sa2 d.srcs.length sc2, .string d.sys, .string d.bld, .slice aa2 d.args.length ac2, .slice ea2 d.env.length ec2] 27)) := ⟨_, rfl⟩
  rw [← hw0] at hb0 hr1 hr2
  have HR1 : Hid (∀ wx, Below w0.heap.size w0 wx → Row wx w.heap.size #[.slice oa1 d.outs.length oc1, .slice ia1 d.ins.length ic1, .slice sa1 d.srcs.length sc1, .string d.sys, .string d.bld, .slice aa1 d.args.length ac1, .slice ea1 d.env.length ec1] 27) := fun wx hb => hr1.below hb hr1.lt
  have HR2 : Hid (∀ wx, Below w0.heap.size w0 wx → Row wx (w.heap.size + 1) #[.slice oa2 d.outs.length oc2, .slice ia2 d.ins.length ic2, .slice sa2 d.srcs.length sc2, .string d.sys, .string d.bld, .slice aa2 d.args.length ac2, .slice ea2 d.env.length ec2] 27) := fun wx hb => hr2.below hb hr2.lt
  have HB0 : Hid (Below w.heap.size w w0) := hb0
  clear hb0 hr1 hr2
  have oo : d.outs.length = 0 ∨ (oa1 = some ⟨bo1, fo1, none⟩ ∧ oa2 = some ⟨bo2, fo2, none⟩) := by
    by_cases hl : d.outs.length = 0
    · exact .inl hl
    · exact .inr ⟨o31 (by omega), o32 (by omega)⟩
  have ii : d.ins.length = 0 ∨ (ia1 = some ⟨bi1, fi1, none⟩ ∧ ia2 = some ⟨bi2, fi2, none⟩) := by
    by_cases hl : d.ins.length = 0
    · exact .inl hl
    · exact .inr ⟨i31 (by omega), i32 (by omega)⟩
  have ee : d.env.length = 0 ∨ (ea1 = some ⟨be1, fe1, none⟩ ∧ ea2 = some ⟨be2, fe2, none⟩) := by
    by_cases hl : d.env.length = 0
    · exact .inl hl
    · exact .inr ⟨e31 (by omega), e32 (by omega)⟩
  clear o31 o32 i31 i32 e31 e32
  have b1 : ((d.outs.length : Int) == (d.outs.length : Int)) = true := by simp
  have b2 : ((d.ins.length : Int) == (d.ins.length : Int)) = true := by simp
  have b3 : ((d.env.length : Int) == (d.env.length : Int)) = true := by simp
  have b4 : (d.sys.toList == d.sys.toList) = true := by simp
  have b5 : (d.bld.toList == d.bld.toList) = true := by simp
  have r1_0 := (HR1.out _ (Below.refl w0.heap.size w0)).cell 0 |>.trans (rfl : _ = some (Value.slice oa1 d.outs.length oc1))
  have r1_1 := (HR1.out _ (Below.refl w0.heap.size w0)).cell 1 |>.trans (rfl : _ = some (Value.slice ia1 d.ins.length ic1))
  have r1_2 := (HR1.out _ (Below.refl w0.heap.size w0)).cell 2 |>.trans (rfl : _ = some (Value.slice sa1 d.srcs.length sc1))
  have r1_3 := (HR1.out _ (Below.refl w0.heap.size w0)).cell 3 |>.trans (rfl : _ = some (Value.string d.sys))
  have r1_4 := (HR1.out _ (Below.refl w0.heap.size w0)).cell 4 |>.trans (rfl : _ = some (Value.string d.bld))
  have r1_5 := (HR1.out _ (Below.refl w0.heap.size w0)).cell 5 |>.trans (rfl : _ = some (Value.slice aa1 d.args.length ac1))
  have r1_6 := (HR1.out _ (Below.refl w0.heap.size w0)).cell 6 |>.trans (rfl : _ = some (Value.slice ea1 d.env.length ec1))
  have r2_0 := (HR2.out _ (Below.refl w0.heap.size w0)).cell 0 |>.trans (rfl : _ = some (Value.slice oa2 d.outs.length oc2))
  have r2_1 := (HR2.out _ (Below.refl w0.heap.size w0)).cell 1 |>.trans (rfl : _ = some (Value.slice ia2 d.ins.length ic2))
  have r2_2 := (HR2.out _ (Below.refl w0.heap.size w0)).cell 2 |>.trans (rfl : _ = some (Value.slice sa2 d.srcs.length sc2))
  have r2_3 := (HR2.out _ (Below.refl w0.heap.size w0)).cell 3 |>.trans (rfl : _ = some (Value.string d.sys))
  have r2_4 := (HR2.out _ (Below.refl w0.heap.size w0)).cell 4 |>.trans (rfl : _ = some (Value.string d.bld))
  have r2_5 := (HR2.out _ (Below.refl w0.heap.size w0)).cell 5 |>.trans (rfl : _ = some (Value.slice aa2 d.args.length ac2))
  have r2_6 := (HR2.out _ (Below.refl w0.heap.size w0)).cell 6 |>.trans (rfl : _ = some (Value.slice ea2 d.env.length ec2))
  have HT1 := texts_ok d.srcs _ _ w0 (HS1.out.keep HB0.out) (HS2.out.keep HB0.out)
  go_enter Tryd.func13, Tryd.ntmps13
  go_wp2_with fail
  rw [← hw0]
  refine Calls.mono HT1 ?_
  rintro e w1 ⟨rfl, hb1⟩
  have HB1 : Hid (Below w0.heap.size w0 w1) := hb1
  have HT2 := texts_ok d.args _ _ w1 (HA1.out.keep (below_next HB0.out hb1)) (HA2.out.keep (below_next HB0.out hb1))
  clear hw0 HT1 hb1 r1_0 r1_1 r1_2 r1_3 r1_4 r1_5 r1_6 r2_0 r2_1 r2_2 r2_3 r2_4 r2_5 r2_6
  have r1_0 := (HR1.out _ HB1.out).cell 0 |>.trans (rfl : _ = some (Value.slice oa1 d.outs.length oc1))
  have r1_1 := (HR1.out _ HB1.out).cell 1 |>.trans (rfl : _ = some (Value.slice ia1 d.ins.length ic1))
  have r1_2 := (HR1.out _ HB1.out).cell 2 |>.trans (rfl : _ = some (Value.slice sa1 d.srcs.length sc1))
  have r1_3 := (HR1.out _ HB1.out).cell 3 |>.trans (rfl : _ = some (Value.string d.sys))
  have r1_4 := (HR1.out _ HB1.out).cell 4 |>.trans (rfl : _ = some (Value.string d.bld))
  have r1_5 := (HR1.out _ HB1.out).cell 5 |>.trans (rfl : _ = some (Value.slice aa1 d.args.length ac1))
  have r1_6 := (HR1.out _ HB1.out).cell 6 |>.trans (rfl : _ = some (Value.slice ea1 d.env.length ec1))
  have r2_0 := (HR2.out _ HB1.out).cell 0 |>.trans (rfl : _ = some (Value.slice oa2 d.outs.length oc2))
  have r2_1 := (HR2.out _ HB1.out).cell 1 |>.trans (rfl : _ = some (Value.slice ia2 d.ins.length ic2))
  have r2_2 := (HR2.out _ HB1.out).cell 2 |>.trans (rfl : _ = some (Value.slice sa2 d.srcs.length sc2))
  have r2_3 := (HR2.out _ HB1.out).cell 3 |>.trans (rfl : _ = some (Value.string d.sys))
  have r2_4 := (HR2.out _ HB1.out).cell 4 |>.trans (rfl : _ = some (Value.string d.bld))
  have r2_5 := (HR2.out _ HB1.out).cell 5 |>.trans (rfl : _ = some (Value.slice aa2 d.args.length ac2))
  have r2_6 := (HR2.out _ HB1.out).cell 6 |>.trans (rfl : _ = some (Value.slice ea2 d.env.length ec2))
  go_wp2_with fail
  refine Calls.mono HT2 ?_
  rintro e w2 ⟨rfl, hb2⟩
  have HB2 : Hid (Below w0.heap.size w0 w2) := below_next HB1.out hb2
  clear HT2 hb2 HB1 r1_0 r1_1 r1_2 r1_3 r1_4 r1_5 r1_6 r2_0 r2_1 r2_2 r2_3 r2_4 r2_5 r2_6
  go_wp2
  go_loopw [5] (fun iv wx => ∃ (i : Nat), iv = .int .i64 i ∧ i ≤ d.outs.length ∧ Hid (Below w0.heap.size w0 wx)) (fun iv _ => d.outs.length - (intOf iv).toNat)
  case atStart => exact ⟨0, rfl, by omega, HB2⟩
  case round =>
    clear HB2
    obtain ⟨i, rfl, hi1, HB⟩ := hrel
    have r1_0 := ((HR1.out _ HB.out).cell 0).trans (rfl : _ = some (Value.slice oa1 d.outs.length oc1))
    by_cases hlt : i < d.outs.length
    · have hlt' : (i : Int) < (d.outs.length : Int) := by omega
      obtain ⟨rfl, rfl⟩ := oo.resolve_left (by omega)
      have hBd : Below w0.heap.size w0 wr.drew := HB.out.drew
      obtain ⟨s, hs⟩ : ∃ s, s = d.outs[i] := ⟨_, rfl⟩
      have K1 : Hid (∀ wx, Below w0.heap.size w0 wx → wx.cell? ⟨bo1, fo1 + i * 3, none⟩ = some (.string s.1) ∧ wx.cell? ⟨bo1, fo1 + i * 3 + 1, none⟩ = some (.string s.2.1) ∧ wx.cell? ⟨bo1, fo1 + i * 3 + 2, none⟩ = some (.string s.2.2)) := fun wx hb => by rw [hs]; exact HO1.out wx (below_next HB0.out hb) i hlt
      have K2 : Hid (∀ wx, Below w0.heap.size w0 wx → wx.cell? ⟨bo2, fo2 + i * 3, none⟩ = some (.string s.1) ∧ wx.cell? ⟨bo2, fo2 + i * 3 + 1, none⟩ = some (.string s.2.1) ∧ wx.cell? ⟨bo2, fo2 + i * 3 + 2, none⟩ = some (.string s.2.2)) := fun wx hb => by rw [hs]; exact HO2.out wx (below_next HB0.out hb) i hlt
      clear hs
      go_wp2_with fail
      refine wp_region_mix [false, false, false, false, false, false, false, false, false, false, false] (fun wx => Below w0.heap.size w0 wx) (by kernel_rfl) (by kernel_rfl) hBd ?_
      refine m_value ?_ (by rfl) (fun w hw => ?_) ?_
      rotate_left
      · go_simp
        with_reducible rfl
      simp only [Act.put, List.setIfInBounds_toArray, List.set_cons_zero, List.set_cons_succ]
      refine m_value ?_ (by rfl) (fun w hw => ?_) ?_
      rotate_left
      · have c := ((HR1.out _ hw).cell 0).trans (rfl : _ = some (Value.slice (some ⟨bo1, fo1, none⟩) d.outs.length oc1))
        go_simp
        with_reducible rfl
      simp only [Act.put, List.setIfInBounds_toArray, List.set_cons_zero, List.set_cons_succ]
      refine m_move _ rfl (by rfl) ?_
      simp only [Act.put, List.setIfInBounds_toArray, List.set_cons_zero, List.set_cons_succ]
      refine m_value ?_ (by rfl) (fun w hw => ?_) ?_
      rotate_left
      · go_simp
        with_reducible rfl
      simp only [Act.put, List.setIfInBounds_toArray, List.set_cons_zero, List.set_cons_succ]
      refine m_value ?_ (by rfl) (fun w hw => ?_) ?_
      rotate_left
      · obtain ⟨y0, y1, y2⟩ := K1.out _ hw
        go_simp
        with_reducible rfl
      simp only [Act.put, List.setIfInBounds_toArray, List.set_cons_zero, List.set_cons_succ]
      refine m_value ?_ (by rfl) (fun w hw => ?_) ?_
      rotate_left
      · go_simp
        with_reducible rfl
      simp only [Act.put, List.setIfInBounds_toArray, List.set_cons_zero, List.set_cons_succ]
      refine m_value ?_ (by rfl) (fun w hw => ?_) ?_
      rotate_left
      · have c := ((HR2.out _ hw).cell 0).trans (rfl : _ = some (Value.slice (some ⟨bo2, fo2, none⟩) d.outs.length oc2))
        go_simp
        with_reducible rfl
      simp only [Act.put, List.setIfInBounds_toArray, List.set_cons_zero, List.set_cons_succ]
      refine m_move _ rfl (by rfl) ?_
      simp only [Act.put, List.setIfInBounds_toArray, List.set_cons_zero, List.set_cons_succ]
      refine m_value ?_ (by rfl) (fun w hw => ?_) ?_
      rotate_left
      · go_simp
        with_reducible rfl
      simp only [Act.put, List.setIfInBounds_toArray, List.set_cons_zero, List.set_cons_succ]
      refine m_value ?_ (by rfl) (fun w hw => ?_) ?_
      rotate_left
      · obtain ⟨y0, y1, y2⟩ := K2.out _ hw
        go_simp
        with_reducible rfl
      simp only [Act.put, List.setIfInBounds_toArray, List.set_cons_zero, List.set_cons_succ]
      refine m_value (.bool false) (by rfl) (fun w hw => ?_) ?_
      · go_simp
      simp only [Act.put, List.setIfInBounds_toArray, List.set_cons_zero, List.set_cons_succ]
      refine m_done ?_
      try simp only [Exit.then]
      have HBd : Hid _ := hBd
      clear hBd
      go_wp2
      go_roundw
      case rel => exact ⟨i + 1, by go_num, by omega, HBd⟩
      case measure => simp [intOf]; omega
    · have hlt' : ¬ (i : Int) < (d.outs.length : Int) := by omega
      obtain ⟨wE, rfl⟩ : ∃ x, x = wr := ⟨wr, rfl⟩
      go_wp2
      go_loopw [6] (fun iv wx => ∃ (i : Nat), iv = .int .i64 i ∧ i ≤ d.ins.length ∧ Hid (Below w0.heap.size w0 wx)) (fun iv _ => d.ins.length - (intOf iv).toNat)
      case atStart => exact ⟨0, rfl, by omega, HB⟩
      case round =>
        clear HB r1_0 hlt hlt' hi1
        obtain ⟨i, rfl, hi1, HB⟩ := hrel
        have r1_1 := ((HR1.out _ HB.out).cell 1).trans (rfl : _ = some (Value.slice ia1 d.ins.length ic1))
        by_cases hlt : i < d.ins.length
        · have hlt' : (i : Int) < (d.ins.length : Int) := by omega
          obtain ⟨rfl, rfl⟩ := ii.resolve_left (by omega)
          have hBd : Below w0.heap.size w0 wr.drew := HB.out.drew
          obtain ⟨n1, k10, k11, hn1⟩ := HI1.out wr.drew (below_next HB0.out hBd) i hlt
          obtain ⟨n2, k20, k21, hn2⟩ := HI2.out wr.drew (below_next HB0.out hBd) i hlt
          have HTX := texts_ok d.ins[i].2 n1 n2 wr.drew hn1 hn2
          have K1 : Hid (∀ wx, Below wr.drew.heap.size wr.drew wx → wx.cell? ⟨bi1, fi1 + i * 2, none⟩ = some (.string d.ins[i].1) ∧ wx.cell? ⟨bi1, fi1 + i * 2 + 1, none⟩ = some n1) := fun wx hb => ⟨(World.cell?_of_block (w := wr.drew) (hb.block bi1 (World.block_lt_of_cell? _ _ k10))).trans k10, (World.cell?_of_block (w := wr.drew) (hb.block bi1 (World.block_lt_of_cell? _ _ k11))).trans k11⟩
          have K2 : Hid (∀ wx, Below wr.drew.heap.size wr.drew wx → wx.cell? ⟨bi2, fi2 + i * 2, none⟩ = some (.string d.ins[i].1) ∧ wx.cell? ⟨bi2, fi2 + i * 2 + 1, none⟩ = some n2) := fun wx hb => ⟨(World.cell?_of_block (w := wr.drew) (hb.block bi2 (World.block_lt_of_cell? _ _ k20))).trans k20, (World.cell?_of_block (w := wr.drew) (hb.block bi2 (World.block_lt_of_cell? _ _ k21))).trans k21⟩
          obtain ⟨na1, nc1, rfl, _⟩ := hn1.shape
          obtain ⟨na2, nc2, rfl, _⟩ := hn2.shape
          have HBD : Hid (Below w0.heap.size w0 wr.drew) := hBd
          clear hn1 hn2 k10 k11 k20 k21 hBd
          generalize d.ins[i].2.length = nl at *
          generalize d.ins[i].1 = pt at *
          go_wp2_with fail
          refine wp_region_mix [false, false, false, false, false, false, false, false, false, false, false, false, false, false, false, false, false, false, false, false, false, false, false, false, false, false, true, false, false] (fun wx => Below wr.drew.heap.size wr.drew wx) (by kernel_rfl) (by kernel_rfl) (Below.refl _ _) ?_
          refine m_value ?_ (by rfl) (fun w hw => ?_) ?_
          rotate_left
          · go_simp
            with_reducible rfl
          simp only [Act.put, List.setIfInBounds_toArray, List.set_cons_zero, List.set_cons_succ]
          refine m_value ?_ (by rfl) (fun w hw => ?_) ?_
          rotate_left
          · have c := ((HR1.out _ (below_next HBD.out hw)).cell 1).trans (rfl : _ = some (Value.slice (some ⟨bi1, fi1, none⟩) d.ins.length ic1))
            go_simp
            with_reducible rfl
          simp only [Act.put, List.setIfInBounds_toArray, List.set_cons_zero, List.set_cons_succ]
          refine m_move _ rfl (by rfl) ?_
          simp only [Act.put, List.setIfInBounds_toArray, List.set_cons_zero, List.set_cons_succ]
          refine m_value ?_ (by rfl) (fun w hw => ?_) ?_
          rotate_left
          · go_simp
            with_reducible rfl
          simp only [Act.put, List.setIfInBounds_toArray, List.set_cons_zero, List.set_cons_succ]
          refine m_value ?_ (by rfl) (fun w hw => ?_) ?_
          rotate_left
          · go_simp
            with_reducible rfl
          simp only [Act.put, List.setIfInBounds_toArray, List.set_cons_zero, List.set_cons_succ]
          refine m_value ?_ (by rfl) (fun w hw => ?_) ?_
          rotate_left
          · obtain ⟨y0, y1⟩ := K1.out _ hw
            go_simp
            with_reducible rfl
          simp only [Act.put, List.setIfInBounds_toArray, List.set_cons_zero, List.set_cons_succ]
          refine m_value ?_ (by rfl) (fun w hw => ?_) ?_
          rotate_left
          · go_simp
            with_reducible rfl
          simp only [Act.put, List.setIfInBounds_toArray, List.set_cons_zero, List.set_cons_succ]
          refine m_value ?_ (by rfl) (fun w hw => ?_) ?_
          rotate_left
          · have c := ((HR2.out _ (below_next HBD.out hw)).cell 1).trans (rfl : _ = some (Value.slice (some ⟨bi2, fi2, none⟩) d.ins.length ic2))
            go_simp
            with_reducible rfl
          simp only [Act.put, List.setIfInBounds_toArray, List.set_cons_zero, List.set_cons_succ]
          refine m_move _ rfl (by rfl) ?_
          simp only [Act.put, List.setIfInBounds_toArray, List.set_cons_zero, List.set_cons_succ]
          refine m_value ?_ (by rfl) (fun w hw => ?_) ?_
          rotate_left
          · go_simp
            with_reducible rfl
          simp only [Act.put, List.setIfInBounds_toArray, List.set_cons_zero, List.set_cons_succ]
          refine m_value ?_ (by rfl) (fun w hw => ?_) ?_
          rotate_left
          · go_simp
            with_reducible rfl
          simp only [Act.put, List.setIfInBounds_toArray, List.set_cons_zero, List.set_cons_succ]
          refine m_value ?_ (by rfl) (fun w hw => ?_) ?_
          rotate_left
          · obtain ⟨y0, y1⟩ := K2.out _ hw
            go_simp
            with_reducible rfl
          simp only [Act.put, List.setIfInBounds_toArray, List.set_cons_zero, List.set_cons_succ]
          refine m_value ?_ (by rfl) (fun w hw => ?_) ?_
          rotate_left
          · go_simp
            with_reducible rfl
          simp only [Act.put, List.setIfInBounds_toArray, List.set_cons_zero, List.set_cons_succ]
          refine m_move _ rfl (by rfl) ?_
          simp only [Act.put, List.setIfInBounds_toArray, List.set_cons_zero, List.set_cons_succ]
          refine m_value ?_ (by rfl) (fun w hw => ?_) ?_
          rotate_left
          · go_simp
            with_reducible rfl
          simp only [Act.put, List.setIfInBounds_toArray, List.set_cons_zero, List.set_cons_succ]
          refine m_value ?_ (by rfl) (fun w hw => ?_) ?_
          rotate_left
          · have c := ((HR1.out _ (below_next HBD.out hw)).cell 1).trans (rfl : _ = some (Value.slice (some ⟨bi1, fi1, none⟩) d.ins.length ic1))
            go_simp
            with_reducible rfl
          simp only [Act.put, List.setIfInBounds_toArray, List.set_cons_zero, List.set_cons_succ]
          refine m_move _ rfl (by rfl) ?_
          simp only [Act.put, List.setIfInBounds_toArray, List.set_cons_zero, List.set_cons_succ]
          refine m_value ?_ (by rfl) (fun w hw => ?_) ?_
          rotate_left
          · go_simp
            with_reducible rfl
          simp only [Act.put, List.setIfInBounds_toArray, List.set_cons_zero, List.set_cons_succ]
          refine m_value ?_ (by rfl) (fun w hw => ?_) ?_
          rotate_left
          · go_simp
            with_reducible rfl
          simp only [Act.put, List.setIfInBounds_toArray, List.set_cons_zero, List.set_cons_succ]
          refine m_value ?_ (by rfl) (fun w hw => ?_) ?_
          rotate_left
          · obtain ⟨y0, y1⟩ := K1.out _ hw
            go_simp
            with_reducible rfl
          simp only [Act.put, List.setIfInBounds_toArray, List.set_cons_zero, List.set_cons_succ]
          refine m_value ?_ (by rfl) (fun w hw => ?_) ?_
          rotate_left
          · go_simp
            with_reducible rfl
          simp only [Act.put, List.setIfInBounds_toArray, List.set_cons_zero, List.set_cons_succ]
          refine m_value ?_ (by rfl) (fun w hw => ?_) ?_
          rotate_left
          · have c := ((HR2.out _ (below_next HBD.out hw)).cell 1).trans (rfl : _ = some (Value.slice (some ⟨bi2, fi2, none⟩) d.ins.length ic2))
            go_simp
            with_reducible rfl
          simp only [Act.put, List.setIfInBounds_toArray, List.set_cons_zero, List.set_cons_succ]
          refine m_move _ rfl (by rfl) ?_
          simp only [Act.put, List.setIfInBounds_toArray, List.set_cons_zero, List.set_cons_succ]
          refine m_value ?_ (by rfl) (fun w hw => ?_) ?_
          rotate_left
          · go_simp
            with_reducible rfl
          simp only [Act.put, List.setIfInBounds_toArray, List.set_cons_zero, List.set_cons_succ]
          refine m_value ?_ (by rfl) (fun w hw => ?_) ?_
          rotate_left
          · go_simp
            with_reducible rfl
          simp only [Act.put, List.setIfInBounds_toArray, List.set_cons_zero, List.set_cons_succ]
          refine m_value ?_ (by rfl) (fun w hw => ?_) ?_
          rotate_left
          · obtain ⟨y0, y1⟩ := K2.out _ hw
            go_simp
            with_reducible rfl
          simp only [Act.put, List.setIfInBounds_toArray, List.set_cons_zero, List.set_cons_succ]
          refine m_call (by rfl) 24 #[.slice na1 nl nc1, .slice na2 nl nc2] (by go_simp) (HTX.mono ?_)
          rintro e w5 ⟨rfl, hb5⟩
          refine ⟨_, rfl, hb5, ?_⟩
          simp only [Act.put, List.setIfInBounds_toArray, List.set_cons_zero, List.set_cons_succ]
          refine m_value ?_ (by rfl) (fun w hw => ?_) ?_
          rotate_left
          · go_simp
            with_reducible rfl
          simp only [Act.put, List.setIfInBounds_toArray, List.set_cons_zero, List.set_cons_succ]
          refine m_value ?_ (by rfl) (fun w hw => ?_) ?_
          rotate_left
          · go_simp
            with_reducible rfl
          simp only [Act.put, List.setIfInBounds_toArray, List.set_cons_zero, List.set_cons_succ]
          refine m_done ?_
          try simp only [Exit.then]
          have HB5 : Hid (Below w0.heap.size w0 w5) := below_next HBD.out hb5
          clear hb5 HBD HTX
          go_wp2
          go_roundw
          case rel => exact ⟨i + 1, by go_num, by omega, HB5⟩
          case measure => simp [intOf]; omega
        · have hlt' : ¬ (i : Int) < (d.ins.length : Int) := by omega
          obtain ⟨wF, rfl⟩ : ∃ x, x = wr := ⟨wr, rfl⟩
          go_wp2
          go_loopw [7] (fun iv wx => ∃ (i : Nat), iv = .int .i64 i ∧ i ≤ d.env.length ∧ Hid (Below w0.heap.size w0 wx)) (fun iv _ => d.env.length - (intOf iv).toNat)
          case atStart => exact ⟨0, rfl, by omega, HB⟩
          case round =>
            clear HB r1_1 hlt hlt' hi1
            obtain ⟨i, rfl, hi1, HB⟩ := hrel
            have r1_6 := ((HR1.out _ HB.out).cell 6).trans (rfl : _ = some (Value.slice ea1 d.env.length ec1))
            by_cases hlt : i < d.env.length
            · have hlt' : (i : Int) < (d.env.length : Int) := by omega
              obtain ⟨rfl, rfl⟩ := ee.resolve_left (by omega)
              have hBd : Below w0.heap.size w0 wr.drew := HB.out.drew
              obtain ⟨s, hs⟩ : ∃ s, s = d.env[i] := ⟨_, rfl⟩
              have K1 : Hid (∀ wx, Below w0.heap.size w0 wx → wx.cell? ⟨be1, fe1 + i * 2, none⟩ = some (.string s.1) ∧ wx.cell? ⟨be1, fe1 + i * 2 + 1, none⟩ = some (.string s.2)) := fun wx hb => by rw [hs]; exact HE1.out wx (below_next HB0.out hb) i hlt
              have K2 : Hid (∀ wx, Below w0.heap.size w0 wx → wx.cell? ⟨be2, fe2 + i * 2, none⟩ = some (.string s.1) ∧ wx.cell? ⟨be2, fe2 + i * 2 + 1, none⟩ = some (.string s.2)) := fun wx hb => by rw [hs]; exact HE2.out wx (below_next HB0.out hb) i hlt
              clear hs
              go_wp2_with fail
              refine wp_region_mix [false, false, false, false, false, false, false, false, false, false, false] (fun wx => Below w0.heap.size w0 wx) (by kernel_rfl) (by kernel_rfl) hBd ?_
              refine m_value ?_ (by rfl) (fun w hw => ?_) ?_
              rotate_left
              · go_simp
                with_reducible rfl
              simp only [Act.put, List.setIfInBounds_toArray, List.set_cons_zero, List.set_cons_succ]
              refine m_value ?_ (by rfl) (fun w hw => ?_) ?_
              rotate_left
              · have c := ((HR1.out _ hw).cell 6).trans (rfl : _ = some (Value.slice (some ⟨be1, fe1, none⟩) d.env.length ec1))
                go_simp
                with_reducible rfl
              simp only [Act.put, List.setIfInBounds_toArray, List.set_cons_zero, List.set_cons_succ]
              refine m_move _ rfl (by rfl) ?_
              simp only [Act.put, List.setIfInBounds_toArray, List.set_cons_zero, List.set_cons_succ]
              refine m_value ?_ (by rfl) (fun w hw => ?_) ?_
              rotate_left
              · go_simp
                with_reducible rfl
              simp only [Act.put, List.setIfInBounds_toArray, List.set_cons_zero, List.set_cons_succ]
              refine m_value ?_ (by rfl) (fun w hw => ?_) ?_
              rotate_left
              · obtain ⟨y0, y1⟩ := K1.out _ hw
                go_simp
                with_reducible rfl
              simp only [Act.put, List.setIfInBounds_toArray, List.set_cons_zero, List.set_cons_succ]
              refine m_value ?_ (by rfl) (fun w hw => ?_) ?_
              rotate_left
              · go_simp
                with_reducible rfl
              simp only [Act.put, List.setIfInBounds_toArray, List.set_cons_zero, List.set_cons_succ]
              refine m_value ?_ (by rfl) (fun w hw => ?_) ?_
              rotate_left
              · have c := ((HR2.out _ hw).cell 6).trans (rfl : _ = some (Value.slice (some ⟨be2, fe2, none⟩) d.env.length ec2))
                go_simp
                with_reducible rfl
              simp only [Act.put, List.setIfInBounds_toArray, List.set_cons_zero, List.set_cons_succ]
              refine m_move _ rfl (by rfl) ?_
              simp only [Act.put, List.setIfInBounds_toArray, List.set_cons_zero, List.set_cons_succ]
              refine m_value ?_ (by rfl) (fun w hw => ?_) ?_
              rotate_left
              · go_simp
                with_reducible rfl
              simp only [Act.put, List.setIfInBounds_toArray, List.set_cons_zero, List.set_cons_succ]
              refine m_value ?_ (by rfl) (fun w hw => ?_) ?_
              rotate_left
              · obtain ⟨y0, y1⟩ := K2.out _ hw
                go_simp
                with_reducible rfl
              simp only [Act.put, List.setIfInBounds_toArray, List.set_cons_zero, List.set_cons_succ]
              refine m_value (.bool false) (by rfl) (fun w hw => ?_) ?_
              · go_simp
              simp only [Act.put, List.setIfInBounds_toArray, List.set_cons_zero, List.set_cons_succ]
              refine m_done ?_
              try simp only [Exit.then]
              have HBd : Hid _ := hBd
              clear hBd
              go_wp2
              go_roundw
              case rel => exact ⟨i + 1, by go_num, by omega, HBd⟩
              case measure => simp [intOf]; omega
            · have hlt' : ¬ (i : Int) < (d.env.length : Int) := by omega
              have HBE : Hid (Below w.heap.size w wr) := below_next HB0.out HB.out
              go_wp2
              go_ret
              exact ⟨rfl, HBE.out⟩
end Go.Proofs.YtmpgfepkdhjibaaDoor
