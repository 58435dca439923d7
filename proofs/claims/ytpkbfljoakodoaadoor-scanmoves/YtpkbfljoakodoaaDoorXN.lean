/- My own work: the walk of replaced. My own work: a node that may be has as many names as nodes, everywhere. -/
import Derived.Test.YtpkbfljoakodoaaDoorXD
import Derived.Test.YtpkbfljoakodoaaDoorPLib
import Derived.Test.YtpkbfljoakodoaaDoorDag2
import Derived.Deep.DeepCutAuto
import Derived.Test.YtpkbfljoakodoaaDoorCensus
namespace Go.Proofs.YtpkbfljoakodoaaDoor
open Go.RowKit
open S2 (bl bl_len bl_inj)

theorem rp_slice {w : World} {base n s : Nat} {e : TypeId} {v : Value} {xs : List Value} (h : w.ownsRow base e s v n xs) : ∃ a c, v = .slice a n c := by
  obtain ⟨_, ⟨h1, h2⟩ | ⟨g, c, cur, h1, _⟩⟩ := h
  · exact ⟨none, 0, by rw [h1, h2]⟩
  · exact ⟨_, c, h1⟩
theorem resultsRp : Tryd.f33.results = #[.cell 6 26] := by kernel_rfl
theorem rp_lit {n : Nd} {C' : Array Value} {wn : World} (h : NodeAt wn n C') : ∃ k e da dl dc na nl nc ka kl kc, C' = nodeV k e da dl dc na nl nc ka kl kc := by
  cases h
  exact ⟨_, _, _, _, _, _, _, _, _, _, _, rfl⟩
theorem d_store5 {md : Region.Mode} {ops : Array Oper} {S : World → Prop} {Q : Act → World → Prop} {a : Act} {w : World} {o : Oper} {i fuel : Nat} {listed : Array Bool} (x y : Operand) (hi : ops[i]? = some o) (hw : Region.wanted o (yielded ops a.tmps) = true) (ho : o.op = .store 26 x y) (hd : o.dst = none) (g : Nat) (hx : a.eval x = .pointer (some ⟨g, 0, none⟩)) (C : Array Value) (hC : C.size = 5) (hy : a.eval y = .agg C) (Z : Array Value) (hr : Row w g Z 26) (hZ : Z.size = 5) (h1 : C.all (·.oneCell') = true)
    (hS : S (w.setRow g C)) (k : wpAnyH Tryd.prog md ops (Only Q) S fuel (listed.setIfInBounds i true) a (w.setRow g C)) : DOp Tryd.prog md ops Q S fuel listed i a w :=
  d_wp hi hw (wp_store_row 26 x y ho g C hx hy 26 Z hr (by rw [infoN, hC]) (by rw [hZ, hC]) h1 (by rw [hd]; exact ⟨hS, k⟩))
theorem RpL.done' {w0 w : World} {r : List UInt8} {ns : List ByteArray} {k : Int} {e : Bool} {ks : List Nd} {g m i : Nat} {Cs : Nat → Array Value} {a12 a16 ka : Option Addr} {l12 c12 c16 kc : Nat} (h : RpL w0 r ns k e ks g (.slice a12 l12 c12) (.slice a16 m c16) m i (.slice ka i kc) Cs w) (hm : m = ns.length) (hi : i = ks.length) (hk : -9223372036854775808 ≤ k ∧ k ≤ 9223372036854775807) (hne : ∀ s ∈ ns, s.size ≤ big) (hd4 : r.length ≤ big) (hn4 : ns.length * 16 ≤ big) :
    NodeOn w (fun b => w0.heap.size ≤ b ∧ b < w.heap.size) (.mk k e ⟨r.toArray⟩ ns ks) (nodeV k e a12 l12 c12 a16 m c16 ka i kc) := by
  subst hm hi
  exact h.done hk hne hd4 hn4
/-- What replaced answers. -/
def RpPost (o y : List UInt8) (n : Nd) (w : World) (e : Ending) (w' : World) : Prop := ∃ C', e = .returned (.agg C') ∧ NodeOn w' (fun b => w.heap.size ≤ b ∧ b < w'.heap.size) (rpN o y n) C' ∧ Below w.heap.size w w'
set_option maxRecDepth 20000 in
set_option maxHeartbeats 8000000 in
theorem replaced_step (old young : List UInt8) (ho : old.length = 32) (hy : young.length = 32) (v1 v2 : Value) (N : Nat) (IH : ∀ n : Nd, n.count ≤ N → n.count ≤ 16000 → sqN n → ∀ (w : World) (C : Array Value), NodeAt w n C → BsAt w v1 old → BsAt w v2 young → MxTab w → Calls Tryd.prog 33 #[.agg C, v1, v2] w (RpPost old young n w))
    (n : Nd) (hN : n.count ≤ N + 1) (h6 : n.count ≤ 16000) (hq : sqN n) (w : World) (C : Array Value) (h : NodeAt w n C) (hv1 : BsAt w v1 old) (hv2 : BsAt w v2 young) (hm : MxTab w) : Calls Tryd.prog 33 #[.agg C, v1, v2] w (RpPost old young n w) := by
  cases h with
  | @mk k e dt ns ks da dc na nc ka kb koff kc Cs hk hdt hn hks each =>
  have hb0 : Below w.heap.size w (w.alloc (.cells (nodeV k e da dt.size dc na ns.length nc ka ks.length kc) 26)) := (Below.refl _ _).alloc (Nat.le_refl _) _
  have hb1 : Below w.heap.size w ((w.alloc (.cells (nodeV k e da dt.size dc na ns.length nc ka ks.length kc) 26)).alloc (.cells (nodeV 0 false none 0 0 none 0 0 none 0 0) 26)) := hb0.alloc hb0.size _
  have HR : Hid _ := (Row.new w (nodeV k e da dt.size dc na ns.length nc ka ks.length kc) 26).alloc (.cells (nodeV 0 false none 0 0 none 0 0 none 0 0) 26)
  have HR2 : Hid _ := Row.new (w.alloc (.cells (nodeV k e da dt.size dc na ns.length nc ka ks.length kc) 26)) (nodeV 0 false none 0 0 none 0 0 none 0 0) 26
  simp only [sqN] at hq
  have hd4 := hdt.len
  have hn4 := hn.len
  have HNE : Hid _ := hn.each
  unfold big at hd4 hn4
  have HV1 : Hid (∀ wx, Below w.heap.size w wx → BsAt wx v1 old) := fun wx hb => hv1.keep hb
  have HV2 : Hid (∀ wx, Below w.heap.size w wx → BsAt wx v2 young) := fun wx hb => hv2.keep hb
  have HM : Hid (∀ wx, Below w.heap.size w wx → MxTab wx) := fun wx hb => hm.keep hb
  have HRA0 : Hid (∀ wx, Below w.heap.size w wx → Calls Tryd.prog 51 #[.slice da dt.size dc, v1, v2] wx (BrPost wx (rpl old young (bl dt)))) := fun wx hb =>
    breplaceAll_ok _ v1 v2 (bl dt) old young wx (BsAt.of_bytes (hdt.keep hb)) (hv1.keep hb) (hv2.keep hb) ho hy (by rw [bl_len]; exact hq.2.1) (hm.keep hb)
  have HN0 : Hid (∀ w', Below w.heap.size w w' → StrsAt w' na ns nc) := fun w' hb => hn.keep hb
  have HK : Hid (∀ w', Below w.heap.size w w' → KidsAt w' ka kb koff ks.length kc Cs) := fun w' hb => hks.keep hb
  have HE : Hid (∀ w', Below w.heap.size w w' → ∀ i (h : i < ks.length), NodeAt w' ks[i] (Cs i)) := fun w' hb i h => (each i h).keep hb
  have hcap := hks.cap
  have hle := hks.le
  have hat := hks.at'
  unfold maxLen at hcap
  have HN : Hid _ := hN
  have HNK : Hid _ := hq.1
  have HQ : Hid _ := hq.2.2
  have H6 : Hid (Nd.countL ks ≤ 16000) := by simp only [Nd.count] at h6; show _ ≤ _; omega
  have HKL : Hid (ks.length ≤ 16000) := by have := Nd.countL_len ks; have := H6.out; show _ ≤ _; omega
  have HIH : Hid _ := IH
  have HKK : Hid _ := hk
  have hml : maxLen = 9223372036854775807 := rfl
  obtain ⟨av1, cv1, rfl⟩ : ∃ a c, v1 = .slice a 32 c := by obtain ⟨a, b, off, c, h1, _⟩ := hv1.ex; rw [ho] at h1; exact ⟨a, c, h1⟩
  obtain ⟨av2, cv2, rfl⟩ : ∃ a c, v2 = .slice a 32 c := by obtain ⟨a, b, off, c, h1, _⟩ := hv2.ex; rw [hy] at h1; exact ⟨a, c, h1⟩
  clear hks each hdt hn hN IH hk h6 hv1 hv2 hm hq
  go_enter Tryd.func33, Tryd.ntmps33
  generalize hwA : (w.alloc (.cells (nodeV k e da dt.size dc na ns.length nc ka ks.length kc) 26)).alloc (.cells (nodeV 0 false none 0 0 none 0 0 none 0 0) 26) = wA at *
  have HRA : Hid (∀ wx, Below wA.heap.size wA wx → _) := fun wx hb => HRA0.out wx (hb1.trans (hb.mono hb1.size))
  have HC0 : Hid (∀ wx, Below wA.heap.size wA wx → Row wx w.heap.size (nodeV k e da dt.size dc na ns.length nc ka ks.length kc) 26) := fun wx hb => Row.below HR.out hb (Row.lt HR.out)
  go_upto_region 1 with fail
  go_cut [7] (fun v7 wx => ∃ g a12 c12, v7 = .pointer (some ⟨g, 0, none⟩) ∧ Hid (RpL wA (rpl old young (bl dt)) ns k e (rpNL old young ks) g (.slice a12 (rpl old young (bl dt)).length c12) (.slice none 0 0) 0 0 (.slice none 0 0) (fun _ => #[]) wx))
  case first =>
    have hBd : Below wA.heap.size wA wA.drew := (Below.refl _ _).drew
    refine wp_region_dag [(false, 0), (false, 1), (false, 2), (false, 3), (false, 4), (false, 5), (false, 6), (false, 7)] #[true, true, true, true, true, true, true, true, false, false, false, false] 4 (fun wx => Below wA.heap.size wA wx) (by kernel_rfl) (by kernel_rfl) hBd ?_
    refine a_value (some 10) ?_ rfl rfl (by rfl) (fun w hw => ?_) ?_
    rotate_left
    · go_simp
      with_reducible rfl
    simp only [Act.put, List.setIfInBounds_toArray, List.set_cons_zero, List.set_cons_succ]
    refine a_value (some 11) ?_ rfl rfl (by rfl) (fun w hw => ?_) ?_
    rotate_left
    · have hc := (Row.cell (HC0.out _ hw) 0).trans (rfl : _ = some (Value.int .i64 k))
      go_simp
      with_reducible rfl
    simp only [Act.put, List.setIfInBounds_toArray, List.set_cons_zero, List.set_cons_succ]
    refine a_value (some 12) ?_ rfl rfl (by rfl) (fun w hw => ?_) ?_
    rotate_left
    · go_simp
      with_reducible rfl
    simp only [Act.put, List.setIfInBounds_toArray, List.set_cons_zero, List.set_cons_succ]
    refine a_value (some 13) ?_ rfl rfl (by rfl) (fun w hw => ?_) ?_
    rotate_left
    · have hc := (Row.cell (HC0.out _ hw) 1).trans (rfl : _ = some (Value.bool e))
      go_simp
      with_reducible rfl
    simp only [Act.put, List.setIfInBounds_toArray, List.set_cons_zero, List.set_cons_succ]
    refine a_value (some 14) ?_ rfl rfl (by rfl) (fun w hw => ?_) ?_
    rotate_left
    · go_simp
      with_reducible rfl
    simp only [Act.put, List.setIfInBounds_toArray, List.set_cons_zero, List.set_cons_succ]
    refine a_value (some 15) ?_ rfl rfl (by rfl) (fun w hw => ?_) ?_
    rotate_left
    · have hc := (Row.cell (HC0.out _ hw) 2).trans (rfl : _ = some (Value.slice da dt.size dc))
      go_simp
      with_reducible rfl
    simp only [Act.put, List.setIfInBounds_toArray, List.set_cons_zero, List.set_cons_succ]
    refine a_move (some 16) _ rfl rfl rfl (by rfl) ?_
    simp only [Act.put, List.setIfInBounds_toArray, List.set_cons_zero, List.set_cons_succ]
    refine a_move (some 17) _ rfl rfl rfl (by rfl) ?_
    simp only [Act.put, List.setIfInBounds_toArray, List.set_cons_zero, List.set_cons_succ]
    refine a_done ?_
    have st0 : RpS wA (rpl old young (bl dt)) false false (.int .i64 0) (.int .i64 0) wA.drew := RpS.start hBd
    generalize wA.drew = wx0 at *
    refine d_two (i := 8) (j := 10) (by kernel_rfl) ?_ ?_
    · refine d_call (some 18) rfl rfl (by rfl) 51 #[.slice da dt.size dc, .slice av1 32 cv1, .slice av2 32 cv2] (by go_simp) (Calls.mono (HRA.out _ st0.old) ?_)
      intro er wx1 hp
      obtain ⟨v18, rfl, st1⟩ := st0.a8 hp
      obtain ⟨a12, b12, off12, c12, rfl, _⟩ := st1.dat rfl
      clear hp
      refine ⟨_, rfl, st1.old, ?_⟩
      simp only [Act.put, List.setIfInBounds_toArray, List.set_cons_zero, List.set_cons_succ]
      refine d_two (i := 9) (j := 10) (by kernel_rfl) ?_ ?_
      · refine d_alone (some 19) (.agg #[.int .i64 k, .bool e, .slice a12 (rpl old young (S2.bl dt)).length c12, .slice none 0 0, .slice none 0 0]) wx1 rfl rfl (by rfl) (by kernel_rfl) st1.old ?_
        simp only [Act.put, List.setIfInBounds_toArray, List.set_cons_zero, List.set_cons_succ]
        refine d_one (i := 10) (by kernel_rfl) ?_
        refine d_alone (some 7) (.pointer (some ⟨wx1.heap.size, 0, none⟩)) (wx1.alloc (.cells (nodeV 0 false none 0 0 none 0 0 none 0 0) 26)) rfl rfl (by rfl) (by kernel_rfl) (st1.a10 (nodeV 0 false none 0 0 none 0 0 none 0 0) rfl).old ?_
        have st2 := st1.a10 (nodeV 0 false none 0 0 none 0 0 none 0 0) rfl
        generalize wx1.alloc (.cells (nodeV 0 false none 0 0 none 0 0 none 0 0) 26) = wx2 at *
        simp only [Act.put, List.setIfInBounds_toArray, List.set_cons_zero, List.set_cons_succ]
        refine d_one (i := 11) (by kernel_rfl) ?_
        obtain ⟨g, Z, hg3, hgr, hZ, hL, hbS⟩ := st2.store ns k e (rpNL old young ks)
        cases hg3
        have HL : Hid _ := hL
        refine d_store5 (.tmp 7) (.tmp 19) rfl (by rfl) rfl rfl _ rfl #[.int .i64 k, .bool e, .slice a12 (rpl old young (S2.bl dt)).length c12, .slice none 0 0, .slice none 0 0] rfl rfl Z hgr hZ (nodeV_one _ _ _ _ _ _ _ _ _ _ _) (st2.old.trans hbS) ?_
        clear hL hbS hgr hZ
        refine d_done (by kernel_rfl) ?_
        try simp only [Exit.then]
        go_wp2
        go_meet
        exact ⟨_, _, _, rfl, HL⟩
      · refine d_alone (some 7) (.pointer (some ⟨wx1.heap.size, 0, none⟩)) (wx1.alloc (.cells (nodeV 0 false none 0 0 none 0 0 none 0 0) 26)) rfl rfl (by rfl) (by kernel_rfl) (st1.a10 (nodeV 0 false none 0 0 none 0 0 none 0 0) rfl).old ?_
        have st2 := st1.a10 (nodeV 0 false none 0 0 none 0 0 none 0 0) rfl
        generalize wx1.alloc (.cells (nodeV 0 false none 0 0 none 0 0 none 0 0) 26) = wx2 at *
        simp only [Act.put, List.setIfInBounds_toArray, List.set_cons_zero, List.set_cons_succ]
        refine d_one (i := 9) (by kernel_rfl) ?_
        refine d_alone (some 19) (.agg #[.int .i64 k, .bool e, .slice a12 (rpl old young (S2.bl dt)).length c12, .slice none 0 0, .slice none 0 0]) wx2 rfl rfl (by rfl) (by kernel_rfl) st2.old ?_
        simp only [Act.put, List.setIfInBounds_toArray, List.set_cons_zero, List.set_cons_succ]
        refine d_one (i := 11) (by kernel_rfl) ?_
        obtain ⟨g, Z, hg3, hgr, hZ, hL, hbS⟩ := st2.store ns k e (rpNL old young ks)
        cases hg3
        have HL : Hid _ := hL
        refine d_store5 (.tmp 7) (.tmp 19) rfl (by rfl) rfl rfl _ rfl #[.int .i64 k, .bool e, .slice a12 (rpl old young (S2.bl dt)).length c12, .slice none 0 0, .slice none 0 0] rfl rfl Z hgr hZ (nodeV_one _ _ _ _ _ _ _ _ _ _ _) (st2.old.trans hbS) ?_
        clear hL hbS hgr hZ
        refine d_done (by kernel_rfl) ?_
        try simp only [Exit.then]
        go_wp2
        go_meet
        exact ⟨_, _, _, rfl, HL⟩
    · refine d_alone (some 7) (.pointer (some ⟨wx0.heap.size, 0, none⟩)) (wx0.alloc (.cells (nodeV 0 false none 0 0 none 0 0 none 0 0) 26)) rfl rfl (by rfl) (by kernel_rfl) (st0.a10 (nodeV 0 false none 0 0 none 0 0 none 0 0) rfl).old ?_
      have st1 := st0.a10 (nodeV 0 false none 0 0 none 0 0 none 0 0) rfl
      generalize wx0.alloc (.cells (nodeV 0 false none 0 0 none 0 0 none 0 0) 26) = wx1 at *
      simp only [Act.put, List.setIfInBounds_toArray, List.set_cons_zero, List.set_cons_succ]
      refine d_one (i := 8) (by kernel_rfl) ?_
      refine d_call (some 18) rfl rfl (by rfl) 51 #[.slice da dt.size dc, .slice av1 32 cv1, .slice av2 32 cv2] (by go_simp) (Calls.mono (HRA.out _ st1.old) ?_)
      intro er wx2 hp
      obtain ⟨v18, rfl, st2⟩ := st1.a8 hp
      obtain ⟨a12, b12, off12, c12, rfl, _⟩ := st2.dat rfl
      clear hp
      refine ⟨_, rfl, st2.old, ?_⟩
      simp only [Act.put, List.setIfInBounds_toArray, List.set_cons_zero, List.set_cons_succ]
      refine d_one (i := 9) (by kernel_rfl) ?_
      refine d_alone (some 19) (.agg #[.int .i64 k, .bool e, .slice a12 (rpl old young (S2.bl dt)).length c12, .slice none 0 0, .slice none 0 0]) wx2 rfl rfl (by rfl) (by kernel_rfl) st2.old ?_
      simp only [Act.put, List.setIfInBounds_toArray, List.set_cons_zero, List.set_cons_succ]
      refine d_one (i := 11) (by kernel_rfl) ?_
      obtain ⟨g, Z, hg3, hgr, hZ, hL, hbS⟩ := st2.store ns k e (rpNL old young ks)
      cases hg3
      have HL : Hid _ := hL
      refine d_store5 (.tmp 7) (.tmp 19) rfl (by rfl) rfl rfl _ rfl #[.int .i64 k, .bool e, .slice a12 (rpl old young (S2.bl dt)).length c12, .slice none 0 0, .slice none 0 0] rfl rfl Z hgr hZ (nodeV_one _ _ _ _ _ _ _ _ _ _ _) (st2.old.trans hbS) ?_
      clear hL hbS hgr hZ
      refine d_done (by kernel_rfl) ?_
      try simp only [Exit.then]
      go_wp2
      go_meet
      exact ⟨_, _, _, rfl, HL⟩
  case rest =>
    obtain ⟨g, a12, c12, rfl, HL0⟩ := hcut
    have HBW : Hid (∀ wx, Below wA.heap.size wA wx → Below w.heap.size w wx) := fun wx hb => hb1.trans (hb.mono hb1.size)
    have c3 := (Row.cell (HC0.out wc HL0.out.old) 3).trans (rfl : _ = some (Value.slice na ns.length nc))
    go_wp2
    clear c3
    go_loopw [23] (fun iv wx => ∃ (i : Nat) (v16 kv : Value) (Ks : Nat → Array Value), iv = .int .i64 i ∧ i ≤ ns.length ∧ Hid (RpL wA (rpl old young (bl dt)) ns k e (rpNL old young ks) g (.slice a12 (rpl old young (bl dt)).length c12) v16 i i kv Ks wx)) (fun iv _ => ns.length - (intOf iv).toNat)
    case atStart => exact ⟨0, .slice none 0 0, .slice none 0 0, fun _ => #[], rfl, Nat.zero_le _, HL0⟩
    case round =>
      obtain ⟨i, v16, kv, Ks, rfl, hi, HL⟩ := hrel
      obtain ⟨a16, c16, rfl⟩ := rp_slice HL.out.b16
      obtain ⟨ka2, kc2, rfl⟩ := rp_slice HL.out.kids
      have hkl := HKL.out
      have hnl : ns.length ≤ 16000 := by rw [HNK.out]; exact hkl
      by_cases hlt : i < ns.length
      · have hlt' : (i : Int) < (ns.length : Int) := by omega
        have hltk : i < ks.length := by rw [← HNK.out]; exact hlt
        have hltr : i < (rpNL old young ks).length := by rw [rpNL_length]; exact hltk
        obtain rfl := hat (by omega)
        obtain ⟨nb, noff, hn1, hn3⟩ := (HN0.out wr (HBW.out wr HL.out.old)).ex
        obtain rfl := hn1 (by omega)
        have ct := hn3 i hlt
        have hss : ns[i].size ≤ 140737488355328 := Nat.le_trans (HNE.out _ (List.getElem_mem hlt)) (by unfold big; omega)
        obtain ⟨s, hse⟩ : ∃ s, s = ns[i] := ⟨_, rfl⟩
        rw [← hse] at ct hss
        have HSE : Hid _ := hse
        have HLd : Hid _ := HL.out.keep (w' := wr.drew) (Below.refl _ _).drew
        have hS0 : Row wr.drew g #[.int .i64 k, .bool e, .slice a12 (rpl old young (bl dt)).length c12, .slice a16 i c16, .slice ka2 i kc2] 26 ∧ Below wA.heap.size wA wr.drew := ⟨HLd.out.row, HLd.out.old⟩
        clear HL hn1 hn3 hse
        go_wp2_with fail
        refine wp_region_perm [(false, 0), (false, 1), (false, 2), (true, 3), (true, 4), (true, 5), (false, 6), (true, 7)] (fun wx => Row wx g #[.int .i64 k, .bool e, .slice a12 (rpl old young (bl dt)).length c12, .slice a16 i c16, .slice ka2 i kc2] 26 ∧ Below wA.heap.size wA wx) (by kernel_rfl) (by kernel_rfl) hS0 ?_
        refine p_value (some 28) ?_ rfl rfl (by rfl) (fun w hw => ?_) ?_
        rotate_left
        · go_simp
          with_reducible rfl
        simp only [Act.put, List.setIfInBounds_toArray, List.set_cons_zero, List.set_cons_succ]
        refine p_value (some 29) ?_ rfl rfl (by rfl) (fun w hw => ?_) ?_
        rotate_left
        · have hc := (hw.1.cell 3).trans (rfl : _ = some (Value.slice a16 i c16))
          go_simp
          with_reducible rfl
        simp only [Act.put, List.setIfInBounds_toArray, List.set_cons_zero, List.set_cons_succ]
        refine p_move (some 30) _ rfl rfl rfl (by rfl) ?_
        simp only [Act.put, List.setIfInBounds_toArray, List.set_cons_zero, List.set_cons_succ]
        refine p_call (some 31) rfl rfl (by rfl) 39 #[.string s] (by go_simp) (Calls.mono (S2.clone_ok s _ hss) ?_)
        rintro er w1 ⟨rfl, hbw1⟩
        have hS1 : Row w1 g #[.int .i64 k, .bool e, .slice a12 (rpl old young (bl dt)).length c12, .slice a16 i c16, .slice ka2 i kc2] 26 ∧ Below wA.heap.size wA w1 := ⟨hS0.1.below hbw1 hS0.1.lt, hS0.2.trans (hbw1.mono hS0.2.size)⟩
        refine ⟨_, rfl, fun _ => hS1, ?_⟩
        simp only [Act.put, List.setIfInBounds_toArray, List.set_cons_zero, List.set_cons_succ]
        have hba : Below w1.heap.size w1 (w1.alloc (.cells #[.string s] 9)) := (Below.refl _ _).alloc (Nat.le_refl _) _
        have hS2 : Row (w1.alloc (.cells #[.string s] 9)) g #[.int .i64 k, .bool e, .slice a12 (rpl old young (bl dt)).length c12, .slice a16 i c16, .slice ka2 i kc2] 26 ∧ Below wA.heap.size wA (w1.alloc (.cells #[.string s] 9)) := ⟨hS1.1.below hba hS1.1.lt, hS1.2.trans (hba.mono hS1.2.size)⟩
        refine p_alone (some 32) (.slice (some ⟨w1.heap.size, 0, none⟩) 1 1) (w1.alloc (.cells #[.string s] 9)) rfl rfl (by rfl) (by kernel_rfl) (fun _ => hS2) ?_
        simp only [Act.put, List.setIfInBounds_toArray, List.set_cons_zero, List.set_cons_succ]
        have HL2 := HLd.out.keep (hbw1.trans (hba.mono hbw1.size))
        refine p_wp rfl (by rfl) ?_
        refine wp_append_any (some 33) rfl (.tmp 29) (.tmp 32) 23 9 (.string ⟨#[]⟩) 1 16 Tryd.underlying23 Try.info9 rfl (by decide) rfl wA.heap.size _ i _ rfl HL2.b16 (some ⟨w1.heap.size, 0, none⟩) w1.heap.size 0 1 1 [.string s] (by simp) rfl (fun _ => rfl) (fun j u hj => by
          rw [Nat.zero_add, (Row.new w1 #[.string s] 9).cell j, ← Array.getElem?_toList]
          exact hj) (fun u hu => by rw [List.mem_singleton.1 hu]; rfl) (fun h => nomatch h) (by omega) (by omega) HL2.old.size ?_
        intro v' w3 own' grow' hor'
        rw [HSE.out] at own'
        obtain ⟨hr3, hold3, hadd⟩ := HL2.name hlt own' grow' (hor'.imp id fun h => ⟨_, h, Nat.le_refl _⟩)
        obtain ⟨a17, c17, rfl⟩ := rp_slice own'
        refine ⟨fun _ => ⟨hr3, hold3⟩, ?_⟩
        have HA : Hid _ := hadd
        clear own' grow' hor' hadd HL2 hS2 hba hS1 hbw1 HLd ct
        simp only [Act.put, List.setIfInBounds_toArray, List.set_cons_zero, List.set_cons_succ]
        refine p_value (some 34) ?_ rfl rfl (by rfl) (fun w hw => ?_) ?_
        rotate_left
        · go_simp
          with_reducible rfl
        simp only [Act.put, List.setIfInBounds_toArray, List.set_cons_zero, List.set_cons_succ]
        have q4 := (hr3.cell 3).trans (rfl : _ = some (Value.slice a16 i c16))
        have f4 := hr3.frozen 3
        refine p_store (w3.setCell ⟨g, 3, none⟩ (.slice a17 (i + 1) c17)) rfl rfl (by rfl) (by go_simp) (fun h => absurd rfl h) ?_
        refine p_done ?_
        try simp only [Exit.then]
        clear q4 f4 hr3 hold3 hS0
        generalize w3.setCell ⟨g, 3, none⟩ (.slice a17 (i + 1) c17) = w4 at *
        have hs5 : (Cs i).size = 5 := (HK.out w4 (HBW.out w4 HA.out.old)).size i hltk
        have hsi2 : (Tryd.prog.info? 26).map (·.size) = some (Cs i).toList.length := by rw [infoN, Array.length_toList, hs5]
        have HLd : Hid _ := HA.out.keep (w' := w4.drew) (Below.refl _ _).drew
        have hBd := HBW.out _ HLd.out.old
        have HC : Hid _ := HIH.out ks[i] (Nd.kid_lt HN.out i hltk) (by have := Nd.countL_at ks i hltk; have := H6.out; omega) (sqNL_at ks i hltk HQ.out) w4.drew (Cs i) (HE.out _ hBd i hltk) (HV1.out _ hBd) (HV2.out _ hBd) (HM.out _ hBd)
        have hS0 : Row w4.drew g #[.int .i64 k, .bool e, .slice a12 (rpl old young (bl dt)).length c12, .slice a17 (i + 1) c17, .slice ka2 i kc2] 26 ∧ Below wA.heap.size wA w4.drew := ⟨HLd.out.row, HLd.out.old⟩
        clear HA hBd
        go_wp2_with fail
        refine wp_region_perm [(false, 0), (false, 1), (false, 2), (false, 3), (false, 4), (false, 5), (false, 6), (false, 7), (false, 8), (true, 9), (true, 10), (true, 11), (false, 12), (true, 13)] (fun wx => Row wx g #[.int .i64 k, .bool e, .slice a12 (rpl old young (bl dt)).length c12, .slice a17 (i + 1) c17, .slice ka2 i kc2] 26 ∧ Below wA.heap.size wA wx) (by kernel_rfl) (by kernel_rfl) hS0 ?_
        refine p_value (some 35) ?_ rfl rfl (by rfl) (fun w hw => ?_) ?_
        rotate_left
        · go_simp
          with_reducible rfl
        simp only [Act.put, List.setIfInBounds_toArray, List.set_cons_zero, List.set_cons_succ]
        refine p_value (some 36) ?_ rfl rfl (by rfl) (fun w hw => ?_) ?_
        rotate_left
        · have hc := (hw.1.cell 4).trans (rfl : _ = some (Value.slice ka2 i kc2))
          go_simp
          with_reducible rfl
        simp only [Act.put, List.setIfInBounds_toArray, List.set_cons_zero, List.set_cons_succ]
        refine p_value (some 37) ?_ rfl rfl (by rfl) (fun w hw => ?_) ?_
        rotate_left
        · go_simp
          with_reducible rfl
        simp only [Act.put, List.setIfInBounds_toArray, List.set_cons_zero, List.set_cons_succ]
        refine p_value (some 38) ?_ rfl rfl (by rfl) (fun w hw => ?_) ?_
        rotate_left
        · have hc := (Row.cell (HC0.out _ hw.2) 4).trans (rfl : _ = some (Value.slice (some ⟨kb, koff, none⟩) ks.length kc))
          go_simp
          with_reducible rfl
        simp only [Act.put, List.setIfInBounds_toArray, List.set_cons_zero, List.set_cons_succ]
        refine p_move (some 39) _ rfl rfl rfl (by rfl) ?_
        simp only [Act.put, List.setIfInBounds_toArray, List.set_cons_zero, List.set_cons_succ]
        refine p_value (some 40) ?_ rfl rfl (by rfl) (fun w hw => ?_) ?_
        rotate_left
        · go_simp
          with_reducible rfl
        simp only [Act.put, List.setIfInBounds_toArray, List.set_cons_zero, List.set_cons_succ]
        refine p_load_mid (some 41) 26 _ rfl rfl rfl (by rfl) kb (koff + i * 5) (by go_simp) (Cs i).toList _ (fun wx hw => (HK.out wx (HBW.out wx hw.2)).range i hltk) Tryd.underlying26 rfl hsi2 ?_
        simp only [Array.toArray_toList]
        simp only [Act.put, List.setIfInBounds_toArray, List.set_cons_zero, List.set_cons_succ]
        refine p_move (some 42) _ rfl rfl rfl (by rfl) ?_
        simp only [Act.put, List.setIfInBounds_toArray, List.set_cons_zero, List.set_cons_succ]
        refine p_move (some 43) _ rfl rfl rfl (by rfl) ?_
        simp only [Act.put, List.setIfInBounds_toArray, List.set_cons_zero, List.set_cons_succ]
        refine p_call (some 44) rfl rfl (by rfl) 33 #[.agg (Cs i), .slice av1 32 cv1, .slice av2 32 cv2] (by go_simp) (Calls.mono HC.out ?_)
        rintro er w1 ⟨C', rfl, hn1, hbw1⟩
        rw [← rpNL_at old young ks i hltk hltr] at hn1
        obtain ⟨k', e', da', dl', dc', na', nl', nc', ka', kl', kc', hCl⟩ := rp_lit hn1.at'
        have hC5 : C'.size = 5 := hn1.at'.size
        have hone : C'.all (fun x => x.oneCell') = true := hn1.at'.one
        have hS1 : Row w1 g #[.int .i64 k, .bool e, .slice a12 (rpl old young (bl dt)).length c12, .slice a17 (i + 1) c17, .slice ka2 i kc2] 26 ∧ Below wA.heap.size wA w1 := ⟨hS0.1.below hbw1 hS0.1.lt, hS0.2.trans (hbw1.mono hS0.2.size)⟩
        refine ⟨_, rfl, fun _ => hS1, ?_⟩
        simp only [Act.put, List.setIfInBounds_toArray, List.set_cons_zero, List.set_cons_succ]
        have hba : Below w1.heap.size w1 (w1.alloc (.cells C' 26)) := (Below.refl _ _).alloc (Nat.le_refl _) _
        have hS2 : Row (w1.alloc (.cells C' 26)) g #[.int .i64 k, .bool e, .slice a12 (rpl old young (bl dt)).length c12, .slice a17 (i + 1) c17, .slice ka2 i kc2] 26 ∧ Below wA.heap.size wA (w1.alloc (.cells C' 26)) := ⟨hS1.1.below hba hS1.1.lt, hS1.2.trans (hba.mono hS1.2.size)⟩
        refine p_alone (some 45) (.slice (some ⟨w1.heap.size, 0, none⟩) 1 1) (w1.alloc (.cells C' 26)) rfl rfl (by rfl) (by rw [hCl]; kernel_rfl) (fun _ => hS2) ?_
        simp only [Act.put, List.setIfInBounds_toArray, List.set_cons_zero, List.set_cons_succ]
        have hown2 := own_below HLd.out.kids (hbw1.trans (hba.mono hbw1.size))
        refine p_wp rfl (by rfl) ?_
        refine wp_append_any (some 46) rfl (.tmp 36) (.tmp 45) 24 26 (.agg (nodeV 0 false none 0 0 none 0 0 none 0 0)) 5 88 Tryd.underlying24 Try.infoNode rfl (by decide) rfl (g + 1) _ i _ rfl hown2 (some ⟨w1.heap.size, 0, none⟩) w1.heap.size 0 1 1 C'.toList (by simp [hC5]) rfl (fun _ => rfl) (fun j u hj => by
          rw [Nat.zero_add, (Row.new w1 C' 26).cell j, ← Array.getElem?_toList]
          exact hj) (fun u hu => by simpa using (Array.all_eq_true_iff_forall_mem.1 hone) u (by simpa using hu)) (fun h => nomatch h) (by omega) (by omega) (Nat.le_trans hS0.1.lt (Nat.le_trans hbw1.size hba.size)) ?_
        intro kv' w3 own' grow' hor'
        obtain ⟨hr3, hold3, hadd⟩ := HLd.out.node hltr hbw1 C' hC5 hn1 own' grow' hor'
        obtain ⟨ka3, kc3, rfl⟩ := rp_slice own'
        refine ⟨fun _ => ⟨hr3, hold3⟩, ?_⟩
        have HA : Hid _ := hadd
        clear own' grow' hor' hadd hown2 hS2 hba hS1 hn1 hbw1 HC
        simp only [Act.put, List.setIfInBounds_toArray, List.set_cons_zero, List.set_cons_succ]
        refine p_value (some 47) ?_ rfl rfl (by rfl) (fun w hw => ?_) ?_
        rotate_left
        · go_simp
          with_reducible rfl
        simp only [Act.put, List.setIfInBounds_toArray, List.set_cons_zero, List.set_cons_succ]
        have q4 := (hr3.cell 4).trans (rfl : _ = some (Value.slice ka2 i kc2))
        have f4 := hr3.frozen 4
        refine p_store (w3.setCell ⟨g, 4, none⟩ (.slice ka3 (i + 1) kc3)) rfl rfl (by rfl) (by go_simp) (fun h => absurd rfl h) ?_
        refine p_done ?_
        try simp only [Exit.then]
        clear q4 f4 hr3 hold3
        go_wp2
        go_roundw
        case rel => exact ⟨i + 1, _, _, _, by go_num, by omega, HA⟩
        case measure => simp [intOf]; omega
      · have hlt' : ¬ (i : Int) < (ns.length : Int) := by omega
        have hie : i = ns.length := by omega
        have HIE : Hid _ := hie
        clear hie
        have hRz : Row wr (w.heap.size + 1) (nodeV 0 false none 0 0 none 0 0 none 0 0) 26 := by
          have h := Row.below HR2.out HL.out.old (Row.lt HR2.out)
          rw [World.size_alloc] at h
          exact h
        have HRg : Hid _ := HL.out.row
        have HRz : Hid _ := hRz
        clear hRz
        go_wp2_with (first
          | refine wpList_load_row rfl 26 _ rfl g rfl 26 #[.int .i64 k, .bool e, .slice a12 (rpl old young (bl dt)).length c12, .slice a16 i c16, .slice ka2 i kc2] (0, 0) _ HRg.out Tryd.underlying26 rfl infoN ?_
          | refine wpList_store_row rfl 26 _ _ rfl (w.heap.size + 1) #[.int .i64 k, .bool e, .slice a12 (rpl old young (bl dt)).length c12, .slice a16 i c16, .slice ka2 i kc2] rfl rfl 26 (nodeV 0 false none 0 0 none 0 0 none 0 0) HRz.out infoN rfl (nodeV_one _ _ _ _ _ _ _ _ _ _ _) ?_)
        have hNO := RpL.done' HL.out HIE.out (by rw [rpNL_length, ← HNK.out]; exact HIE.out) HKK.out HNE.out (by rw [rpl_length (by intro h; rw [h] at ho; simp at ho) (by rw [hy, ho]), bl_len]; exact hd4) hn4
        have hsw : w.heap.size + 1 < wA.heap.size := by
          have := Row.lt HR2.out
          rw [World.size_alloc] at this
          exact this
        have hold := HL.out.old
        have hos := hold.size
        have hoth : ∀ q, q ≠ w.heap.size + 1 → (wr.setRow (w.heap.size + 1) #[.int .i64 k, .bool e, .slice a12 (rpl old young (bl dt)).length c12, .slice a16 i c16, .slice ka2 i kc2]).heap[q]? = wr.heap[q]? := fun q hq => setRow_other wr (w.heap.size + 1) q _ hq
        have hss : (wr.setRow (w.heap.size + 1) #[.int .i64 k, .bool e, .slice a12 (rpl old young (bl dt)).length c12, .slice a16 i c16, .slice ka2 i kc2]).heap.size = wr.heap.size := by simp [World.setRow]
        refine bodyPost_ret (results_cell_row resultsRp _ _ (w.heap.size + 1) 26 _ (0, 0) _ rfl (Row.setRow HRz.out) Tryd.underlying26 rfl infoN) rfl ⟨_, rfl, (hNO.keep fun b hb => hoth b (by omega)).mono fun b hb => ⟨by omega, by rw [hss]; exact hb.2⟩, (hb1.trans (hold.mono hb1.size)).trans ⟨rfl, rfl, rfl, by rw [hss]; exact Nat.le_refl _, fun q hq => hoth q (by omega)⟩⟩
/-- replaced: the node with other signs in all its bytes, in memory of its own. -/
theorem replaced_ok (old young : List UInt8) (ho : old.length = 32) (hy : young.length = 32) (v1 v2 : Value) (n : Nd) (h6 : n.count ≤ 16000) (hq : sqN n) (w : World) (C : Array Value) (h : NodeAt w n C) (hv1 : BsAt w v1 old) (hv2 : BsAt w v2 young) (hm : MxTab w) : Calls Tryd.prog 33 #[.agg C, v1, v2] w (RpPost old young n w) := by
  have key : ∀ N : Nat, ∀ n : Nd, n.count ≤ N → n.count ≤ 16000 → sqN n → ∀ (w : World) (C : Array Value), NodeAt w n C → BsAt w v1 old → BsAt w v2 young → MxTab w → Calls Tryd.prog 33 #[.agg C, v1, v2] w (RpPost old young n w) := by
    intro N
    induction N with
    | zero => intro n hn; have := n.count_pos; omega
    | succ N ih => exact replaced_step old young ho hy v1 v2 N ih
  exact key n.count n (Nat.le_refl _) h6 hq w C h hv1 hv2 hm
end Go.Proofs.YtpkbfljoakodoaaDoor
namespace Go.Proofs.YtpkbfljoakodoaaDoor

theorem alone_sq {k : Int} {e : Bool} {d : ByteArray} {ns : List ByteArray} {ks : List Nd} (h : aloneE (.mk k e d ns ks) = 0) : ns.length = ks.length ∧ d.size < 4294967281 := by
  unfold aloneE at h
  split at h
  · simp at h
  rename_i hk
  split at h
  · simp at h
  rename_i hb
  clear h
  constructor
  · have h : kindB (.mk k e d ns ks) = true := by simpa using hk
    show (Nd.mk k e d ns ks).names.length = (Nd.mk k e d ns ks).kids.length
    generalize Nd.mk k e d ns ks = n at h
    unfold kindB at h
    repeat' split at h
    all_goals first
      | (simp only [Bool.and_eq_true, decide_eq_true_eq] at h; omega)
      | (simp at h; done)
  · have hb2 : ¬ ((if k = 3 then 1024 else 31744 : Int) < ((d.size + entN ns : Nat) : Int)) := fun h => hb (decide_eq_true h)
    split at hb2 <;> omega
mutual
theorem each_sq : ∀ (n : Nd), eachE n = 0 → sqN n
  | .mk k e d ns ks, h => by
    unfold eachE at h
    split at h
    · rename_i h1
      exact absurd h h1
    rename_i h1
    have h2 := alone_sq (Classical.not_not.1 h1)
    simp only [sqN]
    exact ⟨h2.1, h2.2, each_sqL ks h⟩
theorem each_sqL : ∀ (ks : List Nd), eachL ks = 0 → sqNL ks
  | [], _ => by simp [sqNL]
  | k :: ks, h => by
    unfold eachL at h
    split at h
    · rename_i h1
      exact absurd h h1
    rename_i h1
    simp only [sqNL]
    exact ⟨each_sq k (Classical.not_not.1 h1), each_sqL ks h⟩
end
/-- What is right is so. -/
theorem right_sq (n : Nd) (h : rightE n = 0) : sqN n := by
  unfold rightE at h
  split at h
  · simp at h
  exact each_sq n h
end Go.Proofs.YtpkbfljoakodoaaDoor
