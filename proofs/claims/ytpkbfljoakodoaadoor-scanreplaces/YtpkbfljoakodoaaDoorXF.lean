/- My own work: the walk of the document's own replaced. My own work: the walk of the document's own Replace. -/
import Derived.Test.YtpkbfljoakodoaaDoorRPut
import Derived.Test.YtpkbfljoakodoaaDoorSRep
import Derived.Test.YtpkbfljoakodoaaDoorSText
import Derived.Deep.DeepCutAuto
import Derived.Test.YtpkbfljoakodoaaDoorRefRight
namespace Go.Proofs.YtpkbfljoakodoaaDoor
open Go.RowKit
open S2 (bl bl_len bl_inj)

theorem rr_one (ns : List ByteArray) : ∀ u ∈ ns.map Value.string, u.oneCell' = true := by
  intro u hu
  obtain ⟨s, _, rfl⟩ := List.mem_map.1 hu
  rfl
theorem resultsRr : Tryd.f34.results = #[.cell 6 26] := by kernel_rfl
theorem OwnSt.begin {w0 w : World} {ns : List ByteArray} {v9 v13 v16 v3 : Value} (h : Below w0.heap.size w0 w) : OwnSt w0 ⟨#[]⟩ ns true true false false false v9 (.slice none 0 0) v13 v16 v3 w :=
  ⟨h, fun _ h => by simp at h, fun _ => World.ownsRow_nil _ _ _ _, fun h => by simp at h, fun h => by simp at h, fun h => by simp at h⟩
/-- A node without bytes, all its names there. -/
theorem OwnL.rp {w0 w : World} {ns : List ByteArray} {k : Int} {e : Bool} {ks : List Nd} {g : Nat} {v16 : Value} {Cs : Nat → Array Value} (h : OwnL w0 ⟨#[]⟩ ns k e ks g (.slice none 0 0) v16 0 (.slice none 0 0) Cs w) : RpL w0 [] ns k e ks g (.slice none 0 0) v16 ns.length 0 (.slice none 0 0) Cs w :=
  ⟨h.old, ⟨none, 0, 0, 0, rfl, fun h => absurd h (by simp), fun i h => absurd h (by simp), fun _ => ⟨rfl, rfl⟩, Nat.le_refl _, by decide, fun h => absurd h (by simp)⟩, by rw [List.take_length]; exact h.b16, h.row, h.ge, h.kids, h.size, fun j _ hj => absurd hj (by omega)⟩
/-- The bytes come. -/
theorem RpL.bytes {w0 w w1 : World} {ns : List ByteArray} {k : Int} {e : Bool} {ks : List Nd} {g m : Nat} {v12 v16 : Value} {Cs : Nat → Array Value} (h : RpL w0 [] ns k e ks g v12 v16 m 0 (.slice none 0 0) Cs w) (hb : Below w.heap.size w w1) (r : ByteArray) (c : Nat)
    (hlt : w.heap.size < w1.heap.size) (hc : ∀ i, i < r.size → w1.cell? ⟨w.heap.size, i, none⟩ = some (.int .u8 (bf r i))) (h1 : r.size ≤ c) (h2 : c ≤ maxLen) :
    RpL w0 (bl r) ns k e ks g (.slice (some ⟨w.heap.size, 0, none⟩) r.size c) v16 m 0 (.slice none 0 0) Cs (w1.setCell ⟨g, 2, none⟩ (.slice (some ⟨w.heap.size, 0, none⟩) r.size c)) := by
  have hk := h.keep hb
  have hgl := h.row.lt
  have hs0 := h.old.size
  have hset : ∀ q, q ≠ g → (w1.setCell ⟨g, 2, none⟩ (.slice (some ⟨w.heap.size, 0, none⟩) r.size c)).heap[q]? = w1.heap[q]? := fun q hq => heap_setCell_other w1 ⟨g, 2, none⟩ q _ hq
  have hss : (w1.setCell ⟨g, 2, none⟩ (.slice (some ⟨w.heap.size, 0, none⟩) r.size c)).heap.size = w1.heap.size := by simp
  have hge := h.ge
  refine ⟨hk.old.trans ⟨rfl, rfl, rfl, by rw [hss]; exact Nat.le_refl _, fun q hq => hset q (by omega)⟩, ⟨some ⟨w.heap.size, 0, none⟩, w.heap.size, 0, c, by rw [bl_len], fun _ => rfl, fun i hi => ?_, (fun h => nomatch h), by rw [bl_len]; exact h1, h2, fun _ => ⟨hs0, by rw [hss]; exact hlt, by omega, fun e1 => ?_, by simp [Value.ownBlock]⟩⟩, ownsRow_keep hk.b16 (fun q hq _ => hset q ?_), hk.row.setCell (i := 2) _, hge, World.ownsRow_nil _ _ _ _, fun j hj => absurd hj (by omega), fun j _ hj => absurd hj (by omega)⟩
  · have hi' : i < r.size := by rw [bl_len] at hi; exact hi
    rw [Nat.zero_add, World.cell?_of_block (w := w1) (hset w.heap.size (by omega)), hc i hi']
    have hi2 : i < r.data.size := hi'
    unfold bf
    rw [Array.getElem?_eq_getElem hi2]
    rfl
  · have := (ownsRow_lt h.b16 _ e1).1
    omega
  · obtain ⟨_, _, cc, rr⟩ := ownsRow_lt hk.b16 q hq
    exact row_ne rr hk.row (by decide)
set_option maxRecDepth 20000 in
set_option maxHeartbeats 8000000 in
theorem rreplaced_step (old young : ByteArray) (ho : old.size = 32) (hy : young.size = 32) (N : Nat) (IH : ∀ n : Nd, n.count ≤ N → n.count ≤ 16000 → sqN n → ∀ (w : World) (C : Array Value), NodeAt w n C → Calls Tryd.prog 34 #[.agg C, .string old, .string young] w (RpPost (bl old) (bl young) n w))
    (n : Nd) (hN : n.count ≤ N + 1) (h6 : n.count ≤ 16000) (hq : sqN n) (w : World) (C : Array Value) (h : NodeAt w n C) : Calls Tryd.prog 34 #[.agg C, .string old, .string young] w (RpPost (bl old) (bl young) n w) := by
  cases h with
  | @mk k e dt ns ks da dc na nc ka kb koff kc Cs hk hdt hn hks each =>
  have hb0 : Below w.heap.size w (w.alloc (.cells (nodeV k e da dt.size dc na ns.length nc ka ks.length kc) 26)) := (Below.refl _ _).alloc (Nat.le_refl _) _
  have hb1 : Below w.heap.size w ((w.alloc (.cells (nodeV k e da dt.size dc na ns.length nc ka ks.length kc) 26)).alloc (.cells nodeZ 26)) := hb0.alloc hb0.size _
  have HR : Hid _ := (Row.new w (nodeV k e da dt.size dc na ns.length nc ka ks.length kc) 26).alloc (.cells nodeZ 26)
  have HR2 : Hid _ := Row.new (w.alloc (.cells (nodeV k e da dt.size dc na ns.length nc ka ks.length kc) 26)) nodeZ 26
  simp only [sqN] at hq
  obtain ⟨nb, noff, hn1, hn3⟩ := hn.ex
  have hn2 := hn.nil
  have hd4 := hdt.len
  have hn4 := hn.len
  have HNE : Hid _ := hn.each
  unfold big at hd4 hn4
  have hd6 := hq.2.1
  have HDT : Hid (∀ wx, Below w.heap.size w wx → BytesAt wx da dt dc) := fun wx hb => hdt.keep hb
  have HN0 : Hid (∀ wx, Below w.heap.size w wx → ∀ j u, (ns.map Value.string)[j]? = some u → wx.cell? ⟨nb, noff + j, none⟩ = some u) := fun wx hb j u hj => by
    have hjl : j < ns.length := by
      have := (List.getElem?_eq_some_iff.1 hj).1
      simpa using this
    rw [List.getElem?_map, List.getElem?_eq_getElem hjl] at hj
    rw [← show some (Value.string ns[j]) = some u from hj]
    exact (World.cell?_of_block (w := w) (hb.block nb (World.block_lt_of_cell? _ _ (hn3 j hjl)))).trans (hn3 j hjl)
  have HK : Hid (∀ w', Below w.heap.size w w' → KidsAt w' ka kb koff ks.length kc Cs) := fun w' hb => hks.keep hb
  have HE : Hid (∀ w', Below w.heap.size w w' → ∀ i (h : i < ks.length), NodeAt w' ks[i] (Cs i)) := fun w' hb i h => (each i h).keep hb
  have hcap := hks.cap
  have hle := hks.le
  have hat := hks.at'
  unfold maxLen at hcap
  have HN : Hid _ := hN
  have HQ : Hid _ := hq.2.2
  have H6 : Hid (Nd.countL ks ≤ 16000) := by simp only [Nd.count] at h6; show _ ≤ _; omega
  have HKL : Hid (ks.length ≤ 16000) := by have := Nd.countL_len ks; have := H6.out; show _ ≤ _; omega
  have HIH : Hid _ := IH
  have HKK : Hid _ := hk
  have hml : maxLen = 9223372036854775807 := rfl
  clear hks each hdt hn hN IH hk h6 hn3 hq
  go_enter Tryd.func34, Tryd.ntmps34
  generalize hwA : (w.alloc (.cells (nodeV k e da dt.size dc na ns.length nc ka ks.length kc) 26)).alloc (.cells nodeZ 26) = wA at *
  have HNC : Hid (∀ wx, Below wA.heap.size wA wx → ∀ j u, (ns.map Value.string)[j]? = some u → wx.cell? ⟨nb, noff + j, none⟩ = some u) := fun wx hb => HN0.out wx (hb1.trans (hb.mono hb1.size))
  have HC0 : Hid (∀ wx, Below wA.heap.size wA wx → Row wx w.heap.size (nodeV k e da dt.size dc na ns.length nc ka ks.length kc) 26) := fun wx hb => Row.below HR.out hb (Row.lt HR.out)
  clear HN0
  go_upto_region 1 with fail
  go_cut [7] (fun v7 wx => ∃ g v16, v7 = .pointer (some ⟨g, 0, none⟩) ∧ Hid (OwnL wA ⟨#[]⟩ ns k e ks g (.slice none 0 0) v16 0 (.slice none 0 0) (fun _ => #[]) wx))
  case first =>
    have hBd : Below wA.heap.size wA wA.drew := (Below.refl _ _).drew
    refine wp_region_dag [(false, 0), (false, 1), (false, 2), (false, 3), (false, 5), (false, 6)] #[true, true, true, true, false, true, true, false, false, false, false] 5 (fun wx => Below wA.heap.size wA wx) (by kernel_rfl) (by kernel_rfl) hBd ?_
    refine a_value (some 9) ?_ rfl rfl (by rfl) (fun w hw => ?_) ?_
    rotate_left
    · go_simp
      with_reducible rfl
    simp only [Act.put, List.setIfInBounds_toArray, List.set_cons_zero, List.set_cons_succ]
    refine a_value (some 10) ?_ rfl rfl (by rfl) (fun w hw => ?_) ?_
    rotate_left
    · have hc := (Row.cell (HC0.out _ hw) 0).trans (rfl : _ = some (Value.int .i64 k))
      go_simp
      with_reducible rfl
    simp only [Act.put, List.setIfInBounds_toArray, List.set_cons_zero, List.set_cons_succ]
    refine a_value (some 11) ?_ rfl rfl (by rfl) (fun w hw => ?_) ?_
    rotate_left
    · go_simp
      with_reducible rfl
    simp only [Act.put, List.setIfInBounds_toArray, List.set_cons_zero, List.set_cons_succ]
    refine a_value (some 12) ?_ rfl rfl (by rfl) (fun w hw => ?_) ?_
    rotate_left
    · have hc := (Row.cell (HC0.out _ hw) 1).trans (rfl : _ = some (Value.bool e))
      go_simp
      with_reducible rfl
    simp only [Act.put, List.setIfInBounds_toArray, List.set_cons_zero, List.set_cons_succ]
    refine a_value (some 14) ?_ rfl rfl (by rfl) (fun w hw => ?_) ?_
    rotate_left
    · go_simp
      with_reducible rfl
    simp only [Act.put, List.setIfInBounds_toArray, List.set_cons_zero, List.set_cons_succ]
    refine a_value (some 15) ?_ rfl rfl (by rfl) (fun w hw => ?_) ?_
    rotate_left
    · have hc := (Row.cell (HC0.out _ hw) 3).trans (rfl : _ = some (Value.slice na ns.length nc))
      go_simp
      with_reducible rfl
    simp only [Act.put, List.setIfInBounds_toArray, List.set_cons_zero, List.set_cons_succ]
    refine a_done ?_
    have st0 : OwnSt wA ⟨#[]⟩ ns true true false false false (.int .i64 0) (.slice none 0 0) (.int .i64 0) (.int .i64 0) (.int .i64 0) wA.drew := OwnSt.begin hBd
    generalize wA.drew = wx0 at *
    refine d_two (i := 4) (j := 9) (by kernel_rfl) ?_ ?_
    · refine d_alone (some 13) (.slice (some ⟨wx0.heap.size, 0, none⟩) 0 0) (wx0.alloc (.cells #[] 9)) rfl rfl (by rfl) (by kernel_rfl) st0.a8.old ?_
      have st1 := st0.a8
      generalize wx0.alloc (.cells #[] 9) = wx1 at *
      simp only [Act.put, List.setIfInBounds_toArray, List.set_cons_zero, List.set_cons_succ]
      refine d_two (i := 7) (j := 9) (by kernel_rfl) ?_ ?_
      · refine d_wp rfl (by rfl) ?_
        refine wp_append_any (some 16) rfl (.tmp 13) (.tmp 15) 23 9 (.string ⟨#[]⟩) 1 16 Tryd.underlying23 Try.info9 rfl (by decide) rfl wA.heap.size _ 0 [] rfl (st1.s13 rfl rfl) na nb noff ns.length nc (ns.map Value.string) (by simp) rfl hn1 (HNC.out wx1 st1.old) (rr_one ns) hn2 (by omega) (by omega) st1.old.size ?_
        intro v' wx2 own' grow' _
        rw [Nat.zero_add, List.nil_append] at own'
        obtain ⟨a16, c16, rfl⟩ := rp_slice own'
        have st2 := st1.a11 _ own' grow'
        refine ⟨st2.old, ?_⟩
        clear own' grow'
        simp only [Act.put, List.setIfInBounds_toArray, List.set_cons_zero, List.set_cons_succ]
        refine d_two (i := 8) (j := 9) (by kernel_rfl) ?_ ?_
        · refine d_alone (some 17) (.agg #[.int .i64 k, .bool e, .slice none 0 0, .slice a16 ns.length c16, .slice none 0 0]) wx2 rfl rfl (by rfl) (by kernel_rfl) st2.old ?_
          simp only [Act.put, List.setIfInBounds_toArray, List.set_cons_zero, List.set_cons_succ]
          refine d_one (i := 9) (by kernel_rfl) ?_
          refine d_alone (some 7) (.pointer (some ⟨wx2.heap.size, 0, none⟩)) (wx2.alloc (.cells nodeZ 26)) rfl rfl (by rfl) (by kernel_rfl) (st2.a13 nodeZ rfl).old ?_
          have st4 := st2.a13 nodeZ rfl
          generalize wx2.alloc (.cells nodeZ 26) = wx4 at *
          simp only [Act.put, List.setIfInBounds_toArray, List.set_cons_zero, List.set_cons_succ]
          refine d_one (i := 10) (by kernel_rfl) ?_
          obtain ⟨g, Z, hg3, hgr, hZ, hL, hbS⟩ := st4.store k e ks
          cases hg3
          have HL : Hid _ := hL
          refine d_store5 (.tmp 7) (.tmp 17) rfl (by rfl) rfl rfl _ rfl #[.int .i64 k, .bool e, .slice none 0 0, .slice a16 ns.length c16, .slice none 0 0] rfl rfl Z hgr hZ (nodeV_one _ _ _ _ _ _ _ _ _ _ _) (st4.old.trans hbS) ?_
          clear hL hbS hgr hZ
          refine d_done (by kernel_rfl) ?_
          try simp only [Exit.then]
          go_wp2
          go_meet
          exact ⟨_, _, rfl, HL⟩
        · refine d_alone (some 7) (.pointer (some ⟨wx2.heap.size, 0, none⟩)) (wx2.alloc (.cells nodeZ 26)) rfl rfl (by rfl) (by kernel_rfl) (st2.a13 nodeZ rfl).old ?_
          have st6 := st2.a13 nodeZ rfl
          generalize wx2.alloc (.cells nodeZ 26) = wx6 at *
          simp only [Act.put, List.setIfInBounds_toArray, List.set_cons_zero, List.set_cons_succ]
          refine d_one (i := 8) (by kernel_rfl) ?_
          refine d_alone (some 17) (.agg #[.int .i64 k, .bool e, .slice none 0 0, .slice a16 ns.length c16, .slice none 0 0]) wx6 rfl rfl (by rfl) (by kernel_rfl) st6.old ?_
          simp only [Act.put, List.setIfInBounds_toArray, List.set_cons_zero, List.set_cons_succ]
          refine d_one (i := 10) (by kernel_rfl) ?_
          obtain ⟨g, Z, hg3, hgr, hZ, hL, hbS⟩ := st6.store k e ks
          cases hg3
          have HL : Hid _ := hL
          refine d_store5 (.tmp 7) (.tmp 17) rfl (by rfl) rfl rfl _ rfl #[.int .i64 k, .bool e, .slice none 0 0, .slice a16 ns.length c16, .slice none 0 0] rfl rfl Z hgr hZ (nodeV_one _ _ _ _ _ _ _ _ _ _ _) (st6.old.trans hbS) ?_
          clear hL hbS hgr hZ
          refine d_done (by kernel_rfl) ?_
          try simp only [Exit.then]
          go_wp2
          go_meet
          exact ⟨_, _, rfl, HL⟩
      · refine d_alone (some 7) (.pointer (some ⟨wx1.heap.size, 0, none⟩)) (wx1.alloc (.cells nodeZ 26)) rfl rfl (by rfl) (by kernel_rfl) (st1.a13 nodeZ rfl).old ?_
        have st9 := st1.a13 nodeZ rfl
        generalize wx1.alloc (.cells nodeZ 26) = wx9 at *
        simp only [Act.put, List.setIfInBounds_toArray, List.set_cons_zero, List.set_cons_succ]
        refine d_one (i := 7) (by kernel_rfl) ?_
        refine d_wp rfl (by rfl) ?_
        refine wp_append_any (some 16) rfl (.tmp 13) (.tmp 15) 23 9 (.string ⟨#[]⟩) 1 16 Tryd.underlying23 Try.info9 rfl (by decide) rfl wA.heap.size _ 0 [] rfl (st9.s13 rfl rfl) na nb noff ns.length nc (ns.map Value.string) (by simp) rfl hn1 (HNC.out wx9 st9.old) (rr_one ns) hn2 (by omega) (by omega) st9.old.size ?_
        intro v' wx10 own' grow' _
        rw [Nat.zero_add, List.nil_append] at own'
        obtain ⟨a16, c16, rfl⟩ := rp_slice own'
        have st10 := st9.a11 _ own' grow'
        refine ⟨st10.old, ?_⟩
        clear own' grow'
        simp only [Act.put, List.setIfInBounds_toArray, List.set_cons_zero, List.set_cons_succ]
        refine d_one (i := 8) (by kernel_rfl) ?_
        refine d_alone (some 17) (.agg #[.int .i64 k, .bool e, .slice none 0 0, .slice a16 ns.length c16, .slice none 0 0]) wx10 rfl rfl (by rfl) (by kernel_rfl) st10.old ?_
        simp only [Act.put, List.setIfInBounds_toArray, List.set_cons_zero, List.set_cons_succ]
        refine d_one (i := 10) (by kernel_rfl) ?_
        obtain ⟨g, Z, hg3, hgr, hZ, hL, hbS⟩ := st10.store k e ks
        cases hg3
        have HL : Hid _ := hL
        refine d_store5 (.tmp 7) (.tmp 17) rfl (by rfl) rfl rfl _ rfl #[.int .i64 k, .bool e, .slice none 0 0, .slice a16 ns.length c16, .slice none 0 0] rfl rfl Z hgr hZ (nodeV_one _ _ _ _ _ _ _ _ _ _ _) (st10.old.trans hbS) ?_
        clear hL hbS hgr hZ
        refine d_done (by kernel_rfl) ?_
        try simp only [Exit.then]
        go_wp2
        go_meet
        exact ⟨_, _, rfl, HL⟩
    · refine d_alone (some 7) (.pointer (some ⟨wx0.heap.size, 0, none⟩)) (wx0.alloc (.cells nodeZ 26)) rfl rfl (by rfl) (by kernel_rfl) (st0.a13 nodeZ rfl).old ?_
      have st13 := st0.a13 nodeZ rfl
      generalize wx0.alloc (.cells nodeZ 26) = wx13 at *
      simp only [Act.put, List.setIfInBounds_toArray, List.set_cons_zero, List.set_cons_succ]
      refine d_one (i := 4) (by kernel_rfl) ?_
      refine d_alone (some 13) (.slice (some ⟨wx13.heap.size, 0, none⟩) 0 0) (wx13.alloc (.cells #[] 9)) rfl rfl (by rfl) (by kernel_rfl) st13.a8.old ?_
      have st14 := st13.a8
      generalize wx13.alloc (.cells #[] 9) = wx14 at *
      simp only [Act.put, List.setIfInBounds_toArray, List.set_cons_zero, List.set_cons_succ]
      refine d_one (i := 7) (by kernel_rfl) ?_
      refine d_wp rfl (by rfl) ?_
      refine wp_append_any (some 16) rfl (.tmp 13) (.tmp 15) 23 9 (.string ⟨#[]⟩) 1 16 Tryd.underlying23 Try.info9 rfl (by decide) rfl wA.heap.size _ 0 [] rfl (st14.s13 rfl rfl) na nb noff ns.length nc (ns.map Value.string) (by simp) rfl hn1 (HNC.out wx14 st14.old) (rr_one ns) hn2 (by omega) (by omega) st14.old.size ?_
      intro v' wx15 own' grow' _
      rw [Nat.zero_add, List.nil_append] at own'
      obtain ⟨a16, c16, rfl⟩ := rp_slice own'
      have st15 := st14.a11 _ own' grow'
      refine ⟨st15.old, ?_⟩
      clear own' grow'
      simp only [Act.put, List.setIfInBounds_toArray, List.set_cons_zero, List.set_cons_succ]
      refine d_one (i := 8) (by kernel_rfl) ?_
      refine d_alone (some 17) (.agg #[.int .i64 k, .bool e, .slice none 0 0, .slice a16 ns.length c16, .slice none 0 0]) wx15 rfl rfl (by rfl) (by kernel_rfl) st15.old ?_
      simp only [Act.put, List.setIfInBounds_toArray, List.set_cons_zero, List.set_cons_succ]
      refine d_one (i := 10) (by kernel_rfl) ?_
      obtain ⟨g, Z, hg3, hgr, hZ, hL, hbS⟩ := st15.store k e ks
      cases hg3
      have HL : Hid _ := hL
      refine d_store5 (.tmp 7) (.tmp 17) rfl (by rfl) rfl rfl _ rfl #[.int .i64 k, .bool e, .slice none 0 0, .slice a16 ns.length c16, .slice none 0 0] rfl rfl Z hgr hZ (nodeV_one _ _ _ _ _ _ _ _ _ _ _) (st15.old.trans hbS) ?_
      clear hL hbS hgr hZ
      refine d_done (by kernel_rfl) ?_
      try simp only [Exit.then]
      go_wp2
      go_meet
      exact ⟨_, _, rfl, HL⟩
  case rest =>
    obtain ⟨g, v16, rfl, HL0⟩ := hcut
    obtain ⟨a16, c16, rfl⟩ := rp_slice HL0.out.b16
    have HRP0 : Hid _ := HL0.out.rp
    have hw0 := hb1.trans (HL0.out.old.mono hb1.size)
    have c2 := (Row.cell (HC0.out wc HL0.out.old) 2).trans (rfl : _ = some (Value.slice da dt.size dc))
    have hcv := conv_bytesS wc da dt dc (HDT.out wc hw0)
    have hpu := rput_ok dt old young wc ho hy (by omega)
    obtain ⟨X, hX⟩ : ∃ X : ByteArray, X = ⟨(rpl (bl old) (bl young) (bl dt)).toArray⟩ := ⟨_, rfl⟩
    have HXS : Hid (X.size = dt.size) := by
      show _ = _
      rw [hX]
      show (rpl (bl old) (bl young) (bl dt)).toArray.size = _
      rw [List.size_toArray, rpl_length (by intro h; have := bl_len old; rw [h, ho] at this; cases this) (by rw [bl_len, bl_len, hy, ho]), bl_len]
    have hXb : bl X = rpl (bl old) (bl young) (bl dt) := by rw [hX]
    rw [← hX] at hpu
    have HXB : Hid _ := hXb
    clear hX hXb hn1 hn2 HL0 hw0
    go_wp2_with fail
    refine hpu.mono ?_
    rintro e0 w1 ⟨rfl, hbp⟩
    have hL1 := HRP0.out.keep hbp
    have hcx := Lib.run_convert_string_bytes (P := Tryd.prog) w1 9 22 5 X Tryd.underlying9 Tryd.underlying22 Tryd.underlying5
    have hbx := S2.bytesWorld_below w1 X
    have hL2 := hL1.bytes hbx X (grownCap w1 X.size 0 5) (by rw [Lib.bytesWorld_size]; omega) (fun i hi => by
      rw [Lib.bytesWorld_cell _ _ _ _ hi, List.getD_eq_getElem?_getD, Array.getElem?_toList]
      unfold bf
      rfl) (grownCap_ge w1 X.size 0 5) (grownCap_le_maxLen w1 X.size 0 5 (by have := HXS.out; unfold maxLen; omega))
    have hrx := hL1.row.below hbx hL1.row.lt
    have q2 := (hrx.cell 2).trans (rfl : _ = some (Value.slice none 0 0))
    have f2 := hrx.frozen 2
    obtain ⟨wX, hwX⟩ : ∃ x, x = Lib.bytesWorld w1 5 X := ⟨_, rfl⟩
    rw [← hwX] at hcx hL2 q2 f2
    rw [HXB.out] at hL2
    have HLX : Hid _ := hL2
    clear hpu hcv c2 hL1 hbx hL2 hrx hwX hbp HRP0
    go_wp2_with fail
    go_loopw [8] (fun iv wx => ∃ (i : Nat) (kv : Value) (Ks : Nat → Array Value), iv = .int .i64 i ∧ i ≤ ks.length ∧ Hid (RpL wA (rpl (bl old) (bl young) (bl dt)) ns k e (rpNL (bl old) (bl young) ks) g (.slice (some ⟨w1.heap.size, 0, none⟩) X.size (grownCap w1 X.size 0 5)) (.slice a16 ns.length c16) ns.length i kv Ks wx)) (fun iv _ => ks.length - (intOf iv).toNat)
    case atStart => exact ⟨0, .slice none 0 0, fun _ => #[], rfl, Nat.zero_le _, ⟨HLX.out.old, HLX.out.dat, HLX.out.b16, HLX.out.row, HLX.out.ge, HLX.out.kids, HLX.out.size, fun j _ hj => absurd hj (by omega)⟩⟩
    case round =>
      obtain ⟨i, kv, Ks, rfl, hi, HL⟩ := hrel
      obtain ⟨ka2, kc2, rfl⟩ := rp_slice HL.out.kids
      have c4 := (Row.cell (HC0.out wr HL.out.old) 4).trans (rfl : _ = some (Value.slice ka ks.length kc))
      have hkl := HKL.out
      by_cases hlt : i < ks.length
      · have hlt' : (i : Int) < (ks.length : Int) := by omega
        obtain rfl := hat (by omega)
        have hBw : Hid (∀ wx, Below wA.heap.size wA wx → Below w.heap.size w wx) := fun wx hb => hb1.trans (hb.mono hb1.size)
        have hs5 : (Cs i).size = 5 := (HK.out wr (hBw.out wr HL.out.old)).size i hlt
        have hsi2 : (Tryd.prog.info? 26).map (·.size) = some (Cs i).toList.length := by rw [infoN, Array.length_toList, hs5]
        have HLd : Hid _ := HL.out.keep (Below.refl _ _).drew
        have HC : Hid _ := HIH.out ks[i] (Nd.kid_lt HN.out i hlt) (by have := Nd.countL_at ks i hlt; have := H6.out; omega) (sqNL_at ks i hlt HQ.out) wr.drew (Cs i) (HE.out _ (hBw.out _ HLd.out.old) i hlt)
        have hS0 : Row wr.drew g #[.int .i64 k, .bool e, .slice (some ⟨w1.heap.size, 0, none⟩) X.size (grownCap w1 X.size 0 5), .slice a16 ns.length c16, .slice ka2 i kc2] 26 ∧ Below wA.heap.size wA wr.drew := ⟨HLd.out.row, HLd.out.old⟩
        have hki : (rpNL (bl old) (bl young) ks)[i]'(by rw [rpNL_length]; exact hlt) = rpN (bl old) (bl young) ks[i] := rpNL_at _ _ ks i hlt _
        have HKI : Hid _ := hki
        clear HL hki
        go_wp2_with fail
        refine wp_region_perm [(false, 0), (false, 1), (false, 2), (false, 3), (false, 4), (false, 5), (false, 6), (false, 7), (false, 8), (true, 9), (true, 10), (true, 11), (false, 12), (true, 13)] (fun wx => Row wx g #[.int .i64 k, .bool e, .slice (some ⟨w1.heap.size, 0, none⟩) X.size (grownCap w1 X.size 0 5), .slice a16 ns.length c16, .slice ka2 i kc2] 26 ∧ Below wA.heap.size wA wx) (by kernel_rfl) (by kernel_rfl) hS0 ?_
        refine p_value (some 33) ?_ rfl rfl (by rfl) (fun w hw => ?_) ?_
        rotate_left
        · go_simp
          with_reducible rfl
        simp only [Act.put, List.setIfInBounds_toArray, List.set_cons_zero, List.set_cons_succ]
        refine p_value (some 34) ?_ rfl rfl (by rfl) (fun w hw => ?_) ?_
        rotate_left
        · have hc := (hw.1.cell 4).trans (rfl : _ = some (Value.slice ka2 i kc2))
          go_simp
          with_reducible rfl
        simp only [Act.put, List.setIfInBounds_toArray, List.set_cons_zero, List.set_cons_succ]
        refine p_value (some 35) ?_ rfl rfl (by rfl) (fun w hw => ?_) ?_
        rotate_left
        · go_simp
          with_reducible rfl
        simp only [Act.put, List.setIfInBounds_toArray, List.set_cons_zero, List.set_cons_succ]
        refine p_value (some 36) ?_ rfl rfl (by rfl) (fun w hw => ?_) ?_
        rotate_left
        · have hc := (Row.cell (HC0.out _ hw.2) 4).trans (rfl : _ = some (Value.slice (some ⟨kb, koff, none⟩) ks.length kc))
          go_simp
          with_reducible rfl
        simp only [Act.put, List.setIfInBounds_toArray, List.set_cons_zero, List.set_cons_succ]
        refine p_move (some 37) _ rfl rfl rfl (by rfl) ?_
        simp only [Act.put, List.setIfInBounds_toArray, List.set_cons_zero, List.set_cons_succ]
        refine p_value (some 38) ?_ rfl rfl (by rfl) (fun w hw => ?_) ?_
        rotate_left
        · go_simp
          with_reducible rfl
        simp only [Act.put, List.setIfInBounds_toArray, List.set_cons_zero, List.set_cons_succ]
        refine p_load_mid (some 39) 26 _ rfl rfl rfl (by rfl) kb (koff + i * 5) (by go_simp) (Cs i).toList _ (fun wx hw => (HK.out wx (hBw.out wx hw.2)).range i hlt) Tryd.underlying26 rfl hsi2 ?_
        simp only [Array.toArray_toList]
        simp only [Act.put, List.setIfInBounds_toArray, List.set_cons_zero, List.set_cons_succ]
        refine p_move (some 40) _ rfl rfl rfl (by rfl) ?_
        simp only [Act.put, List.setIfInBounds_toArray, List.set_cons_zero, List.set_cons_succ]
        refine p_move (some 41) _ rfl rfl rfl (by rfl) ?_
        simp only [Act.put, List.setIfInBounds_toArray, List.set_cons_zero, List.set_cons_succ]
        refine p_call (some 42) rfl rfl (by rfl) 34 #[.agg (Cs i), .string old, .string young] (by go_simp) (Calls.mono HC.out ?_)
        rintro er w2 ⟨C', rfl, hn1, hbw1⟩
        obtain ⟨k', e', da', dl', dc', na', nl', nc', ka', kl', kc', hCl⟩ := rp_lit hn1.at'
        have hC5 : C'.size = 5 := hn1.at'.size
        have hone : C'.all (fun x => x.oneCell') = true := hn1.at'.one
        have hS1 : Row w2 g #[.int .i64 k, .bool e, .slice (some ⟨w1.heap.size, 0, none⟩) X.size (grownCap w1 X.size 0 5), .slice a16 ns.length c16, .slice ka2 i kc2] 26 ∧ Below wA.heap.size wA w2 := ⟨hS0.1.below hbw1 hS0.1.lt, hS0.2.trans (hbw1.mono hS0.2.size)⟩
        refine ⟨_, rfl, fun _ => hS1, ?_⟩
        simp only [Act.put, List.setIfInBounds_toArray, List.set_cons_zero, List.set_cons_succ]
        have hba : Below w2.heap.size w2 (w2.alloc (.cells C' 26)) := (Below.refl _ _).alloc (Nat.le_refl _) _
        have hS2 : Row (w2.alloc (.cells C' 26)) g #[.int .i64 k, .bool e, .slice (some ⟨w1.heap.size, 0, none⟩) X.size (grownCap w1 X.size 0 5), .slice a16 ns.length c16, .slice ka2 i kc2] 26 ∧ Below wA.heap.size wA (w2.alloc (.cells C' 26)) := ⟨hS1.1.below hba hS1.1.lt, hS1.2.trans (hba.mono hS1.2.size)⟩
        refine p_alone (some 43) (.slice (some ⟨w2.heap.size, 0, none⟩) 1 1) (w2.alloc (.cells C' 26)) rfl rfl (by rfl) (by rw [hCl]; kernel_rfl) (fun _ => hS2) ?_
        simp only [Act.put, List.setIfInBounds_toArray, List.set_cons_zero, List.set_cons_succ]
        have hown2 := own_below HLd.out.kids (hbw1.trans (hba.mono hbw1.size))
        refine p_wp rfl (by rfl) ?_
        refine wp_append_any (some 44) rfl (.tmp 34) (.tmp 43) 24 26 (.agg nodeZ) 5 88 Tryd.underlying24 Try.infoNode rfl (by decide) rfl (g + 1) _ i _ rfl hown2 (some ⟨w2.heap.size, 0, none⟩) w2.heap.size 0 1 1 C'.toList (by simp [hC5]) rfl (fun _ => rfl) (fun j u hj => by
          rw [Nat.zero_add, (Row.new w2 C' 26).cell j, ← Array.getElem?_toList]
          exact hj) (fun u hu => by simpa using (Array.all_eq_true_iff_forall_mem.1 hone) u (by simpa using hu)) (fun h => nomatch h) (by omega) (by omega) (Nat.le_trans hS0.1.lt (Nat.le_trans hbw1.size hba.size)) ?_
        intro kv' w3 own' grow' hor'
        obtain ⟨hr3, hold3, hadd⟩ := HLd.out.node (by rw [rpNL_length]; exact hlt) hbw1 C' hC5 (by rw [HKI.out]; exact hn1) own' grow' hor'
        obtain ⟨ka3, kc3, rfl⟩ := rp_slice own'
        refine ⟨fun _ => ⟨hr3, hold3⟩, ?_⟩
        have HA : Hid _ := hadd
        clear own' grow' hor' hadd hown2 hS2 hba hS1 hn1 hbw1 HC
        simp only [Act.put, List.setIfInBounds_toArray, List.set_cons_zero, List.set_cons_succ]
        refine p_value (some 45) ?_ rfl rfl (by rfl) (fun w hw => ?_) ?_
        rotate_left
        · go_simp
          with_reducible rfl
        simp only [Act.put, List.setIfInBounds_toArray, List.set_cons_zero, List.set_cons_succ]
        have q4 := (hr3.cell 4).trans (rfl : _ = some (Value.slice ka2 i kc2))
        have f4 := hr3.frozen 4
        refine p_store (w3.setCell ⟨g, 4, none⟩ (.slice ka3 (i + 1) kc3)) rfl rfl (by rfl) (by go_simp) (fun h => absurd rfl h) ?_
        refine p_done ?_
        try simp only [Exit.then]
        clear q4 f4 hr3 hold3
        go_wp2
        go_roundw
        case rel => exact ⟨i + 1, _, _, by go_num, by omega, HA⟩
        case measure => simp [intOf]; omega
      · have hlt' : ¬ (i : Int) < (ks.length : Int) := by omega
        have hie : i = ks.length := by omega
        have HIE : Hid _ := hie
        clear hie
        have hRz : Row wr (w.heap.size + 1) nodeZ 26 := by
          have h := Row.below HR2.out HL.out.old (Row.lt HR2.out)
          rw [World.size_alloc] at h
          exact h
        have HRg : Hid _ := HL.out.row
        have HRz : Hid _ := hRz
        clear hRz
        go_wp2_with (first
          | refine wpList_load_row rfl 26 _ rfl g rfl 26 #[.int .i64 k, .bool e, .slice (some ⟨w1.heap.size, 0, none⟩) X.size (grownCap w1 X.size 0 5), .slice a16 ns.length c16, .slice ka2 i kc2] (0, 0) _ HRg.out Tryd.underlying26 rfl infoN ?_
          | refine wpList_store_row rfl 26 _ _ rfl (w.heap.size + 1) #[.int .i64 k, .bool e, .slice (some ⟨w1.heap.size, 0, none⟩) X.size (grownCap w1 X.size 0 5), .slice a16 ns.length c16, .slice ka2 i kc2] rfl rfl 26 nodeZ HRz.out infoN rfl (nodeV_one _ _ _ _ _ _ _ _ _ _ _) ?_)
        have hNO := RpL.done' HL.out rfl (by rw [rpNL_length]; exact HIE.out) HKK.out HNE.out (by rw [← HXB.out, bl_len, HXS.out]; exact hd4) hn4
        have hsw : w.heap.size + 1 < wA.heap.size := by
          have := Row.lt HR2.out
          rw [World.size_alloc] at this
          exact this
        have hold := HL.out.old
        have hos := hold.size
        have hoth : ∀ q, q ≠ w.heap.size + 1 → (wr.setRow (w.heap.size + 1) #[.int .i64 k, .bool e, .slice (some ⟨w1.heap.size, 0, none⟩) X.size (grownCap w1 X.size 0 5), .slice a16 ns.length c16, .slice ka2 i kc2]).heap[q]? = wr.heap[q]? := fun q hq => setRow_other wr (w.heap.size + 1) q _ hq
        have hss : (wr.setRow (w.heap.size + 1) #[.int .i64 k, .bool e, .slice (some ⟨w1.heap.size, 0, none⟩) X.size (grownCap w1 X.size 0 5), .slice a16 ns.length c16, .slice ka2 i kc2]).heap.size = wr.heap.size := by simp [World.setRow]
        refine bodyPost_ret (results_cell_row resultsRr _ _ (w.heap.size + 1) 26 _ (0, 0) _ rfl (Row.setRow HRz.out) Tryd.underlying26 rfl infoN) rfl ⟨_, rfl, (hNO.keep fun b hb => hoth b (by omega)).mono fun b hb => ⟨by omega, by rw [hss]; exact hb.2⟩, (hb1.trans (hold.mono hb1.size)).trans ⟨rfl, rfl, rfl, by rw [hss]; exact Nat.le_refl _, fun q hq => hoth q (by omega)⟩⟩
/-- The document's replaced. -/
theorem rreplaced_ok (old young : ByteArray) (ho : old.size = 32) (hy : young.size = 32) (n : Nd) (h6 : n.count ≤ 16000) (hq : sqN n) (w : World) (C : Array Value) (h : NodeAt w n C) : Calls Tryd.prog 34 #[.agg C, .string old, .string young] w (RpPost (bl old) (bl young) n w) := by
  have key : ∀ N : Nat, ∀ n : Nd, n.count ≤ N → n.count ≤ 16000 → sqN n → ∀ (w : World) (C : Array Value), NodeAt w n C → Calls Tryd.prog 34 #[.agg C, .string old, .string young] w (RpPost (bl old) (bl young) n w) := by
    intro N
    induction N with
    | zero => intro n hn; have := n.count_pos; omega
    | succ N ih => exact rreplaced_step old young ho hy N ih
  exact key n.count n (Nat.le_refl _) h6 hq w C h
end Go.Proofs.YtpkbfljoakodoaaDoor
namespace Go.Proofs.YtpkbfljoakodoaaDoor
open Go.RowKit
open S2 (bl bl_len bl_inj splitB splitV Tab NTab)

theorem resultsRR : Tryd.f17.results = #[.cell 6 26, .tmp 7] := by kernel_rfl
set_option maxRecDepth 20000 in
set_option maxHeartbeats 4000000 in
theorem rreplace_ok (n : Nd) (f t : ByteArray) (w : World) (C : Array Value) (h : NodeAt w n C) (h6 : n.count ≤ 16000) (hfs : f.size ≤ 140737488355328) (hts : t.size ≤ 140737488355328) :
    Calls Tryd.prog 17 #[.agg C, .string f, .string t] w (RepPost n f t w) := by
  have hsi : (Tryd.prog.info? 26).map (·.size) = some C.size := by rw [infoN, h.size]
  have hb0 : Below w.heap.size w (w.alloc (.cells C 26)) := (Below.refl _ _).alloc (Nat.le_refl _) _
  have hb1 : Below w.heap.size w ((w.alloc (.cells C 26)).alloc (.cells nodeZ 26)) := hb0.alloc hb0.size _
  have HR : Hid (Row ((w.alloc (.cells C 26)).alloc (.cells nodeZ 26)) w.heap.size C 26) := (Row.new w C 26).alloc _
  have HZ : Hid (Row ((w.alloc (.cells C 26)).alloc (.cells nodeZ 26)) (w.heap.size + 1) nodeZ 26) := by
    have h := Row.new (w.alloc (.cells C 26)) nodeZ 26
    rw [World.size_alloc] at h
    exact h
  have HND : Hid (NodeAt w n C) := h
  generalize hwA : (w.alloc (.cells C 26)).alloc (.cells nodeZ 26) = wA at *
  have HX : Hid (∀ wx, Below wA.heap.size wA wx → Below w.heap.size w wx) := fun wx hx => hb1.trans (hx.mono hb1.size)
  have HZX : Hid (∀ wx, Below wA.heap.size wA wx → Row wx (w.heap.size + 1) nodeZ 26) := fun wx hx => Row.below HZ.out hx (Row.lt HZ.out)
  have HRX : Hid (∀ wx, Below wA.heap.size wA wx → Row wx w.heap.size C 26) := fun wx hx => Row.below HR.out hx (Row.lt HR.out)
  have HERR : Hid (∀ (wx : World) (e : Int), Below wA.heap.size wA wx → repE n f t = e → e ≠ 0 → RepPost n f t w (.returned (.tuple #[.agg nodeZ, .int .i64 e])) (wx.setRow (w.heap.size + 1) nodeZ)) := fun wx e hx he hne => by
    refine ⟨nodeZ, by rw [he], ?_, ?_⟩
    · have : repN n f t = .mk 0 false ⟨#[]⟩ [] [] := by unfold repN; rw [if_neg (by rw [he]; exact hne)]
      rw [this]
      exact nodeZ_on _ _
    · exact bel_setRow (HX.out wx hx) (by omega) _
  have hsf := S2.refSplit_ok f wA hfs
  have HST : Hid (∀ wx, Calls Tryd.prog 25 #[.string t] wx fun e w' => e = .returned (splitV t) ∧ Below wx.heap.size wx w') := fun wx => S2.refSplit_ok t wx hts
  clear h hb0 hb1
  cases hf : splitB (bl f) with
  | false =>
    rw [S2.splitV_no hf] at hsf
    cases ht : splitB (bl t) with
    | false =>
      rw [S2.splitV_no ht] at HST
      have hE : repE n f t = 17 := by unfold repE; rw [hf]; rfl
      have HE : Hid _ := hE
      clear hE hf ht
      go_enter Tryd.func17, Tryd.ntmps17
      go_wp2_with fail
      refine hsf.mono ?_
      rintro e w1 ⟨rfl, hb1⟩
      have hst := HST.out w1
      have HB1 : Hid _ := hb1
      clear hsf hb1
      go_wp2_with fail
      refine hst.mono ?_
      rintro e w2 ⟨rfl, hb2⟩
      have hb2' := HB1.out.trans (hb2.mono HB1.out.size)
      have HZ1 : Hid _ := HZX.out w2 hb2'
      have HP : Hid _ := HERR.out w2 17 hb2' HE.out (by decide)
      clear hst hb2 hb2'
      go_wp2_with (refine wpList_store_row rfl 26 _ _ rfl (w.heap.size + 1) nodeZ rfl rfl 26 nodeZ HZ1.out infoN rfl nodeZ_one ?_)
      exact bodyPost_ret (results_cell_row2 resultsRR _ _ (w.heap.size + 1) 26 nodeZ (0, 0) _ rfl (Row.setRow HZ1.out) Tryd.underlying26 rfl infoN) rfl HP.out
    | true =>
      rw [S2.splitV_yes ht] at HST
      have hE : repE n f t = 17 := by unfold repE; rw [hf]; rfl
      have HE : Hid _ := hE
      clear hE hf ht
      go_enter Tryd.func17, Tryd.ntmps17
      go_wp2_with fail
      refine hsf.mono ?_
      rintro e w1 ⟨rfl, hb1⟩
      have hst := HST.out w1
      have HB1 : Hid _ := hb1
      clear hsf hb1
      go_wp2_with fail
      refine hst.mono ?_
      rintro e w2 ⟨rfl, hb2⟩
      have hb2' := HB1.out.trans (hb2.mono HB1.out.size)
      have HZ1 : Hid _ := HZX.out w2 hb2'
      have HP : Hid _ := HERR.out w2 17 hb2' HE.out (by decide)
      clear hst hb2 hb2'
      go_wp2_with (refine wpList_store_row rfl 26 _ _ rfl (w.heap.size + 1) nodeZ rfl rfl 26 nodeZ HZ1.out infoN rfl nodeZ_one ?_)
      exact bodyPost_ret (results_cell_row2 resultsRR _ _ (w.heap.size + 1) 26 nodeZ (0, 0) _ rfl (Row.setRow HZ1.out) Tryd.underlying26 rfl infoN) rfl HP.out
  | true =>
    rw [S2.splitV_yes hf] at hsf
    cases ht : splitB (bl t) with
    | false =>
      rw [S2.splitV_no ht] at HST
      have hE : repE n f t = 17 := by unfold repE; rw [hf, ht]; rfl
      have HE : Hid _ := hE
      clear hE hf ht
      go_enter Tryd.func17, Tryd.ntmps17
      go_wp2_with fail
      refine hsf.mono ?_
      rintro e w1 ⟨rfl, hb1⟩
      have hst := HST.out w1
      have HB1 : Hid _ := hb1
      clear hsf hb1
      go_wp2_with fail
      refine hst.mono ?_
      rintro e w2 ⟨rfl, hb2⟩
      have hb2' := HB1.out.trans (hb2.mono HB1.out.size)
      have HZ1 : Hid _ := HZX.out w2 hb2'
      have HP : Hid _ := HERR.out w2 17 hb2' HE.out (by decide)
      clear hst hb2 hb2'
      go_wp2_with (refine wpList_store_row rfl 26 _ _ rfl (w.heap.size + 1) nodeZ rfl rfl 26 nodeZ HZ1.out infoN rfl nodeZ_one ?_)
      exact bodyPost_ret (results_cell_row2 resultsRR _ _ (w.heap.size + 1) 26 nodeZ (0, 0) _ rfl (Row.setRow HZ1.out) Tryd.underlying26 rfl infoN) rfl HP.out
    | true =>
      rw [S2.splitV_yes ht] at HST
      have hE : repE n f t = rightE n := by unfold repE; rw [hf, ht]; rfl
      have HRI : Hid (∀ wx, Below w.heap.size w wx → Calls Tryd.prog 13 #[.agg C] wx fun e w' => e = .returned (.int .i64 (rightE n)) ∧ Below wx.heap.size wx w') := fun wx hx => rright_ok n wx C (HND.out.keep hx) h6
      obtain ⟨r, hr⟩ : ∃ r, r = rightE n := ⟨_, rfl⟩
      have HRE : Hid _ := hr
      rw [← hr] at HRI hE
      have HE2 : Hid _ := hE
      obtain ⟨sf, hsfe⟩ : ∃ x, x = f.extract 7 39 := ⟨_, rfl⟩
      obtain ⟨st, hste⟩ : ∃ x, x = t.extract 7 39 := ⟨_, rfl⟩
      have HSF : Hid _ := hsfe
      have HSTT : Hid _ := hste
      have HS1 : Hid (sf.size = 32) := by show _ = _; rw [hsfe]; exact split_size hf
      have HS2 : Hid (st.size = 32) := by show _ = _; rw [hste]; exact split_size ht
      rw [← hsfe] at hsf
      rw [← hste] at HST
      clear hE hf ht hr hsfe hste
      go_enter Tryd.func17, Tryd.ntmps17
      go_wp2_with fail
      refine hsf.mono ?_
      rintro e w1 ⟨rfl, hb1⟩
      have hst := HST.out w1
      have HB1 : Hid _ := hb1
      clear hsf hb1
      go_wp2_with fail
      refine hst.mono ?_
      rintro e w2 ⟨rfl, hb2⟩
      have HB2 : Hid _ := HB1.out.trans (hb2.mono HB1.out.size)
      have hri := HRI.out w2 (HX.out w2 HB2.out)
      have HR2 : Hid _ := HRX.out w2 HB2.out
      clear hst hb2
      go_wp2_with (refine wpList_load_row rfl 26 _ rfl w.heap.size rfl 26 C (0, 0) _ HR2.out Tryd.underlying26 rfl hsi ?_)
      refine hri.mono ?_
      rintro e w3 ⟨rfl, hb3⟩
      have HB3 : Hid (Below wA.heap.size wA w3) := HB2.out.trans (hb3.mono HB2.out.size)
      have HZ1 : Hid _ := HZX.out w3 HB3.out
      have HR3 : Hid _ := HRX.out w3 HB3.out
      clear hri hb3
      by_cases h0 : r = 0
      · subst h0
        have hrp := rreplaced_ok sf st HS1.out HS2.out n h6 (right_sq n HRE.out.symm) w3 C (HND.out.keep (HX.out w3 HB3.out))
        go_wp2_with (first
          | refine wpList_load_row rfl 26 _ rfl w.heap.size rfl 26 C (0, 0) _ HR3.out Tryd.underlying26 rfl hsi ?_
          | (go_at_call 34; refine hrp.mono ?_; rintro e w6 ⟨C6, rfl, hN6, hb6⟩
             have hz6 := HZX.out w6 (HB3.out.trans (hb6.mono HB3.out.size))
             have HN6 : Hid _ := hN6
             have HB6 : Hid _ := hb6
             have HZ6 : Hid _ := hz6
             have hC6 := hN6.at'.size
             have h16 := NodeAt.one hN6.at'
             clear hrp hN6 hb6 hz6)
          | refine wpList_store_row rfl 26 _ _ rfl (w.heap.size + 1) C6 rfl rfl 26 nodeZ HZ6.out (by rw [infoN, hC6]) hC6.symm h16 ?_)
        have hs6 := HB6.out.size
        have hA : w.heap.size + 1 < wA.heap.size := Row.lt HZ.out
        have hB5s := HB3.out.size
        have hw3 := HX.out w3 HB3.out
        have hoth : ∀ q, q ≠ w.heap.size + 1 → (w6.setRow (w.heap.size + 1) C6).heap[q]? = w6.heap[q]? := fun q hq => setRow_other w6 (w.heap.size + 1) q _ hq
        have hss : (w6.setRow (w.heap.size + 1) C6).heap.size = w6.heap.size := by simp [World.setRow]
        have hsw : w.heap.size ≤ w3.heap.size := hw3.size
        refine bodyPost_ret (results_cell_row2 resultsRR _ _ (w.heap.size + 1) 26 C6 (0, 0) _ rfl (Row.setRow HZ6.out) Tryd.underlying26 rfl (by rw [infoN, hC6])) rfl ⟨C6, by rw [HE2.out]; rfl, ?_, bel_setRow (hw3.trans (HB6.out.mono hw3.size)) (by omega) _⟩
        have e : repN n f t = rpN (bl sf) (bl st) n := by
          unfold repN
          rw [if_pos HE2.out, HSF.out, HSTT.out, sgn_ex, sgn_ex]
        rw [e]
        exact (HN6.out.keep fun b hb => hoth b (by omega)).mono fun b hb => ⟨by omega, by rw [hss]; exact hb.2⟩
      · have hr0 : decide (r = 0) = false := decide_eq_false h0
        have hr1 : (r == 0) = false := by simpa using h0
        have HP : Hid _ := HERR.out w3 r HB3.out HE2.out h0
        go_wp2_with (refine wpList_store_row rfl 26 _ _ rfl (w.heap.size + 1) nodeZ rfl rfl 26 nodeZ HZ1.out infoN rfl nodeZ_one ?_)
        exact bodyPost_ret (results_cell_row2 resultsRR _ _ (w.heap.size + 1) 26 nodeZ (0, 0) _ rfl (Row.setRow HZ1.out) Tryd.underlying26 rfl infoN) rfl HP.out
end Go.Proofs.YtpkbfljoakodoaaDoor
