/- The walk of own: a node in memory of its own. -/
import Derived.Test.YtdbnnljlbfjobaaOwnSt
import Derived.Deep.DeepCutAuto
namespace Go.Proofs.Ytdbnnljlbfjobaa
open Go.RowKit

theorem own_slice {w : World} {base n s : Nat} {e : TypeId} {v : Value} {xs : List Value} (h : w.ownsRow base e s v n xs) : ∃ a c, v = .slice a n c := by
  obtain ⟨_, ⟨h1, h2⟩ | ⟨g, c, cur, h1, _⟩⟩ := h
  · exact ⟨none, 0, by rw [h1, h2]⟩
  · exact ⟨_, c, h1⟩
theorem resultsOwn : Try.f5.results = #[.cell 2 26] := by kernel_rfl
theorem NodeAt.lit {n : Nd} {C' : Array Value} {wn : World} (h : NodeAt wn n C') : ∃ k e da dl dc na nl nc ka kl kc, C' = nodeV k e da dl dc na nl nc ka kl kc := by
  cases h
  exact ⟨_, _, _, _, _, _, _, _, _, _, _, rfl⟩
theorem strs_one (ns : List ByteArray) : ∀ u ∈ ns.map Value.string, u.oneCell' = true := by
  intro u hu
  obtain ⟨s, _, rfl⟩ := List.mem_map.1 hu
  rfl

theorem d_store5 {md : Region.Mode} {ops : Array Oper} {S : World → Prop} {Q : Act → World → Prop} {a : Act} {w : World} {o : Oper} {i fuel : Nat} {listed : Array Bool} (x y : Operand) (hi : ops[i]? = some o) (hw : Region.wanted o (yielded ops a.tmps) = true) (ho : o.op = .store 26 x y) (hd : o.dst = none) (g : Nat) (hx : a.eval x = .pointer (some ⟨g, 0, none⟩)) (C : Array Value) (hC : C.size = 5) (hy : a.eval y = .agg C) (Z : Array Value) (hr : Row w g Z 26) (hZ : Z.size = 5) (h1 : C.all (·.oneCell') = true)
    (hS : S (w.setRow g C)) (k : wpAnyH Try.prog md ops (Only Q) S fuel (listed.setIfInBounds i true) a (w.setRow g C)) : DOp Try.prog md ops Q S fuel listed i a w :=
  d_wp hi hw (wp_store_row 26 x y ho g C hx hy 26 Z hr (by rw [infoN, hC]) (by rw [hZ, hC]) h1 (by rw [hd]; exact ⟨hS, k⟩))

set_option maxRecDepth 20000 in
set_option maxHeartbeats 8000000 in
theorem own_step (N : Nat) (IH : ∀ n : Nd, n.count ≤ N → n.count ≤ 6000 → ∀ (w : World) (C : Array Value), NodeAt w n C → Calls Try.prog 5 #[.agg C] w fun e w' => ∃ C', e = .returned (.agg C') ∧ NodeOn w' (fun b => w.heap.size ≤ b ∧ b < w'.heap.size) n C' ∧ Below w.heap.size w w')
    (n : Nd) (hN : n.count ≤ N + 1) (h6 : n.count ≤ 6000) (w : World) (C : Array Value) (h : NodeAt w n C) : Calls Try.prog 5 #[.agg C] w fun e w' => ∃ C', e = .returned (.agg C') ∧ NodeOn w' (fun b => w.heap.size ≤ b ∧ b < w'.heap.size) n C' ∧ Below w.heap.size w w' := by
  cases h with
  | @mk k e dt ns ks da dc na nc ka kb koff kc Cs hk hdt hn hks each =>
  have hb0 : Below w.heap.size w (w.alloc (.cells (nodeV k e da dt.size dc na ns.length nc ka ks.length kc) 26)) := (Below.refl _ _).alloc (Nat.le_refl _) _
  have hb1 : Below w.heap.size w ((w.alloc (.cells (nodeV k e da dt.size dc na ns.length nc ka ks.length kc) 26)).alloc (.cells (nodeV 0 false none 0 0 none 0 0 none 0 0) 26)) := hb0.alloc hb0.size _
  have HR : Hid _ := (Row.new w (nodeV k e da dt.size dc na ns.length nc ka ks.length kc) 26).alloc (.cells (nodeV 0 false none 0 0 none 0 0 none 0 0) 26)
  have HR2 : Hid _ := Row.new (w.alloc (.cells (nodeV k e da dt.size dc na ns.length nc ka ks.length kc) 26)) (nodeV 0 false none 0 0 none 0 0 none 0 0) 26
  obtain ⟨db, doff, hd1, hd3⟩ := hdt.ex
  obtain ⟨nb, noff, hn1, hn3⟩ := hn.ex
  have hd2 := hdt.nil
  have hn2 := hn.nil
  have hd4 := hdt.len
  have hn4 := hn.len
  have HNE : Hid _ := hn.each
  unfold big at hd4 hn4
  have HD0 : Hid (∀ wx, Below w.heap.size w wx → ∀ j u, (byts (bf dt) dt.size)[j]? = some u → wx.cell? ⟨db, doff + j, none⟩ = some u) := fun wx hb j u hj => by
    have hjl : j < dt.size := by
      have := (List.getElem?_eq_some_iff.1 hj).1
      simpa [byts] using this
    rw [byts_at _ _ _ hjl] at hj
    rw [← hj]
    exact (World.cell?_of_block (w := w) (hb.block db (World.block_lt_of_cell? _ _ (hd3 j hjl)))).trans (hd3 j hjl)
  have HN0 : Hid (∀ wx, Below w.heap.size w wx → ∀ j u, (ns.map Value.string)[j]? = some u → wx.cell? ⟨nb, noff + j, none⟩ = some u) := fun wx hb j u hj => by
    have hjl : j < ns.length := by
      have := (List.getElem?_eq_some_iff.1 hj).1
      simpa using this
    rw [List.getElem?_map, List.getElem?_eq_getElem hjl] at hj
    rw [← show some (Value.string ns[j]) = some u from hj]
    exact (World.cell?_of_block (w := w) (hb.block nb (World.block_lt_of_cell? _ _ (hn3 j hjl)))).trans (hn3 j hjl)
  have HK : Hid (∀ w', Below w.heap.size w w' → KidsAt w' ka kb koff ks.length kc Cs) := fun w' hb => hks.keep hb
  have HE : Hid (∀ w', Below w.heap.size w w' → ∀ i (h : i < ks.length), NodeAt w' ks[i] (Cs i)) := fun w' hb i h => (each i h).keep hb
  have hcap := hks.cap
  have hle := hks.le
  have hat := hks.at'
  unfold maxLen at hcap
  have HN : Hid _ := hN
  have H6 : Hid (Nd.countL ks ≤ 6000) := by simp only [Nd.count] at h6; show _ ≤ _; omega
  have HKL : Hid (ks.length ≤ 6000) := by have := Nd.countL_len ks; have := H6.out; show _ ≤ _; omega
  have HIH : Hid _ := IH
  have HKK : Hid _ := hk
  have hml : maxLen = 9223372036854775807 := rfl
  clear hks each hdt hn hN IH hk h6 hd3 hn3
  go_enter Try.func5, Try.ntmps5
  generalize hwA : (w.alloc (.cells (nodeV k e da dt.size dc na ns.length nc ka ks.length kc) 26)).alloc (.cells (nodeV 0 false none 0 0 none 0 0 none 0 0) 26) = wA at *
  have HDC : Hid (∀ wx, Below wA.heap.size wA wx → ∀ j u, (byts (bf dt) dt.size)[j]? = some u → wx.cell? ⟨db, doff + j, none⟩ = some u) := fun wx hb => HD0.out wx (hb1.trans (hb.mono hb1.size))
  have HNC : Hid (∀ wx, Below wA.heap.size wA wx → ∀ j u, (ns.map Value.string)[j]? = some u → wx.cell? ⟨nb, noff + j, none⟩ = some u) := fun wx hb => HN0.out wx (hb1.trans (hb.mono hb1.size))
  have HC0 : Hid (∀ wx, Below wA.heap.size wA wx → Row wx w.heap.size (nodeV k e da dt.size dc na ns.length nc ka ks.length kc) 26) := fun wx hb => Row.below HR.out hb (Row.lt HR.out)
  clear HD0 HN0
  go_upto_region 1 with fail
  go_cut [3] (fun v3 wx => ∃ g v12 v16, v3 = .pointer (some ⟨g, 0, none⟩) ∧ Hid (OwnL wA dt ns k e ks g v12 v16 0 (.slice none 0 0) (fun _ => #[]) wx))
  case first =>
    have hBd : Below wA.heap.size wA wA.drew := (Below.refl _ _).drew
    refine wp_region_dag [(false, 0), (false, 1), (false, 2), (false, 3), (false, 5), (false, 6), (false, 9), (false, 10)] #[true, true, true, true, false, true, true, false, false, true, true, false, false, false, false] 7 (fun wx => Below wA.heap.size wA wx) (by kernel_rfl) (by kernel_rfl) hBd ?_
    refine a_value (some 5) ?_ rfl rfl (by rfl) (fun w hw => ?_) ?_
    rotate_left
    · go_simp
      with_reducible rfl
    simp only [Act.put, List.setIfInBounds_toArray, List.set_cons_zero, List.set_cons_succ]
    refine a_value (some 6) ?_ rfl rfl (by rfl) (fun w hw => ?_) ?_
    rotate_left
    · have hc := (Row.cell (HC0.out _ hw) 0).trans (rfl : _ = some (Value.int .i64 k))
      go_simp
      with_reducible rfl
    simp only [Act.put, List.setIfInBounds_toArray, List.set_cons_zero, List.set_cons_succ]
    refine a_value (some 7) ?_ rfl rfl (by rfl) (fun w hw => ?_) ?_
    rotate_left
    · go_simp
      with_reducible rfl
    simp only [Act.put, List.setIfInBounds_toArray, List.set_cons_zero, List.set_cons_succ]
    refine a_value (some 8) ?_ rfl rfl (by rfl) (fun w hw => ?_) ?_
    rotate_left
    · have hc := (Row.cell (HC0.out _ hw) 1).trans (rfl : _ = some (Value.bool e))
      go_simp
      with_reducible rfl
    simp only [Act.put, List.setIfInBounds_toArray, List.set_cons_zero, List.set_cons_succ]
    refine a_value (some 10) ?_ rfl rfl (by rfl) (fun w hw => ?_) ?_
    rotate_left
    · go_simp
      with_reducible rfl
    simp only [Act.put, List.setIfInBounds_toArray, List.set_cons_zero, List.set_cons_succ]
    refine a_value (some 11) ?_ rfl rfl (by rfl) (fun w hw => ?_) ?_
    rotate_left
    · have hc := (Row.cell (HC0.out _ hw) 2).trans (rfl : _ = some (Value.slice da dt.size dc))
      go_simp
      with_reducible rfl
    simp only [Act.put, List.setIfInBounds_toArray, List.set_cons_zero, List.set_cons_succ]
    refine a_value (some 14) ?_ rfl rfl (by rfl) (fun w hw => ?_) ?_
    rotate_left
    · go_simp
      with_reducible rfl
    simp only [Act.put, List.setIfInBounds_toArray, List.set_cons_zero, List.set_cons_succ]
    refine a_value (some 15) ?_ rfl rfl (by rfl) (fun w hw => ?_) ?_
    rotate_left
    · have hc := (Row.cell (HC0.out _ hw) 3).trans (rfl : _ = some (Value.slice na ns.length nc))
      go_simp
      with_reducible rfl
    simp only [Act.put, List.setIfInBounds_toArray, List.set_cons_zero, List.set_cons_succ]
    refine a_done ?_
    have st0 : OwnSt wA dt ns false false false false false (.int .i64 0) (.int .i64 0) (.int .i64 0) (.int .i64 0) (.int .i64 0) wA.drew := OwnSt.start hBd
    generalize wA.drew = wx0 at *
    refine d_three (i := 4) (j := 8) (k := 13) (by kernel_rfl) ?_ ?_ ?_
    · refine d_alone (some 9) (.slice (some ⟨wx0.heap.size, 0, none⟩) 0 0) (wx0.alloc (.cells #[] 5)) rfl rfl (by rfl) (by kernel_rfl) st0.a4.old ?_
      have st1 := st0.a4
      generalize wx0.alloc (.cells #[] 5) = wx1 at *
      simp only [Act.put, List.setIfInBounds_toArray, List.set_cons_zero, List.set_cons_succ]
      refine d_three (i := 7) (j := 8) (k := 13) (by kernel_rfl) ?_ ?_ ?_
      · refine d_wp rfl (by rfl) ?_
        refine wp_append_any (some 12) rfl (.tmp 9) (.tmp 11) 22 5 (.int .u8 0) 1 1 Try.underlying22 Try.info5 rfl (by decide) rfl wA.heap.size _ 0 [] rfl (st1.s9 rfl rfl) da db doff dt.size dc (byts (bf dt) dt.size) (by simp [byts]) rfl hd1 (HDC.out wx1 st1.old) (byts_one _ _) hd2 (by omega) (by omega) st1.old.size ?_
        intro v' wx2 own' grow' _
        rw [Nat.zero_add, List.nil_append] at own'
        obtain ⟨a12, c12, rfl⟩ := own_slice own'
        have st2 := st1.a7 _ own' grow'
        refine ⟨st2.old, ?_⟩
        clear own' grow'
        simp only [Act.put, List.setIfInBounds_toArray, List.set_cons_zero, List.set_cons_succ]
        refine d_two (i := 8) (j := 13) (by kernel_rfl) ?_ ?_
        · refine d_alone (some 13) (.slice (some ⟨wx2.heap.size, 0, none⟩) 0 0) (wx2.alloc (.cells #[] 9)) rfl rfl (by rfl) (by kernel_rfl) st2.a8.old ?_
          have st3 := st2.a8
          generalize wx2.alloc (.cells #[] 9) = wx3 at *
          simp only [Act.put, List.setIfInBounds_toArray, List.set_cons_zero, List.set_cons_succ]
          refine d_two (i := 11) (j := 13) (by kernel_rfl) ?_ ?_
          · refine d_wp rfl (by rfl) ?_
            refine wp_append_any (some 16) rfl (.tmp 13) (.tmp 15) 23 9 (.string ⟨#[]⟩) 1 16 Try.underlying23 Try.info9 rfl (by decide) rfl wA.heap.size _ 0 [] rfl (st3.s13 rfl rfl) na nb noff ns.length nc (ns.map Value.string) (by simp) rfl hn1 (HNC.out wx3 st3.old) (strs_one ns) hn2 (by omega) (by omega) st3.old.size ?_
            intro v' wx4 own' grow' _
            rw [Nat.zero_add, List.nil_append] at own'
            obtain ⟨a16, c16, rfl⟩ := own_slice own'
            have st4 := st3.a11 _ own' grow'
            refine ⟨st4.old, ?_⟩
            clear own' grow'
            simp only [Act.put, List.setIfInBounds_toArray, List.set_cons_zero, List.set_cons_succ]
            refine d_two (i := 12) (j := 13) (by kernel_rfl) ?_ ?_
            · refine d_alone (some 17) (.agg #[.int .i64 k, .bool e, .slice a12 dt.size c12, .slice a16 ns.length c16, .slice none 0 0]) wx4 rfl rfl (by rfl) (by kernel_rfl) st4.old ?_
              have st5 := st4
              simp only [Act.put, List.setIfInBounds_toArray, List.set_cons_zero, List.set_cons_succ]
              refine d_one (i := 13) (by kernel_rfl) ?_
              refine d_alone (some 3) (.pointer (some ⟨wx4.heap.size, 0, none⟩)) (wx4.alloc (.cells (nodeV 0 false none 0 0 none 0 0 none 0 0) 26)) rfl rfl (by rfl) (by kernel_rfl) (st5.a13 (nodeV 0 false none 0 0 none 0 0 none 0 0) rfl).old ?_
              have st6 := st5.a13 (nodeV 0 false none 0 0 none 0 0 none 0 0) rfl
              generalize wx4.alloc (.cells (nodeV 0 false none 0 0 none 0 0 none 0 0) 26) = wx6 at *
              simp only [Act.put, List.setIfInBounds_toArray, List.set_cons_zero, List.set_cons_succ]
              refine d_one (i := 14) (by kernel_rfl) ?_
              obtain ⟨g, Z, hg3, hgr, hZ, hL, hbS⟩ := st6.store k e ks
              cases hg3
              have HL : Hid _ := hL
              refine d_store5 (.tmp 3) (.tmp 17) rfl (by rfl) rfl rfl _ rfl #[.int .i64 k, .bool e, .slice a12 dt.size c12, .slice a16 ns.length c16, .slice none 0 0] rfl rfl Z hgr hZ (nodeV_one _ _ _ _ _ _ _ _ _ _ _) (st6.old.trans hbS) ?_
              clear hL hbS hgr hZ
              refine d_done (by kernel_rfl) ?_
              try simp only [Exit.then]
              go_wp2
              go_meet
              exact ⟨_, _, _, rfl, HL⟩
            · refine d_alone (some 3) (.pointer (some ⟨wx4.heap.size, 0, none⟩)) (wx4.alloc (.cells (nodeV 0 false none 0 0 none 0 0 none 0 0) 26)) rfl rfl (by rfl) (by kernel_rfl) (st4.a13 (nodeV 0 false none 0 0 none 0 0 none 0 0) rfl).old ?_
              have st8 := st4.a13 (nodeV 0 false none 0 0 none 0 0 none 0 0) rfl
              generalize wx4.alloc (.cells (nodeV 0 false none 0 0 none 0 0 none 0 0) 26) = wx8 at *
              simp only [Act.put, List.setIfInBounds_toArray, List.set_cons_zero, List.set_cons_succ]
              refine d_one (i := 12) (by kernel_rfl) ?_
              refine d_alone (some 17) (.agg #[.int .i64 k, .bool e, .slice a12 dt.size c12, .slice a16 ns.length c16, .slice none 0 0]) wx8 rfl rfl (by rfl) (by kernel_rfl) st8.old ?_
              have st9 := st8
              simp only [Act.put, List.setIfInBounds_toArray, List.set_cons_zero, List.set_cons_succ]
              refine d_one (i := 14) (by kernel_rfl) ?_
              obtain ⟨g, Z, hg3, hgr, hZ, hL, hbS⟩ := st9.store k e ks
              cases hg3
              have HL : Hid _ := hL
              refine d_store5 (.tmp 3) (.tmp 17) rfl (by rfl) rfl rfl _ rfl #[.int .i64 k, .bool e, .slice a12 dt.size c12, .slice a16 ns.length c16, .slice none 0 0] rfl rfl Z hgr hZ (nodeV_one _ _ _ _ _ _ _ _ _ _ _) (st9.old.trans hbS) ?_
              clear hL hbS hgr hZ
              refine d_done (by kernel_rfl) ?_
              try simp only [Exit.then]
              go_wp2
              go_meet
              exact ⟨_, _, _, rfl, HL⟩
          · refine d_alone (some 3) (.pointer (some ⟨wx3.heap.size, 0, none⟩)) (wx3.alloc (.cells (nodeV 0 false none 0 0 none 0 0 none 0 0) 26)) rfl rfl (by rfl) (by kernel_rfl) (st3.a13 (nodeV 0 false none 0 0 none 0 0 none 0 0) rfl).old ?_
            have st11 := st3.a13 (nodeV 0 false none 0 0 none 0 0 none 0 0) rfl
            generalize wx3.alloc (.cells (nodeV 0 false none 0 0 none 0 0 none 0 0) 26) = wx11 at *
            simp only [Act.put, List.setIfInBounds_toArray, List.set_cons_zero, List.set_cons_succ]
            refine d_one (i := 11) (by kernel_rfl) ?_
            refine d_wp rfl (by rfl) ?_
            refine wp_append_any (some 16) rfl (.tmp 13) (.tmp 15) 23 9 (.string ⟨#[]⟩) 1 16 Try.underlying23 Try.info9 rfl (by decide) rfl wA.heap.size _ 0 [] rfl (st11.s13 rfl rfl) na nb noff ns.length nc (ns.map Value.string) (by simp) rfl hn1 (HNC.out wx11 st11.old) (strs_one ns) hn2 (by omega) (by omega) st11.old.size ?_
            intro v' wx12 own' grow' _
            rw [Nat.zero_add, List.nil_append] at own'
            obtain ⟨a16, c16, rfl⟩ := own_slice own'
            have st12 := st11.a11 _ own' grow'
            refine ⟨st12.old, ?_⟩
            clear own' grow'
            simp only [Act.put, List.setIfInBounds_toArray, List.set_cons_zero, List.set_cons_succ]
            refine d_one (i := 12) (by kernel_rfl) ?_
            refine d_alone (some 17) (.agg #[.int .i64 k, .bool e, .slice a12 dt.size c12, .slice a16 ns.length c16, .slice none 0 0]) wx12 rfl rfl (by rfl) (by kernel_rfl) st12.old ?_
            have st13 := st12
            simp only [Act.put, List.setIfInBounds_toArray, List.set_cons_zero, List.set_cons_succ]
            refine d_one (i := 14) (by kernel_rfl) ?_
            obtain ⟨g, Z, hg3, hgr, hZ, hL, hbS⟩ := st13.store k e ks
            cases hg3
            have HL : Hid _ := hL
            refine d_store5 (.tmp 3) (.tmp 17) rfl (by rfl) rfl rfl _ rfl #[.int .i64 k, .bool e, .slice a12 dt.size c12, .slice a16 ns.length c16, .slice none 0 0] rfl rfl Z hgr hZ (nodeV_one _ _ _ _ _ _ _ _ _ _ _) (st13.old.trans hbS) ?_
            clear hL hbS hgr hZ
            refine d_done (by kernel_rfl) ?_
            try simp only [Exit.then]
            go_wp2
            go_meet
            exact ⟨_, _, _, rfl, HL⟩
        · refine d_alone (some 3) (.pointer (some ⟨wx2.heap.size, 0, none⟩)) (wx2.alloc (.cells (nodeV 0 false none 0 0 none 0 0 none 0 0) 26)) rfl rfl (by rfl) (by kernel_rfl) (st2.a13 (nodeV 0 false none 0 0 none 0 0 none 0 0) rfl).old ?_
          have st15 := st2.a13 (nodeV 0 false none 0 0 none 0 0 none 0 0) rfl
          generalize wx2.alloc (.cells (nodeV 0 false none 0 0 none 0 0 none 0 0) 26) = wx15 at *
          simp only [Act.put, List.setIfInBounds_toArray, List.set_cons_zero, List.set_cons_succ]
          refine d_one (i := 8) (by kernel_rfl) ?_
          refine d_alone (some 13) (.slice (some ⟨wx15.heap.size, 0, none⟩) 0 0) (wx15.alloc (.cells #[] 9)) rfl rfl (by rfl) (by kernel_rfl) st15.a8.old ?_
          have st16 := st15.a8
          generalize wx15.alloc (.cells #[] 9) = wx16 at *
          simp only [Act.put, List.setIfInBounds_toArray, List.set_cons_zero, List.set_cons_succ]
          refine d_one (i := 11) (by kernel_rfl) ?_
          refine d_wp rfl (by rfl) ?_
          refine wp_append_any (some 16) rfl (.tmp 13) (.tmp 15) 23 9 (.string ⟨#[]⟩) 1 16 Try.underlying23 Try.info9 rfl (by decide) rfl wA.heap.size _ 0 [] rfl (st16.s13 rfl rfl) na nb noff ns.length nc (ns.map Value.string) (by simp) rfl hn1 (HNC.out wx16 st16.old) (strs_one ns) hn2 (by omega) (by omega) st16.old.size ?_
          intro v' wx17 own' grow' _
          rw [Nat.zero_add, List.nil_append] at own'
          obtain ⟨a16, c16, rfl⟩ := own_slice own'
          have st17 := st16.a11 _ own' grow'
          refine ⟨st17.old, ?_⟩
          clear own' grow'
          simp only [Act.put, List.setIfInBounds_toArray, List.set_cons_zero, List.set_cons_succ]
          refine d_one (i := 12) (by kernel_rfl) ?_
          refine d_alone (some 17) (.agg #[.int .i64 k, .bool e, .slice a12 dt.size c12, .slice a16 ns.length c16, .slice none 0 0]) wx17 rfl rfl (by rfl) (by kernel_rfl) st17.old ?_
          have st18 := st17
          simp only [Act.put, List.setIfInBounds_toArray, List.set_cons_zero, List.set_cons_succ]
          refine d_one (i := 14) (by kernel_rfl) ?_
          obtain ⟨g, Z, hg3, hgr, hZ, hL, hbS⟩ := st18.store k e ks
          cases hg3
          have HL : Hid _ := hL
          refine d_store5 (.tmp 3) (.tmp 17) rfl (by rfl) rfl rfl _ rfl #[.int .i64 k, .bool e, .slice a12 dt.size c12, .slice a16 ns.length c16, .slice none 0 0] rfl rfl Z hgr hZ (nodeV_one _ _ _ _ _ _ _ _ _ _ _) (st18.old.trans hbS) ?_
          clear hL hbS hgr hZ
          refine d_done (by kernel_rfl) ?_
          try simp only [Exit.then]
          go_wp2
          go_meet
          exact ⟨_, _, _, rfl, HL⟩
      · refine d_alone (some 13) (.slice (some ⟨wx1.heap.size, 0, none⟩) 0 0) (wx1.alloc (.cells #[] 9)) rfl rfl (by rfl) (by kernel_rfl) st1.a8.old ?_
        have st20 := st1.a8
        generalize wx1.alloc (.cells #[] 9) = wx20 at *
        simp only [Act.put, List.setIfInBounds_toArray, List.set_cons_zero, List.set_cons_succ]
        refine d_two (i := 7) (j := 13) (by kernel_rfl) ?_ ?_
        · refine d_wp rfl (by rfl) ?_
          refine wp_append_any (some 12) rfl (.tmp 9) (.tmp 11) 22 5 (.int .u8 0) 1 1 Try.underlying22 Try.info5 rfl (by decide) rfl wA.heap.size _ 0 [] rfl (st20.s9 rfl rfl) da db doff dt.size dc (byts (bf dt) dt.size) (by simp [byts]) rfl hd1 (HDC.out wx20 st20.old) (byts_one _ _) hd2 (by omega) (by omega) st20.old.size ?_
          intro v' wx21 own' grow' _
          rw [Nat.zero_add, List.nil_append] at own'
          obtain ⟨a12, c12, rfl⟩ := own_slice own'
          have st21 := st20.a7 _ own' grow'
          refine ⟨st21.old, ?_⟩
          clear own' grow'
          simp only [Act.put, List.setIfInBounds_toArray, List.set_cons_zero, List.set_cons_succ]
          refine d_two (i := 11) (j := 13) (by kernel_rfl) ?_ ?_
          · refine d_wp rfl (by rfl) ?_
            refine wp_append_any (some 16) rfl (.tmp 13) (.tmp 15) 23 9 (.string ⟨#[]⟩) 1 16 Try.underlying23 Try.info9 rfl (by decide) rfl wA.heap.size _ 0 [] rfl (st21.s13 rfl rfl) na nb noff ns.length nc (ns.map Value.string) (by simp) rfl hn1 (HNC.out wx21 st21.old) (strs_one ns) hn2 (by omega) (by omega) st21.old.size ?_
            intro v' wx22 own' grow' _
            rw [Nat.zero_add, List.nil_append] at own'
            obtain ⟨a16, c16, rfl⟩ := own_slice own'
            have st22 := st21.a11 _ own' grow'
            refine ⟨st22.old, ?_⟩
            clear own' grow'
            simp only [Act.put, List.setIfInBounds_toArray, List.set_cons_zero, List.set_cons_succ]
            refine d_two (i := 12) (j := 13) (by kernel_rfl) ?_ ?_
            · refine d_alone (some 17) (.agg #[.int .i64 k, .bool e, .slice a12 dt.size c12, .slice a16 ns.length c16, .slice none 0 0]) wx22 rfl rfl (by rfl) (by kernel_rfl) st22.old ?_
              have st23 := st22
              simp only [Act.put, List.setIfInBounds_toArray, List.set_cons_zero, List.set_cons_succ]
              refine d_one (i := 13) (by kernel_rfl) ?_
              refine d_alone (some 3) (.pointer (some ⟨wx22.heap.size, 0, none⟩)) (wx22.alloc (.cells (nodeV 0 false none 0 0 none 0 0 none 0 0) 26)) rfl rfl (by rfl) (by kernel_rfl) (st23.a13 (nodeV 0 false none 0 0 none 0 0 none 0 0) rfl).old ?_
              have st24 := st23.a13 (nodeV 0 false none 0 0 none 0 0 none 0 0) rfl
              generalize wx22.alloc (.cells (nodeV 0 false none 0 0 none 0 0 none 0 0) 26) = wx24 at *
              simp only [Act.put, List.setIfInBounds_toArray, List.set_cons_zero, List.set_cons_succ]
              refine d_one (i := 14) (by kernel_rfl) ?_
              obtain ⟨g, Z, hg3, hgr, hZ, hL, hbS⟩ := st24.store k e ks
              cases hg3
              have HL : Hid _ := hL
              refine d_store5 (.tmp 3) (.tmp 17) rfl (by rfl) rfl rfl _ rfl #[.int .i64 k, .bool e, .slice a12 dt.size c12, .slice a16 ns.length c16, .slice none 0 0] rfl rfl Z hgr hZ (nodeV_one _ _ _ _ _ _ _ _ _ _ _) (st24.old.trans hbS) ?_
              clear hL hbS hgr hZ
              refine d_done (by kernel_rfl) ?_
              try simp only [Exit.then]
              go_wp2
              go_meet
              exact ⟨_, _, _, rfl, HL⟩
            · refine d_alone (some 3) (.pointer (some ⟨wx22.heap.size, 0, none⟩)) (wx22.alloc (.cells (nodeV 0 false none 0 0 none 0 0 none 0 0) 26)) rfl rfl (by rfl) (by kernel_rfl) (st22.a13 (nodeV 0 false none 0 0 none 0 0 none 0 0) rfl).old ?_
              have st26 := st22.a13 (nodeV 0 false none 0 0 none 0 0 none 0 0) rfl
              generalize wx22.alloc (.cells (nodeV 0 false none 0 0 none 0 0 none 0 0) 26) = wx26 at *
              simp only [Act.put, List.setIfInBounds_toArray, List.set_cons_zero, List.set_cons_succ]
              refine d_one (i := 12) (by kernel_rfl) ?_
              refine d_alone (some 17) (.agg #[.int .i64 k, .bool e, .slice a12 dt.size c12, .slice a16 ns.length c16, .slice none 0 0]) wx26 rfl rfl (by rfl) (by kernel_rfl) st26.old ?_
              have st27 := st26
              simp only [Act.put, List.setIfInBounds_toArray, List.set_cons_zero, List.set_cons_succ]
              refine d_one (i := 14) (by kernel_rfl) ?_
              obtain ⟨g, Z, hg3, hgr, hZ, hL, hbS⟩ := st27.store k e ks
              cases hg3
              have HL : Hid _ := hL
              refine d_store5 (.tmp 3) (.tmp 17) rfl (by rfl) rfl rfl _ rfl #[.int .i64 k, .bool e, .slice a12 dt.size c12, .slice a16 ns.length c16, .slice none 0 0] rfl rfl Z hgr hZ (nodeV_one _ _ _ _ _ _ _ _ _ _ _) (st27.old.trans hbS) ?_
              clear hL hbS hgr hZ
              refine d_done (by kernel_rfl) ?_
              try simp only [Exit.then]
              go_wp2
              go_meet
              exact ⟨_, _, _, rfl, HL⟩
          · refine d_alone (some 3) (.pointer (some ⟨wx21.heap.size, 0, none⟩)) (wx21.alloc (.cells (nodeV 0 false none 0 0 none 0 0 none 0 0) 26)) rfl rfl (by rfl) (by kernel_rfl) (st21.a13 (nodeV 0 false none 0 0 none 0 0 none 0 0) rfl).old ?_
            have st29 := st21.a13 (nodeV 0 false none 0 0 none 0 0 none 0 0) rfl
            generalize wx21.alloc (.cells (nodeV 0 false none 0 0 none 0 0 none 0 0) 26) = wx29 at *
            simp only [Act.put, List.setIfInBounds_toArray, List.set_cons_zero, List.set_cons_succ]
            refine d_one (i := 11) (by kernel_rfl) ?_
            refine d_wp rfl (by rfl) ?_
            refine wp_append_any (some 16) rfl (.tmp 13) (.tmp 15) 23 9 (.string ⟨#[]⟩) 1 16 Try.underlying23 Try.info9 rfl (by decide) rfl wA.heap.size _ 0 [] rfl (st29.s13 rfl rfl) na nb noff ns.length nc (ns.map Value.string) (by simp) rfl hn1 (HNC.out wx29 st29.old) (strs_one ns) hn2 (by omega) (by omega) st29.old.size ?_
            intro v' wx30 own' grow' _
            rw [Nat.zero_add, List.nil_append] at own'
            obtain ⟨a16, c16, rfl⟩ := own_slice own'
            have st30 := st29.a11 _ own' grow'
            refine ⟨st30.old, ?_⟩
            clear own' grow'
            simp only [Act.put, List.setIfInBounds_toArray, List.set_cons_zero, List.set_cons_succ]
            refine d_one (i := 12) (by kernel_rfl) ?_
            refine d_alone (some 17) (.agg #[.int .i64 k, .bool e, .slice a12 dt.size c12, .slice a16 ns.length c16, .slice none 0 0]) wx30 rfl rfl (by rfl) (by kernel_rfl) st30.old ?_
            have st31 := st30
            simp only [Act.put, List.setIfInBounds_toArray, List.set_cons_zero, List.set_cons_succ]
            refine d_one (i := 14) (by kernel_rfl) ?_
            obtain ⟨g, Z, hg3, hgr, hZ, hL, hbS⟩ := st31.store k e ks
            cases hg3
            have HL : Hid _ := hL
            refine d_store5 (.tmp 3) (.tmp 17) rfl (by rfl) rfl rfl _ rfl #[.int .i64 k, .bool e, .slice a12 dt.size c12, .slice a16 ns.length c16, .slice none 0 0] rfl rfl Z hgr hZ (nodeV_one _ _ _ _ _ _ _ _ _ _ _) (st31.old.trans hbS) ?_
            clear hL hbS hgr hZ
            refine d_done (by kernel_rfl) ?_
            try simp only [Exit.then]
            go_wp2
            go_meet
            exact ⟨_, _, _, rfl, HL⟩
        · refine d_alone (some 3) (.pointer (some ⟨wx20.heap.size, 0, none⟩)) (wx20.alloc (.cells (nodeV 0 false none 0 0 none 0 0 none 0 0) 26)) rfl rfl (by rfl) (by kernel_rfl) (st20.a13 (nodeV 0 false none 0 0 none 0 0 none 0 0) rfl).old ?_
          have st33 := st20.a13 (nodeV 0 false none 0 0 none 0 0 none 0 0) rfl
          generalize wx20.alloc (.cells (nodeV 0 false none 0 0 none 0 0 none 0 0) 26) = wx33 at *
          simp only [Act.put, List.setIfInBounds_toArray, List.set_cons_zero, List.set_cons_succ]
          refine d_one (i := 7) (by kernel_rfl) ?_
          refine d_wp rfl (by rfl) ?_
          refine wp_append_any (some 12) rfl (.tmp 9) (.tmp 11) 22 5 (.int .u8 0) 1 1 Try.underlying22 Try.info5 rfl (by decide) rfl wA.heap.size _ 0 [] rfl (st33.s9 rfl rfl) da db doff dt.size dc (byts (bf dt) dt.size) (by simp [byts]) rfl hd1 (HDC.out wx33 st33.old) (byts_one _ _) hd2 (by omega) (by omega) st33.old.size ?_
          intro v' wx34 own' grow' _
          rw [Nat.zero_add, List.nil_append] at own'
          obtain ⟨a12, c12, rfl⟩ := own_slice own'
          have st34 := st33.a7 _ own' grow'
          refine ⟨st34.old, ?_⟩
          clear own' grow'
          simp only [Act.put, List.setIfInBounds_toArray, List.set_cons_zero, List.set_cons_succ]
          refine d_one (i := 11) (by kernel_rfl) ?_
          refine d_wp rfl (by rfl) ?_
          refine wp_append_any (some 16) rfl (.tmp 13) (.tmp 15) 23 9 (.string ⟨#[]⟩) 1 16 Try.underlying23 Try.info9 rfl (by decide) rfl wA.heap.size _ 0 [] rfl (st34.s13 rfl rfl) na nb noff ns.length nc (ns.map Value.string) (by simp) rfl hn1 (HNC.out wx34 st34.old) (strs_one ns) hn2 (by omega) (by omega) st34.old.size ?_
          intro v' wx35 own' grow' _
          rw [Nat.zero_add, List.nil_append] at own'
          obtain ⟨a16, c16, rfl⟩ := own_slice own'
          have st35 := st34.a11 _ own' grow'
          refine ⟨st35.old, ?_⟩
          clear own' grow'
          simp only [Act.put, List.setIfInBounds_toArray, List.set_cons_zero, List.set_cons_succ]
          refine d_one (i := 12) (by kernel_rfl) ?_
          refine d_alone (some 17) (.agg #[.int .i64 k, .bool e, .slice a12 dt.size c12, .slice a16 ns.length c16, .slice none 0 0]) wx35 rfl rfl (by rfl) (by kernel_rfl) st35.old ?_
          have st36 := st35
          simp only [Act.put, List.setIfInBounds_toArray, List.set_cons_zero, List.set_cons_succ]
          refine d_one (i := 14) (by kernel_rfl) ?_
          obtain ⟨g, Z, hg3, hgr, hZ, hL, hbS⟩ := st36.store k e ks
          cases hg3
          have HL : Hid _ := hL
          refine d_store5 (.tmp 3) (.tmp 17) rfl (by rfl) rfl rfl _ rfl #[.int .i64 k, .bool e, .slice a12 dt.size c12, .slice a16 ns.length c16, .slice none 0 0] rfl rfl Z hgr hZ (nodeV_one _ _ _ _ _ _ _ _ _ _ _) (st36.old.trans hbS) ?_
          clear hL hbS hgr hZ
          refine d_done (by kernel_rfl) ?_
          try simp only [Exit.then]
          go_wp2
          go_meet
          exact ⟨_, _, _, rfl, HL⟩
      · refine d_alone (some 3) (.pointer (some ⟨wx1.heap.size, 0, none⟩)) (wx1.alloc (.cells (nodeV 0 false none 0 0 none 0 0 none 0 0) 26)) rfl rfl (by rfl) (by kernel_rfl) (st1.a13 (nodeV 0 false none 0 0 none 0 0 none 0 0) rfl).old ?_
        have st38 := st1.a13 (nodeV 0 false none 0 0 none 0 0 none 0 0) rfl
        generalize wx1.alloc (.cells (nodeV 0 false none 0 0 none 0 0 none 0 0) 26) = wx38 at *
        simp only [Act.put, List.setIfInBounds_toArray, List.set_cons_zero, List.set_cons_succ]
        refine d_two (i := 7) (j := 8) (by kernel_rfl) ?_ ?_
        · refine d_wp rfl (by rfl) ?_
          refine wp_append_any (some 12) rfl (.tmp 9) (.tmp 11) 22 5 (.int .u8 0) 1 1 Try.underlying22 Try.info5 rfl (by decide) rfl wA.heap.size _ 0 [] rfl (st38.s9 rfl rfl) da db doff dt.size dc (byts (bf dt) dt.size) (by simp [byts]) rfl hd1 (HDC.out wx38 st38.old) (byts_one _ _) hd2 (by omega) (by omega) st38.old.size ?_
          intro v' wx39 own' grow' _
          rw [Nat.zero_add, List.nil_append] at own'
          obtain ⟨a12, c12, rfl⟩ := own_slice own'
          have st39 := st38.a7 _ own' grow'
          refine ⟨st39.old, ?_⟩
          clear own' grow'
          simp only [Act.put, List.setIfInBounds_toArray, List.set_cons_zero, List.set_cons_succ]
          refine d_one (i := 8) (by kernel_rfl) ?_
          refine d_alone (some 13) (.slice (some ⟨wx39.heap.size, 0, none⟩) 0 0) (wx39.alloc (.cells #[] 9)) rfl rfl (by rfl) (by kernel_rfl) st39.a8.old ?_
          have st40 := st39.a8
          generalize wx39.alloc (.cells #[] 9) = wx40 at *
          simp only [Act.put, List.setIfInBounds_toArray, List.set_cons_zero, List.set_cons_succ]
          refine d_one (i := 11) (by kernel_rfl) ?_
          refine d_wp rfl (by rfl) ?_
          refine wp_append_any (some 16) rfl (.tmp 13) (.tmp 15) 23 9 (.string ⟨#[]⟩) 1 16 Try.underlying23 Try.info9 rfl (by decide) rfl wA.heap.size _ 0 [] rfl (st40.s13 rfl rfl) na nb noff ns.length nc (ns.map Value.string) (by simp) rfl hn1 (HNC.out wx40 st40.old) (strs_one ns) hn2 (by omega) (by omega) st40.old.size ?_
          intro v' wx41 own' grow' _
          rw [Nat.zero_add, List.nil_append] at own'
          obtain ⟨a16, c16, rfl⟩ := own_slice own'
          have st41 := st40.a11 _ own' grow'
          refine ⟨st41.old, ?_⟩
          clear own' grow'
          simp only [Act.put, List.setIfInBounds_toArray, List.set_cons_zero, List.set_cons_succ]
          refine d_one (i := 12) (by kernel_rfl) ?_
          refine d_alone (some 17) (.agg #[.int .i64 k, .bool e, .slice a12 dt.size c12, .slice a16 ns.length c16, .slice none 0 0]) wx41 rfl rfl (by rfl) (by kernel_rfl) st41.old ?_
          have st42 := st41
          simp only [Act.put, List.setIfInBounds_toArray, List.set_cons_zero, List.set_cons_succ]
          refine d_one (i := 14) (by kernel_rfl) ?_
          obtain ⟨g, Z, hg3, hgr, hZ, hL, hbS⟩ := st42.store k e ks
          cases hg3
          have HL : Hid _ := hL
          refine d_store5 (.tmp 3) (.tmp 17) rfl (by rfl) rfl rfl _ rfl #[.int .i64 k, .bool e, .slice a12 dt.size c12, .slice a16 ns.length c16, .slice none 0 0] rfl rfl Z hgr hZ (nodeV_one _ _ _ _ _ _ _ _ _ _ _) (st42.old.trans hbS) ?_
          clear hL hbS hgr hZ
          refine d_done (by kernel_rfl) ?_
          try simp only [Exit.then]
          go_wp2
          go_meet
          exact ⟨_, _, _, rfl, HL⟩
        · refine d_alone (some 13) (.slice (some ⟨wx38.heap.size, 0, none⟩) 0 0) (wx38.alloc (.cells #[] 9)) rfl rfl (by rfl) (by kernel_rfl) st38.a8.old ?_
          have st44 := st38.a8
          generalize wx38.alloc (.cells #[] 9) = wx44 at *
          simp only [Act.put, List.setIfInBounds_toArray, List.set_cons_zero, List.set_cons_succ]
          refine d_one (i := 7) (by kernel_rfl) ?_
          refine d_wp rfl (by rfl) ?_
          refine wp_append_any (some 12) rfl (.tmp 9) (.tmp 11) 22 5 (.int .u8 0) 1 1 Try.underlying22 Try.info5 rfl (by decide) rfl wA.heap.size _ 0 [] rfl (st44.s9 rfl rfl) da db doff dt.size dc (byts (bf dt) dt.size) (by simp [byts]) rfl hd1 (HDC.out wx44 st44.old) (byts_one _ _) hd2 (by omega) (by omega) st44.old.size ?_
          intro v' wx45 own' grow' _
          rw [Nat.zero_add, List.nil_append] at own'
          obtain ⟨a12, c12, rfl⟩ := own_slice own'
          have st45 := st44.a7 _ own' grow'
          refine ⟨st45.old, ?_⟩
          clear own' grow'
          simp only [Act.put, List.setIfInBounds_toArray, List.set_cons_zero, List.set_cons_succ]
          refine d_one (i := 11) (by kernel_rfl) ?_
          refine d_wp rfl (by rfl) ?_
          refine wp_append_any (some 16) rfl (.tmp 13) (.tmp 15) 23 9 (.string ⟨#[]⟩) 1 16 Try.underlying23 Try.info9 rfl (by decide) rfl wA.heap.size _ 0 [] rfl (st45.s13 rfl rfl) na nb noff ns.length nc (ns.map Value.string) (by simp) rfl hn1 (HNC.out wx45 st45.old) (strs_one ns) hn2 (by omega) (by omega) st45.old.size ?_
          intro v' wx46 own' grow' _
          rw [Nat.zero_add, List.nil_append] at own'
          obtain ⟨a16, c16, rfl⟩ := own_slice own'
          have st46 := st45.a11 _ own' grow'
          refine ⟨st46.old, ?_⟩
          clear own' grow'
          simp only [Act.put, List.setIfInBounds_toArray, List.set_cons_zero, List.set_cons_succ]
          refine d_one (i := 12) (by kernel_rfl) ?_
          refine d_alone (some 17) (.agg #[.int .i64 k, .bool e, .slice a12 dt.size c12, .slice a16 ns.length c16, .slice none 0 0]) wx46 rfl rfl (by rfl) (by kernel_rfl) st46.old ?_
          have st47 := st46
          simp only [Act.put, List.setIfInBounds_toArray, List.set_cons_zero, List.set_cons_succ]
          refine d_one (i := 14) (by kernel_rfl) ?_
          obtain ⟨g, Z, hg3, hgr, hZ, hL, hbS⟩ := st47.store k e ks
          cases hg3
          have HL : Hid _ := hL
          refine d_store5 (.tmp 3) (.tmp 17) rfl (by rfl) rfl rfl _ rfl #[.int .i64 k, .bool e, .slice a12 dt.size c12, .slice a16 ns.length c16, .slice none 0 0] rfl rfl Z hgr hZ (nodeV_one _ _ _ _ _ _ _ _ _ _ _) (st47.old.trans hbS) ?_
          clear hL hbS hgr hZ
          refine d_done (by kernel_rfl) ?_
          try simp only [Exit.then]
          go_wp2
          go_meet
          exact ⟨_, _, _, rfl, HL⟩
    · refine d_alone (some 13) (.slice (some ⟨wx0.heap.size, 0, none⟩) 0 0) (wx0.alloc (.cells #[] 9)) rfl rfl (by rfl) (by kernel_rfl) st0.a8.old ?_
      have st49 := st0.a8
      generalize wx0.alloc (.cells #[] 9) = wx49 at *
      simp only [Act.put, List.setIfInBounds_toArray, List.set_cons_zero, List.set_cons_succ]
      refine d_two (i := 4) (j := 13) (by kernel_rfl) ?_ ?_
      · refine d_alone (some 9) (.slice (some ⟨wx49.heap.size, 0, none⟩) 0 0) (wx49.alloc (.cells #[] 5)) rfl rfl (by rfl) (by kernel_rfl) st49.a4.old ?_
        have st50 := st49.a4
        generalize wx49.alloc (.cells #[] 5) = wx50 at *
        simp only [Act.put, List.setIfInBounds_toArray, List.set_cons_zero, List.set_cons_succ]
        refine d_two (i := 7) (j := 13) (by kernel_rfl) ?_ ?_
        · refine d_wp rfl (by rfl) ?_
          refine wp_append_any (some 12) rfl (.tmp 9) (.tmp 11) 22 5 (.int .u8 0) 1 1 Try.underlying22 Try.info5 rfl (by decide) rfl wA.heap.size _ 0 [] rfl (st50.s9 rfl rfl) da db doff dt.size dc (byts (bf dt) dt.size) (by simp [byts]) rfl hd1 (HDC.out wx50 st50.old) (byts_one _ _) hd2 (by omega) (by omega) st50.old.size ?_
          intro v' wx51 own' grow' _
          rw [Nat.zero_add, List.nil_append] at own'
          obtain ⟨a12, c12, rfl⟩ := own_slice own'
          have st51 := st50.a7 _ own' grow'
          refine ⟨st51.old, ?_⟩
          clear own' grow'
          simp only [Act.put, List.setIfInBounds_toArray, List.set_cons_zero, List.set_cons_succ]
          refine d_two (i := 11) (j := 13) (by kernel_rfl) ?_ ?_
          · refine d_wp rfl (by rfl) ?_
            refine wp_append_any (some 16) rfl (.tmp 13) (.tmp 15) 23 9 (.string ⟨#[]⟩) 1 16 Try.underlying23 Try.info9 rfl (by decide) rfl wA.heap.size _ 0 [] rfl (st51.s13 rfl rfl) na nb noff ns.length nc (ns.map Value.string) (by simp) rfl hn1 (HNC.out wx51 st51.old) (strs_one ns) hn2 (by omega) (by omega) st51.old.size ?_
            intro v' wx52 own' grow' _
            rw [Nat.zero_add, List.nil_append] at own'
            obtain ⟨a16, c16, rfl⟩ := own_slice own'
            have st52 := st51.a11 _ own' grow'
            refine ⟨st52.old, ?_⟩
            clear own' grow'
            simp only [Act.put, List.setIfInBounds_toArray, List.set_cons_zero, List.set_cons_succ]
            refine d_two (i := 12) (j := 13) (by kernel_rfl) ?_ ?_
            · refine d_alone (some 17) (.agg #[.int .i64 k, .bool e, .slice a12 dt.size c12, .slice a16 ns.length c16, .slice none 0 0]) wx52 rfl rfl (by rfl) (by kernel_rfl) st52.old ?_
              have st53 := st52
              simp only [Act.put, List.setIfInBounds_toArray, List.set_cons_zero, List.set_cons_succ]
              refine d_one (i := 13) (by kernel_rfl) ?_
              refine d_alone (some 3) (.pointer (some ⟨wx52.heap.size, 0, none⟩)) (wx52.alloc (.cells (nodeV 0 false none 0 0 none 0 0 none 0 0) 26)) rfl rfl (by rfl) (by kernel_rfl) (st53.a13 (nodeV 0 false none 0 0 none 0 0 none 0 0) rfl).old ?_
              have st54 := st53.a13 (nodeV 0 false none 0 0 none 0 0 none 0 0) rfl
              generalize wx52.alloc (.cells (nodeV 0 false none 0 0 none 0 0 none 0 0) 26) = wx54 at *
              simp only [Act.put, List.setIfInBounds_toArray, List.set_cons_zero, List.set_cons_succ]
              refine d_one (i := 14) (by kernel_rfl) ?_
              obtain ⟨g, Z, hg3, hgr, hZ, hL, hbS⟩ := st54.store k e ks
              cases hg3
              have HL : Hid _ := hL
              refine d_store5 (.tmp 3) (.tmp 17) rfl (by rfl) rfl rfl _ rfl #[.int .i64 k, .bool e, .slice a12 dt.size c12, .slice a16 ns.length c16, .slice none 0 0] rfl rfl Z hgr hZ (nodeV_one _ _ _ _ _ _ _ _ _ _ _) (st54.old.trans hbS) ?_
              clear hL hbS hgr hZ
              refine d_done (by kernel_rfl) ?_
              try simp only [Exit.then]
              go_wp2
              go_meet
              exact ⟨_, _, _, rfl, HL⟩
            · refine d_alone (some 3) (.pointer (some ⟨wx52.heap.size, 0, none⟩)) (wx52.alloc (.cells (nodeV 0 false none 0 0 none 0 0 none 0 0) 26)) rfl rfl (by rfl) (by kernel_rfl) (st52.a13 (nodeV 0 false none 0 0 none 0 0 none 0 0) rfl).old ?_
              have st56 := st52.a13 (nodeV 0 false none 0 0 none 0 0 none 0 0) rfl
              generalize wx52.alloc (.cells (nodeV 0 false none 0 0 none 0 0 none 0 0) 26) = wx56 at *
              simp only [Act.put, List.setIfInBounds_toArray, List.set_cons_zero, List.set_cons_succ]
              refine d_one (i := 12) (by kernel_rfl) ?_
              refine d_alone (some 17) (.agg #[.int .i64 k, .bool e, .slice a12 dt.size c12, .slice a16 ns.length c16, .slice none 0 0]) wx56 rfl rfl (by rfl) (by kernel_rfl) st56.old ?_
              have st57 := st56
              simp only [Act.put, List.setIfInBounds_toArray, List.set_cons_zero, List.set_cons_succ]
              refine d_one (i := 14) (by kernel_rfl) ?_
              obtain ⟨g, Z, hg3, hgr, hZ, hL, hbS⟩ := st57.store k e ks
              cases hg3
              have HL : Hid _ := hL
              refine d_store5 (.tmp 3) (.tmp 17) rfl (by rfl) rfl rfl _ rfl #[.int .i64 k, .bool e, .slice a12 dt.size c12, .slice a16 ns.length c16, .slice none 0 0] rfl rfl Z hgr hZ (nodeV_one _ _ _ _ _ _ _ _ _ _ _) (st57.old.trans hbS) ?_
              clear hL hbS hgr hZ
              refine d_done (by kernel_rfl) ?_
              try simp only [Exit.then]
              go_wp2
              go_meet
              exact ⟨_, _, _, rfl, HL⟩
          · refine d_alone (some 3) (.pointer (some ⟨wx51.heap.size, 0, none⟩)) (wx51.alloc (.cells (nodeV 0 false none 0 0 none 0 0 none 0 0) 26)) rfl rfl (by rfl) (by kernel_rfl) (st51.a13 (nodeV 0 false none 0 0 none 0 0 none 0 0) rfl).old ?_
            have st59 := st51.a13 (nodeV 0 false none 0 0 none 0 0 none 0 0) rfl
            generalize wx51.alloc (.cells (nodeV 0 false none 0 0 none 0 0 none 0 0) 26) = wx59 at *
            simp only [Act.put, List.setIfInBounds_toArray, List.set_cons_zero, List.set_cons_succ]
            refine d_one (i := 11) (by kernel_rfl) ?_
            refine d_wp rfl (by rfl) ?_
            refine wp_append_any (some 16) rfl (.tmp 13) (.tmp 15) 23 9 (.string ⟨#[]⟩) 1 16 Try.underlying23 Try.info9 rfl (by decide) rfl wA.heap.size _ 0 [] rfl (st59.s13 rfl rfl) na nb noff ns.length nc (ns.map Value.string) (by simp) rfl hn1 (HNC.out wx59 st59.old) (strs_one ns) hn2 (by omega) (by omega) st59.old.size ?_
            intro v' wx60 own' grow' _
            rw [Nat.zero_add, List.nil_append] at own'
            obtain ⟨a16, c16, rfl⟩ := own_slice own'
            have st60 := st59.a11 _ own' grow'
            refine ⟨st60.old, ?_⟩
            clear own' grow'
            simp only [Act.put, List.setIfInBounds_toArray, List.set_cons_zero, List.set_cons_succ]
            refine d_one (i := 12) (by kernel_rfl) ?_
            refine d_alone (some 17) (.agg #[.int .i64 k, .bool e, .slice a12 dt.size c12, .slice a16 ns.length c16, .slice none 0 0]) wx60 rfl rfl (by rfl) (by kernel_rfl) st60.old ?_
            have st61 := st60
            simp only [Act.put, List.setIfInBounds_toArray, List.set_cons_zero, List.set_cons_succ]
            refine d_one (i := 14) (by kernel_rfl) ?_
            obtain ⟨g, Z, hg3, hgr, hZ, hL, hbS⟩ := st61.store k e ks
            cases hg3
            have HL : Hid _ := hL
            refine d_store5 (.tmp 3) (.tmp 17) rfl (by rfl) rfl rfl _ rfl #[.int .i64 k, .bool e, .slice a12 dt.size c12, .slice a16 ns.length c16, .slice none 0 0] rfl rfl Z hgr hZ (nodeV_one _ _ _ _ _ _ _ _ _ _ _) (st61.old.trans hbS) ?_
            clear hL hbS hgr hZ
            refine d_done (by kernel_rfl) ?_
            try simp only [Exit.then]
            go_wp2
            go_meet
            exact ⟨_, _, _, rfl, HL⟩
        · refine d_alone (some 3) (.pointer (some ⟨wx50.heap.size, 0, none⟩)) (wx50.alloc (.cells (nodeV 0 false none 0 0 none 0 0 none 0 0) 26)) rfl rfl (by rfl) (by kernel_rfl) (st50.a13 (nodeV 0 false none 0 0 none 0 0 none 0 0) rfl).old ?_
          have st63 := st50.a13 (nodeV 0 false none 0 0 none 0 0 none 0 0) rfl
          generalize wx50.alloc (.cells (nodeV 0 false none 0 0 none 0 0 none 0 0) 26) = wx63 at *
          simp only [Act.put, List.setIfInBounds_toArray, List.set_cons_zero, List.set_cons_succ]
          refine d_one (i := 7) (by kernel_rfl) ?_
          refine d_wp rfl (by rfl) ?_
          refine wp_append_any (some 12) rfl (.tmp 9) (.tmp 11) 22 5 (.int .u8 0) 1 1 Try.underlying22 Try.info5 rfl (by decide) rfl wA.heap.size _ 0 [] rfl (st63.s9 rfl rfl) da db doff dt.size dc (byts (bf dt) dt.size) (by simp [byts]) rfl hd1 (HDC.out wx63 st63.old) (byts_one _ _) hd2 (by omega) (by omega) st63.old.size ?_
          intro v' wx64 own' grow' _
          rw [Nat.zero_add, List.nil_append] at own'
          obtain ⟨a12, c12, rfl⟩ := own_slice own'
          have st64 := st63.a7 _ own' grow'
          refine ⟨st64.old, ?_⟩
          clear own' grow'
          simp only [Act.put, List.setIfInBounds_toArray, List.set_cons_zero, List.set_cons_succ]
          refine d_one (i := 11) (by kernel_rfl) ?_
          refine d_wp rfl (by rfl) ?_
          refine wp_append_any (some 16) rfl (.tmp 13) (.tmp 15) 23 9 (.string ⟨#[]⟩) 1 16 Try.underlying23 Try.info9 rfl (by decide) rfl wA.heap.size _ 0 [] rfl (st64.s13 rfl rfl) na nb noff ns.length nc (ns.map Value.string) (by simp) rfl hn1 (HNC.out wx64 st64.old) (strs_one ns) hn2 (by omega) (by omega) st64.old.size ?_
          intro v' wx65 own' grow' _
          rw [Nat.zero_add, List.nil_append] at own'
          obtain ⟨a16, c16, rfl⟩ := own_slice own'
          have st65 := st64.a11 _ own' grow'
          refine ⟨st65.old, ?_⟩
          clear own' grow'
          simp only [Act.put, List.setIfInBounds_toArray, List.set_cons_zero, List.set_cons_succ]
          refine d_one (i := 12) (by kernel_rfl) ?_
          refine d_alone (some 17) (.agg #[.int .i64 k, .bool e, .slice a12 dt.size c12, .slice a16 ns.length c16, .slice none 0 0]) wx65 rfl rfl (by rfl) (by kernel_rfl) st65.old ?_
          have st66 := st65
          simp only [Act.put, List.setIfInBounds_toArray, List.set_cons_zero, List.set_cons_succ]
          refine d_one (i := 14) (by kernel_rfl) ?_
          obtain ⟨g, Z, hg3, hgr, hZ, hL, hbS⟩ := st66.store k e ks
          cases hg3
          have HL : Hid _ := hL
          refine d_store5 (.tmp 3) (.tmp 17) rfl (by rfl) rfl rfl _ rfl #[.int .i64 k, .bool e, .slice a12 dt.size c12, .slice a16 ns.length c16, .slice none 0 0] rfl rfl Z hgr hZ (nodeV_one _ _ _ _ _ _ _ _ _ _ _) (st66.old.trans hbS) ?_
          clear hL hbS hgr hZ
          refine d_done (by kernel_rfl) ?_
          try simp only [Exit.then]
          go_wp2
          go_meet
          exact ⟨_, _, _, rfl, HL⟩
      · refine d_alone (some 3) (.pointer (some ⟨wx49.heap.size, 0, none⟩)) (wx49.alloc (.cells (nodeV 0 false none 0 0 none 0 0 none 0 0) 26)) rfl rfl (by rfl) (by kernel_rfl) (st49.a13 (nodeV 0 false none 0 0 none 0 0 none 0 0) rfl).old ?_
        have st68 := st49.a13 (nodeV 0 false none 0 0 none 0 0 none 0 0) rfl
        generalize wx49.alloc (.cells (nodeV 0 false none 0 0 none 0 0 none 0 0) 26) = wx68 at *
        simp only [Act.put, List.setIfInBounds_toArray, List.set_cons_zero, List.set_cons_succ]
        refine d_one (i := 4) (by kernel_rfl) ?_
        refine d_alone (some 9) (.slice (some ⟨wx68.heap.size, 0, none⟩) 0 0) (wx68.alloc (.cells #[] 5)) rfl rfl (by rfl) (by kernel_rfl) st68.a4.old ?_
        have st69 := st68.a4
        generalize wx68.alloc (.cells #[] 5) = wx69 at *
        simp only [Act.put, List.setIfInBounds_toArray, List.set_cons_zero, List.set_cons_succ]
        refine d_one (i := 7) (by kernel_rfl) ?_
        refine d_wp rfl (by rfl) ?_
        refine wp_append_any (some 12) rfl (.tmp 9) (.tmp 11) 22 5 (.int .u8 0) 1 1 Try.underlying22 Try.info5 rfl (by decide) rfl wA.heap.size _ 0 [] rfl (st69.s9 rfl rfl) da db doff dt.size dc (byts (bf dt) dt.size) (by simp [byts]) rfl hd1 (HDC.out wx69 st69.old) (byts_one _ _) hd2 (by omega) (by omega) st69.old.size ?_
        intro v' wx70 own' grow' _
        rw [Nat.zero_add, List.nil_append] at own'
        obtain ⟨a12, c12, rfl⟩ := own_slice own'
        have st70 := st69.a7 _ own' grow'
        refine ⟨st70.old, ?_⟩
        clear own' grow'
        simp only [Act.put, List.setIfInBounds_toArray, List.set_cons_zero, List.set_cons_succ]
        refine d_one (i := 11) (by kernel_rfl) ?_
        refine d_wp rfl (by rfl) ?_
        refine wp_append_any (some 16) rfl (.tmp 13) (.tmp 15) 23 9 (.string ⟨#[]⟩) 1 16 Try.underlying23 Try.info9 rfl (by decide) rfl wA.heap.size _ 0 [] rfl (st70.s13 rfl rfl) na nb noff ns.length nc (ns.map Value.string) (by simp) rfl hn1 (HNC.out wx70 st70.old) (strs_one ns) hn2 (by omega) (by omega) st70.old.size ?_
        intro v' wx71 own' grow' _
        rw [Nat.zero_add, List.nil_append] at own'
        obtain ⟨a16, c16, rfl⟩ := own_slice own'
        have st71 := st70.a11 _ own' grow'
        refine ⟨st71.old, ?_⟩
        clear own' grow'
        simp only [Act.put, List.setIfInBounds_toArray, List.set_cons_zero, List.set_cons_succ]
        refine d_one (i := 12) (by kernel_rfl) ?_
        refine d_alone (some 17) (.agg #[.int .i64 k, .bool e, .slice a12 dt.size c12, .slice a16 ns.length c16, .slice none 0 0]) wx71 rfl rfl (by rfl) (by kernel_rfl) st71.old ?_
        have st72 := st71
        simp only [Act.put, List.setIfInBounds_toArray, List.set_cons_zero, List.set_cons_succ]
        refine d_one (i := 14) (by kernel_rfl) ?_
        obtain ⟨g, Z, hg3, hgr, hZ, hL, hbS⟩ := st72.store k e ks
        cases hg3
        have HL : Hid _ := hL
        refine d_store5 (.tmp 3) (.tmp 17) rfl (by rfl) rfl rfl _ rfl #[.int .i64 k, .bool e, .slice a12 dt.size c12, .slice a16 ns.length c16, .slice none 0 0] rfl rfl Z hgr hZ (nodeV_one _ _ _ _ _ _ _ _ _ _ _) (st72.old.trans hbS) ?_
        clear hL hbS hgr hZ
        refine d_done (by kernel_rfl) ?_
        try simp only [Exit.then]
        go_wp2
        go_meet
        exact ⟨_, _, _, rfl, HL⟩
    · refine d_alone (some 3) (.pointer (some ⟨wx0.heap.size, 0, none⟩)) (wx0.alloc (.cells (nodeV 0 false none 0 0 none 0 0 none 0 0) 26)) rfl rfl (by rfl) (by kernel_rfl) (st0.a13 (nodeV 0 false none 0 0 none 0 0 none 0 0) rfl).old ?_
      have st74 := st0.a13 (nodeV 0 false none 0 0 none 0 0 none 0 0) rfl
      generalize wx0.alloc (.cells (nodeV 0 false none 0 0 none 0 0 none 0 0) 26) = wx74 at *
      simp only [Act.put, List.setIfInBounds_toArray, List.set_cons_zero, List.set_cons_succ]
      refine d_two (i := 4) (j := 8) (by kernel_rfl) ?_ ?_
      · refine d_alone (some 9) (.slice (some ⟨wx74.heap.size, 0, none⟩) 0 0) (wx74.alloc (.cells #[] 5)) rfl rfl (by rfl) (by kernel_rfl) st74.a4.old ?_
        have st75 := st74.a4
        generalize wx74.alloc (.cells #[] 5) = wx75 at *
        simp only [Act.put, List.setIfInBounds_toArray, List.set_cons_zero, List.set_cons_succ]
        refine d_two (i := 7) (j := 8) (by kernel_rfl) ?_ ?_
        · refine d_wp rfl (by rfl) ?_
          refine wp_append_any (some 12) rfl (.tmp 9) (.tmp 11) 22 5 (.int .u8 0) 1 1 Try.underlying22 Try.info5 rfl (by decide) rfl wA.heap.size _ 0 [] rfl (st75.s9 rfl rfl) da db doff dt.size dc (byts (bf dt) dt.size) (by simp [byts]) rfl hd1 (HDC.out wx75 st75.old) (byts_one _ _) hd2 (by omega) (by omega) st75.old.size ?_
          intro v' wx76 own' grow' _
          rw [Nat.zero_add, List.nil_append] at own'
          obtain ⟨a12, c12, rfl⟩ := own_slice own'
          have st76 := st75.a7 _ own' grow'
          refine ⟨st76.old, ?_⟩
          clear own' grow'
          simp only [Act.put, List.setIfInBounds_toArray, List.set_cons_zero, List.set_cons_succ]
          refine d_one (i := 8) (by kernel_rfl) ?_
          refine d_alone (some 13) (.slice (some ⟨wx76.heap.size, 0, none⟩) 0 0) (wx76.alloc (.cells #[] 9)) rfl rfl (by rfl) (by kernel_rfl) st76.a8.old ?_
          have st77 := st76.a8
          generalize wx76.alloc (.cells #[] 9) = wx77 at *
          simp only [Act.put, List.setIfInBounds_toArray, List.set_cons_zero, List.set_cons_succ]
          refine d_one (i := 11) (by kernel_rfl) ?_
          refine d_wp rfl (by rfl) ?_
          refine wp_append_any (some 16) rfl (.tmp 13) (.tmp 15) 23 9 (.string ⟨#[]⟩) 1 16 Try.underlying23 Try.info9 rfl (by decide) rfl wA.heap.size _ 0 [] rfl (st77.s13 rfl rfl) na nb noff ns.length nc (ns.map Value.string) (by simp) rfl hn1 (HNC.out wx77 st77.old) (strs_one ns) hn2 (by omega) (by omega) st77.old.size ?_
          intro v' wx78 own' grow' _
          rw [Nat.zero_add, List.nil_append] at own'
          obtain ⟨a16, c16, rfl⟩ := own_slice own'
          have st78 := st77.a11 _ own' grow'
          refine ⟨st78.old, ?_⟩
          clear own' grow'
          simp only [Act.put, List.setIfInBounds_toArray, List.set_cons_zero, List.set_cons_succ]
          refine d_one (i := 12) (by kernel_rfl) ?_
          refine d_alone (some 17) (.agg #[.int .i64 k, .bool e, .slice a12 dt.size c12, .slice a16 ns.length c16, .slice none 0 0]) wx78 rfl rfl (by rfl) (by kernel_rfl) st78.old ?_
          have st79 := st78
          simp only [Act.put, List.setIfInBounds_toArray, List.set_cons_zero, List.set_cons_succ]
          refine d_one (i := 14) (by kernel_rfl) ?_
          obtain ⟨g, Z, hg3, hgr, hZ, hL, hbS⟩ := st79.store k e ks
          cases hg3
          have HL : Hid _ := hL
          refine d_store5 (.tmp 3) (.tmp 17) rfl (by rfl) rfl rfl _ rfl #[.int .i64 k, .bool e, .slice a12 dt.size c12, .slice a16 ns.length c16, .slice none 0 0] rfl rfl Z hgr hZ (nodeV_one _ _ _ _ _ _ _ _ _ _ _) (st79.old.trans hbS) ?_
          clear hL hbS hgr hZ
          refine d_done (by kernel_rfl) ?_
          try simp only [Exit.then]
          go_wp2
          go_meet
          exact ⟨_, _, _, rfl, HL⟩
        · refine d_alone (some 13) (.slice (some ⟨wx75.heap.size, 0, none⟩) 0 0) (wx75.alloc (.cells #[] 9)) rfl rfl (by rfl) (by kernel_rfl) st75.a8.old ?_
          have st81 := st75.a8
          generalize wx75.alloc (.cells #[] 9) = wx81 at *
          simp only [Act.put, List.setIfInBounds_toArray, List.set_cons_zero, List.set_cons_succ]
          refine d_one (i := 7) (by kernel_rfl) ?_
          refine d_wp rfl (by rfl) ?_
          refine wp_append_any (some 12) rfl (.tmp 9) (.tmp 11) 22 5 (.int .u8 0) 1 1 Try.underlying22 Try.info5 rfl (by decide) rfl wA.heap.size _ 0 [] rfl (st81.s9 rfl rfl) da db doff dt.size dc (byts (bf dt) dt.size) (by simp [byts]) rfl hd1 (HDC.out wx81 st81.old) (byts_one _ _) hd2 (by omega) (by omega) st81.old.size ?_
          intro v' wx82 own' grow' _
          rw [Nat.zero_add, List.nil_append] at own'
          obtain ⟨a12, c12, rfl⟩ := own_slice own'
          have st82 := st81.a7 _ own' grow'
          refine ⟨st82.old, ?_⟩
          clear own' grow'
          simp only [Act.put, List.setIfInBounds_toArray, List.set_cons_zero, List.set_cons_succ]
          refine d_one (i := 11) (by kernel_rfl) ?_
          refine d_wp rfl (by rfl) ?_
          refine wp_append_any (some 16) rfl (.tmp 13) (.tmp 15) 23 9 (.string ⟨#[]⟩) 1 16 Try.underlying23 Try.info9 rfl (by decide) rfl wA.heap.size _ 0 [] rfl (st82.s13 rfl rfl) na nb noff ns.length nc (ns.map Value.string) (by simp) rfl hn1 (HNC.out wx82 st82.old) (strs_one ns) hn2 (by omega) (by omega) st82.old.size ?_
          intro v' wx83 own' grow' _
          rw [Nat.zero_add, List.nil_append] at own'
          obtain ⟨a16, c16, rfl⟩ := own_slice own'
          have st83 := st82.a11 _ own' grow'
          refine ⟨st83.old, ?_⟩
          clear own' grow'
          simp only [Act.put, List.setIfInBounds_toArray, List.set_cons_zero, List.set_cons_succ]
          refine d_one (i := 12) (by kernel_rfl) ?_
          refine d_alone (some 17) (.agg #[.int .i64 k, .bool e, .slice a12 dt.size c12, .slice a16 ns.length c16, .slice none 0 0]) wx83 rfl rfl (by rfl) (by kernel_rfl) st83.old ?_
          have st84 := st83
          simp only [Act.put, List.setIfInBounds_toArray, List.set_cons_zero, List.set_cons_succ]
          refine d_one (i := 14) (by kernel_rfl) ?_
          obtain ⟨g, Z, hg3, hgr, hZ, hL, hbS⟩ := st84.store k e ks
          cases hg3
          have HL : Hid _ := hL
          refine d_store5 (.tmp 3) (.tmp 17) rfl (by rfl) rfl rfl _ rfl #[.int .i64 k, .bool e, .slice a12 dt.size c12, .slice a16 ns.length c16, .slice none 0 0] rfl rfl Z hgr hZ (nodeV_one _ _ _ _ _ _ _ _ _ _ _) (st84.old.trans hbS) ?_
          clear hL hbS hgr hZ
          refine d_done (by kernel_rfl) ?_
          try simp only [Exit.then]
          go_wp2
          go_meet
          exact ⟨_, _, _, rfl, HL⟩
      · refine d_alone (some 13) (.slice (some ⟨wx74.heap.size, 0, none⟩) 0 0) (wx74.alloc (.cells #[] 9)) rfl rfl (by rfl) (by kernel_rfl) st74.a8.old ?_
        have st86 := st74.a8
        generalize wx74.alloc (.cells #[] 9) = wx86 at *
        simp only [Act.put, List.setIfInBounds_toArray, List.set_cons_zero, List.set_cons_succ]
        refine d_one (i := 4) (by kernel_rfl) ?_
        refine d_alone (some 9) (.slice (some ⟨wx86.heap.size, 0, none⟩) 0 0) (wx86.alloc (.cells #[] 5)) rfl rfl (by rfl) (by kernel_rfl) st86.a4.old ?_
        have st87 := st86.a4
        generalize wx86.alloc (.cells #[] 5) = wx87 at *
        simp only [Act.put, List.setIfInBounds_toArray, List.set_cons_zero, List.set_cons_succ]
        refine d_one (i := 7) (by kernel_rfl) ?_
        refine d_wp rfl (by rfl) ?_
        refine wp_append_any (some 12) rfl (.tmp 9) (.tmp 11) 22 5 (.int .u8 0) 1 1 Try.underlying22 Try.info5 rfl (by decide) rfl wA.heap.size _ 0 [] rfl (st87.s9 rfl rfl) da db doff dt.size dc (byts (bf dt) dt.size) (by simp [byts]) rfl hd1 (HDC.out wx87 st87.old) (byts_one _ _) hd2 (by omega) (by omega) st87.old.size ?_
        intro v' wx88 own' grow' _
        rw [Nat.zero_add, List.nil_append] at own'
        obtain ⟨a12, c12, rfl⟩ := own_slice own'
        have st88 := st87.a7 _ own' grow'
        refine ⟨st88.old, ?_⟩
        clear own' grow'
        simp only [Act.put, List.setIfInBounds_toArray, List.set_cons_zero, List.set_cons_succ]
        refine d_one (i := 11) (by kernel_rfl) ?_
        refine d_wp rfl (by rfl) ?_
        refine wp_append_any (some 16) rfl (.tmp 13) (.tmp 15) 23 9 (.string ⟨#[]⟩) 1 16 Try.underlying23 Try.info9 rfl (by decide) rfl wA.heap.size _ 0 [] rfl (st88.s13 rfl rfl) na nb noff ns.length nc (ns.map Value.string) (by simp) rfl hn1 (HNC.out wx88 st88.old) (strs_one ns) hn2 (by omega) (by omega) st88.old.size ?_
        intro v' wx89 own' grow' _
        rw [Nat.zero_add, List.nil_append] at own'
        obtain ⟨a16, c16, rfl⟩ := own_slice own'
        have st89 := st88.a11 _ own' grow'
        refine ⟨st89.old, ?_⟩
        clear own' grow'
        simp only [Act.put, List.setIfInBounds_toArray, List.set_cons_zero, List.set_cons_succ]
        refine d_one (i := 12) (by kernel_rfl) ?_
        refine d_alone (some 17) (.agg #[.int .i64 k, .bool e, .slice a12 dt.size c12, .slice a16 ns.length c16, .slice none 0 0]) wx89 rfl rfl (by rfl) (by kernel_rfl) st89.old ?_
        have st90 := st89
        simp only [Act.put, List.setIfInBounds_toArray, List.set_cons_zero, List.set_cons_succ]
        refine d_one (i := 14) (by kernel_rfl) ?_
        obtain ⟨g, Z, hg3, hgr, hZ, hL, hbS⟩ := st90.store k e ks
        cases hg3
        have HL : Hid _ := hL
        refine d_store5 (.tmp 3) (.tmp 17) rfl (by rfl) rfl rfl _ rfl #[.int .i64 k, .bool e, .slice a12 dt.size c12, .slice a16 ns.length c16, .slice none 0 0] rfl rfl Z hgr hZ (nodeV_one _ _ _ _ _ _ _ _ _ _ _) (st90.old.trans hbS) ?_
        clear hL hbS hgr hZ
        refine d_done (by kernel_rfl) ?_
        try simp only [Exit.then]
        go_wp2
        go_meet
        exact ⟨_, _, _, rfl, HL⟩
  case rest =>
    obtain ⟨g, v12, v16, rfl, HL0⟩ := hcut
    obtain ⟨a12, c12, rfl⟩ := own_slice HL0.out.b12
    obtain ⟨a16, c16, rfl⟩ := own_slice HL0.out.b16
    clear HDC HNC hd1 hd2 hn1 hn2
    go_wp2
    go_loopw [4] (fun iv wx => ∃ (i : Nat) (kv : Value) (Ks : Nat → Array Value), iv = .int .i64 i ∧ i ≤ ks.length ∧ Hid (OwnL wA dt ns k e ks g (.slice a12 dt.size c12) (.slice a16 ns.length c16) i kv Ks wx)) (fun iv _ => ks.length - (intOf iv).toNat)
    case atStart => exact ⟨0, .slice none 0 0, fun _ => #[], rfl, Nat.zero_le _, HL0⟩
    case round =>
      obtain ⟨i, kv, Ks, rfl, hi, HL⟩ := hrel
      obtain ⟨ka2, kc2, rfl⟩ := own_slice HL.out.kids
      have c4 := (Row.cell (HC0.out wr HL.out.old) 4).trans (rfl : _ = some (Value.slice ka ks.length kc))
      have hkl := HKL.out
      by_cases hlt : i < ks.length
      · have hlt' : (i : Int) < (ks.length : Int) := by omega
        obtain rfl := hat (by omega)
        have hBw : Hid (∀ wx, Below wA.heap.size wA wx → Below w.heap.size w wx) := fun wx hb => hb1.trans (hb.mono hb1.size)
        have hs5 : (Cs i).size = 5 := (HK.out wr (hBw.out wr HL.out.old)).size i hlt
        have hsi2 : (Try.prog.info? 26).map (·.size) = some (Cs i).toList.length := by rw [infoN, Array.length_toList, hs5]
        have HLd : Hid (OwnL wA dt ns k e ks g (.slice a12 dt.size c12) (.slice a16 ns.length c16) i (.slice ka2 i kc2) Ks wr.drew) := ⟨HL.out.old.drew, HL.out.b12, HL.out.b16, HL.out.row, HL.out.ge, HL.out.kids, HL.out.size, fun j hl hj => (HL.out.each j hl hj).keep (fun _ _ => rfl)⟩
        have HC : Hid _ := HIH.out ks[i] (Nd.kid_lt HN.out i hlt) (by have := Nd.countL_at ks i hlt; have := H6.out; omega) wr.drew (Cs i) (HE.out _ (hBw.out _ HLd.out.old) i hlt)
        have hS0 : Row wr.drew g #[.int .i64 k, .bool e, .slice a12 dt.size c12, .slice a16 ns.length c16, .slice ka2 i kc2] 26 ∧ Below wA.heap.size wA wr.drew := ⟨HLd.out.row, HLd.out.old⟩
        clear HL
        go_wp2_with fail
        refine wp_region_perm [(false, 0), (false, 1), (false, 2), (false, 3), (false, 4), (false, 5), (false, 6), (true, 7), (true, 8), (true, 9), (false, 10), (true, 11)] (fun wx => Row wx g #[.int .i64 k, .bool e, .slice a12 dt.size c12, .slice a16 ns.length c16, .slice ka2 i kc2] 26 ∧ Below wA.heap.size wA wx) (by kernel_rfl) (by kernel_rfl) hS0 ?_
        refine p_value (some 25) ?_ rfl rfl (by rfl) (fun w hw => ?_) ?_
        rotate_left
        · go_simp
          with_reducible rfl
        simp only [Act.put, List.setIfInBounds_toArray, List.set_cons_zero, List.set_cons_succ]
        refine p_value (some 26) ?_ rfl rfl (by rfl) (fun w hw => ?_) ?_
        rotate_left
        · have hc := (hw.1.cell 4).trans (rfl : _ = some (Value.slice ka2 i kc2))
          go_simp
          with_reducible rfl
        simp only [Act.put, List.setIfInBounds_toArray, List.set_cons_zero, List.set_cons_succ]
        refine p_value (some 27) ?_ rfl rfl (by rfl) (fun w hw => ?_) ?_
        rotate_left
        · go_simp
          with_reducible rfl
        simp only [Act.put, List.setIfInBounds_toArray, List.set_cons_zero, List.set_cons_succ]
        refine p_value (some 28) ?_ rfl rfl (by rfl) (fun w hw => ?_) ?_
        rotate_left
        · have hc := (Row.cell (HC0.out _ hw.2) 4).trans (rfl : _ = some (Value.slice (some ⟨kb, koff, none⟩) ks.length kc))
          go_simp
          with_reducible rfl
        simp only [Act.put, List.setIfInBounds_toArray, List.set_cons_zero, List.set_cons_succ]
        refine p_move (some 29) _ rfl rfl rfl (by rfl) ?_
        simp only [Act.put, List.setIfInBounds_toArray, List.set_cons_zero, List.set_cons_succ]
        refine p_value (some 30) ?_ rfl rfl (by rfl) (fun w hw => ?_) ?_
        rotate_left
        · go_simp
          with_reducible rfl
        simp only [Act.put, List.setIfInBounds_toArray, List.set_cons_zero, List.set_cons_succ]
        refine p_load_mid (some 31) 26 _ rfl rfl rfl (by rfl) kb (koff + i * 5) (by go_simp) (Cs i).toList _ (fun wx hw => (HK.out wx (hBw.out wx hw.2)).range i hlt) Try.underlying26 rfl hsi2 ?_
        simp only [Array.toArray_toList]
        simp only [Act.put, List.setIfInBounds_toArray, List.set_cons_zero, List.set_cons_succ]
        refine p_call (some 32) rfl rfl (by rfl) 5 #[.agg (Cs i)] (by go_simp) (Calls.mono HC.out ?_)
        rintro er w1 ⟨C', rfl, hn1, hbw1⟩
        obtain ⟨k', e', da', dl', dc', na', nl', nc', ka', kl', kc', hCl⟩ := hn1.at'.lit
        have hC5 : C'.size = 5 := hn1.at'.size
        have hone : C'.all (fun x => x.oneCell') = true := hn1.at'.one
        have hS1 : Row w1 g #[.int .i64 k, .bool e, .slice a12 dt.size c12, .slice a16 ns.length c16, .slice ka2 i kc2] 26 ∧ Below wA.heap.size wA w1 := ⟨hS0.1.below hbw1 hS0.1.lt, hS0.2.trans (hbw1.mono hS0.2.size)⟩
        refine ⟨_, rfl, fun _ => hS1, ?_⟩
        simp only [Act.put, List.setIfInBounds_toArray, List.set_cons_zero, List.set_cons_succ]
        have hba : Below w1.heap.size w1 (w1.alloc (.cells C' 26)) := (Below.refl _ _).alloc (Nat.le_refl _) _
        have hS2 : Row (w1.alloc (.cells C' 26)) g #[.int .i64 k, .bool e, .slice a12 dt.size c12, .slice a16 ns.length c16, .slice ka2 i kc2] 26 ∧ Below wA.heap.size wA (w1.alloc (.cells C' 26)) := ⟨hS1.1.below hba hS1.1.lt, hS1.2.trans (hba.mono hS1.2.size)⟩
        refine p_alone (some 33) (.slice (some ⟨w1.heap.size, 0, none⟩) 1 1) (w1.alloc (.cells C' 26)) rfl rfl (by rfl) (by rw [hCl]; kernel_rfl) (fun _ => hS2) ?_
        simp only [Act.put, List.setIfInBounds_toArray, List.set_cons_zero, List.set_cons_succ]
        have hown2 := own_below HLd.out.kids (hbw1.trans (hba.mono hbw1.size))
        refine p_wp rfl (by rfl) ?_
        refine wp_append_any (some 34) rfl (.tmp 26) (.tmp 33) 24 26 (.agg (nodeV 0 false none 0 0 none 0 0 none 0 0)) 5 88 Try.underlying24 Try.infoNode rfl (by decide) rfl (g + 1) _ i _ rfl hown2 (some ⟨w1.heap.size, 0, none⟩) w1.heap.size 0 1 1 C'.toList (by simp [hC5]) rfl (fun _ => rfl) (fun j u hj => by
          rw [Nat.zero_add, (Row.new w1 C' 26).cell j, ← Array.getElem?_toList]
          exact hj) (fun u hu => by simpa using (Array.all_eq_true_iff_forall_mem.1 hone) u (by simpa using hu)) (fun h => nomatch h) (by omega) (by omega) (Nat.le_trans hS0.1.lt (Nat.le_trans hbw1.size hba.size)) ?_
        intro kv' w3 own' grow' hor'
        obtain ⟨hr3, hold3, hadd⟩ := HLd.out.add hlt hbw1 C' hC5 hn1 own' grow' hor'
        obtain ⟨ka3, kc3, rfl⟩ := own_slice own'
        refine ⟨fun _ => ⟨hr3, hold3⟩, ?_⟩
        have HA : Hid _ := hadd
        clear own' grow' hor' hadd hown2 hS2 hba hS1 hn1 hbw1 HC
        simp only [Act.put, List.setIfInBounds_toArray, List.set_cons_zero, List.set_cons_succ]
        refine p_value (some 35) ?_ rfl rfl (by rfl) (fun w hw => ?_) ?_
        rotate_left
        · go_simp
          with_reducible rfl
        simp only [Act.put, List.setIfInBounds_toArray, List.set_cons_zero, List.set_cons_succ]
        have q4 := (hr3.cell 4).trans (rfl : _ = some (Value.slice ka2 i kc2))
        have f4 := hr3.frozen 4
        refine p_store (w3.setCell ⟨g, 4, none⟩ (.slice ka3 (i + 1) kc3)) rfl rfl (by rfl) (by go_simp) (fun h => absurd rfl h) ?_
        refine p_done ?_
        try simp only [Exit.then]
        clear q4 f4 hr3 hold3
        go_wp2
        go_roundw
        case rel => exact ⟨i + 1, _, _, by go_num, by omega, HA⟩
        case measure => simp [intOf]; omega
      · have hlt' : ¬ (i : Int) < (ks.length : Int) := by omega
        obtain rfl : i = ks.length := by omega
        have hRz : Row wr (w.heap.size + 1) (nodeV 0 false none 0 0 none 0 0 none 0 0) 26 := by
          have h := Row.below HR2.out HL.out.old (Row.lt HR2.out)
          rw [World.size_alloc] at h
          exact h
        have HRg : Hid _ := HL.out.row
        have HRz : Hid _ := hRz
        clear hRz
        go_wp2_with (first
          | refine wpList_load_row rfl 26 _ rfl g rfl 26 #[.int .i64 k, .bool e, .slice a12 dt.size c12, .slice a16 ns.length c16, .slice ka2 ks.length kc2] (0, 0) _ HRg.out Try.underlying26 rfl infoN ?_
          | refine wpList_store_row rfl 26 _ _ rfl (w.heap.size + 1) #[.int .i64 k, .bool e, .slice a12 dt.size c12, .slice a16 ns.length c16, .slice ka2 ks.length kc2] rfl rfl 26 (nodeV 0 false none 0 0 none 0 0 none 0 0) HRz.out infoN rfl (nodeV_one _ _ _ _ _ _ _ _ _ _ _) ?_)
        have hNO := HL.out.done HKK.out HNE.out hd4 hn4
        have hsw : w.heap.size + 1 < wA.heap.size := by
          have := Row.lt HR2.out
          rw [World.size_alloc] at this
          exact this
        have hold := HL.out.old
        have hos := hold.size
        have hoth : ∀ q, q ≠ w.heap.size + 1 → (wr.setRow (w.heap.size + 1) #[.int .i64 k, .bool e, .slice a12 dt.size c12, .slice a16 ns.length c16, .slice ka2 ks.length kc2]).heap[q]? = wr.heap[q]? := fun q hq => setRow_other wr (w.heap.size + 1) q _ hq
        have hss : (wr.setRow (w.heap.size + 1) #[.int .i64 k, .bool e, .slice a12 dt.size c12, .slice a16 ns.length c16, .slice ka2 ks.length kc2]).heap.size = wr.heap.size := by simp [World.setRow]
        refine bodyPost_ret (results_cell_row resultsOwn _ _ (w.heap.size + 1) 26 _ (0, 0) _ rfl (Row.setRow HRz.out) Try.underlying26 rfl infoN) rfl ⟨_, rfl, (hNO.keep fun b hb => hoth b (by omega)).mono fun b hb => ⟨by omega, by rw [hss]; exact hb.2⟩, (hb1.trans (hold.mono hb1.size)).trans ⟨rfl, rfl, rfl, by rw [hss]; exact Nat.le_refl _, fun q hq => hoth q (by omega)⟩⟩
theorem own_ok (n : Nd) (w : World) (C : Array Value) (h : NodeAt w n C) (hc : n.count ≤ 6000) : Calls Try.prog 5 #[.agg C] w fun e w' => ∃ C', e = .returned (.agg C') ∧ NodeOn w' (fun b => w.heap.size ≤ b ∧ b < w'.heap.size) n C' ∧ Below w.heap.size w w' := by
  have key : ∀ N : Nat, ∀ n : Nd, n.count ≤ N → n.count ≤ 6000 → ∀ (w : World) (C : Array Value), NodeAt w n C → Calls Try.prog 5 #[.agg C] w fun e w' => ∃ C', e = .returned (.agg C') ∧ NodeOn w' (fun b => w.heap.size ≤ b ∧ b < w'.heap.size) n C' ∧ Below w.heap.size w w' := by
    intro N
    induction N with
    | zero => intro n hn; have := n.count_pos; omega
    | succ N ih => exact own_step N ih
  exact key n.count n (Nat.le_refl _) hc w C h
end Go.Proofs.Ytdbnnljlbfjobaa
