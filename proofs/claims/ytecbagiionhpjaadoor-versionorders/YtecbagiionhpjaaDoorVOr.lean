/- My own work: the law VersionOrders. -/
import Derived.Test.YtecbagiionhpjaaDoorRS
namespace Go.Proofs.YtecbagiionhpjaaDoor
open Go.RowKit

/-- What holds while versions are compared. -/
structure OrW (w w5 : World) (a b : Ver) (wx : World) : Prop where
  a : Row wx w.heap.size (verC a) 24
  b : Row wx (w.heap.size + 1) (verC b) 24
  k : Below w5.heap.size w5 wx
theorem OrW.next {w w5 w' w'' : World} {a b : Ver} (h : OrW w w5 a b w') (hb : Below w'.heap.size w' w'') : OrW w w5 a b w'' := ⟨h.a.below hb h.a.lt, h.b.below hb h.b.lt, h.k.trans (hb.mono h.k.size)⟩
set_option maxRecDepth 40000 in
set_option maxHeartbeats 16000000 in
theorem law_orders (a b : Ver) (L : List ByteArray) (la : Option Addr) (lc : Nat) (w : World) (hL : TxB w (.slice la L.length lc) L w.heap.size) (he : ∀ x ∈ L, x.size ≤ 140737488355328) (hll : L.length < 9223372036854775807) (hT : Pw w) : Calls Tryd.prog 3 #[verV a, verV b, .slice la L.length lc] w fun e w' => e = .returned (.bool true) ∧ Below w.heap.size w w' := by
  have hA : Row (twoW w a b) w.heap.size (verC a) 24 := (Row.new w (verC a) 24).alloc _
  have hB : Row (twoW w a b) (w.heap.size + 1) (verC b) 24 := by
    have h := Row.new (w.alloc (.cells (verC a) 24)) (verC b) 24
    rw [World.size_alloc] at h
    exact h
  have hb1 := two_below w a b
  obtain ⟨w1, hw1⟩ : ∃ x, x = twoW w a b := ⟨_, rfl⟩
  have hw1' := hw1.symm
  rw [← hw1] at hA hB hb1
  have hT1 : Pw w1 := hT.keep hb1 hT.lt
  have hL1 := hL.keep hb1
  have HB1 : Hid (Below w.heap.size w w1) := hb1
  have HS1 : Hid (w.heap.size + 1 < w1.heap.size) := hB.lt
  have HA1 : Hid (Row w1 w.heap.size (verC a) 24) := hA
  have HBv1 : Hid (Row w1 (w.heap.size + 1) (verC b) 24) := hB
  have HL1 : Hid (TxB w1 (.slice la L.length lc) L w.heap.size) := hL1
  have HE : Hid (∀ x ∈ L, x.size ≤ 140737488355328) := he
  obtain ⟨n, hn⟩ : ∃ n, n = L.length := ⟨_, rfl⟩
  have HN : Hid (n = L.length) := hn
  clear hw1 hb1 he
  by_cases h200 : 200 < n
  · have h200' : (200 : Int) < (n : Int) := by omega
    rw [← hn] at hll ⊢
    clear hL hL1 HL1 hT1 hn
    go_enter Tryd.func3, Tryd.ntmps3
    go_wp2
    go_ret
    exact ⟨rfl, HB1.out⟩
  · have h200' : ¬ (200 : Int) < (n : Int) := by omega
    obtain ⟨a0, lb, off, c0, hL1', hL2, hL3, hL5, hL4⟩ := hL1.ex
    simp only [Value.slice.injEq] at hL1'
    obtain ⟨rfl, _, rfl⟩ := hL1'
    have hown1 := copy_own w1
    have hs1 : w1.heap.size ≤ (w1.alloc (.cells #[] 9)).heap.size := by simp
    have hq1 : Below w1.heap.size w1 (w1.alloc (.cells #[] 9)) := (Below.refl _ _).alloc (Nat.le_refl _) _
    have hcl1 : ∀ t u, (L.map Value.string)[t]? = some u → (w1.alloc (.cells #[] 9)).cell? ⟨lb, off + t, none⟩ = some u := fun t u ht => by
      have htl : t < L.length := by simpa using (List.getElem?_eq_some_iff.1 ht).1
      rw [(hq1.cell (p := ⟨lb, off + t, none⟩) (by have := (hL2 (by omega)).2; have := HB1.out.size; show lb < _; omega)).trans (hL4 t htl)]
      rw [List.getElem?_map, List.getElem?_eq_getElem htl] at ht
      exact ht
    have hat : 0 < n → la = some ⟨lb, off, none⟩ := fun h => (hL2 (by omega)).1
    have hnn : la = none → n = 0 ∧ lc = 0 := fun h => by
      by_cases h0 : 0 < n
      · rw [hat h0] at h; cases h
      · exact ⟨by omega, hL5 h⟩
    have HLA : Hid (0 < n → la = some ⟨lb, off, none⟩) := hat
    have HLC : Hid (∀ wx, Below w1.heap.size w1 wx → ∀ i (h : i < L.length), wx.cell? ⟨lb, off + i, none⟩ = some (.string L[i])) := fun wx hx i h => (hx.cell (p := ⟨lb, off + i, none⟩) (by have := (hL2 (by omega)).2; have := HB1.out.size; show lb < _; omega)).trans (hL4 i h)
    have hlcn : n ≤ lc := by omega
    have hnl' := hn.symm
    rw [← hn]
    rw [← hn] at hll
    clear hL hL1 hL2 hL3 hL4 hL5 hn hA hB
    go_enter Tryd.func3, Tryd.ntmps3
    go_wp2_with (at_builtin; refine wpList_ap_allO rfl (some 16) rfl _ _ rfl w1.heap.size (.slice (some ⟨w1.heap.size, 0, none⟩) 0 0) 0 [] rfl hown1 la lb off n lc L hnl' rfl hat hnn hcl1 hs1 (by omega) ?_; intro v3 w3 ho3 hg3)
    have hb3 : Below w1.heap.size w1 w3 := hq1.trans (below_own hg3 hs1 (fun j hj => by simp only [Value.ownBlock, Option.some.injEq] at hj; omega))
    rw [Nat.zero_add, List.nil_append] at ho3
    have hT3 : Pw w3 := hT1.keep hb3 hT1.lt
    have hso := sort_own (X := L) (by rw [hnl']; exact ho3) (by omega) HE.out hT3
    obtain ⟨na, ng, noff, nc, hv3, hn2, hn3, _, hn4⟩ := (own_tx hnl' ho3).ex
    have HNC : Hid (∀ wx, Below w3.heap.size w3 wx → ∀ i (h : i < L.length), wx.cell? ⟨ng, noff + i, none⟩ = some (.string L[i])) := fun wx hx i h => (hx.cell (p := ⟨ng, noff + i, none⟩) (hn2 (by omega)).2).trans (hn4 i h)
    have HNA : Hid (0 < n → na = some ⟨ng, noff, none⟩) := fun h => (hn2 (by omega)).1
    rw [hnl'] at hv3
    have hnc : n ≤ nc := by omega
    subst hv3
    have HB3 : Hid (Below w1.heap.size w1 w3) := hb3
    clear ho3 hg3 hown1 hcl1 hs1 hT1 hb3 hq1 hT3 hn2 hn3 hn4 hat hnn
    refine hso.mono ?_
    rintro e w4 ⟨vs, xv, rfl, hvp, hvf, hox, hb4⟩
    have HB4 : Hid (Below w1.heap.size w1 w4) := HB3.out.trans (hb4.mono HB3.out.size)
    have hrs := refSort_ok L la lc w4 (by
      have h := (HL1.out.keep (HB4.out.mono (by have := HB1.out.size; omega)))
      obtain ⟨a1, g1, o1, c1, e1, e2, e3, e5, e4⟩ := h.ex
      exact ⟨a1, g1, o1, c1, e1, fun h => ⟨(e2 h).1, Nat.lt_of_lt_of_le (e2 h).2 (Nat.le_trans HB1.out.size HB4.out.size)⟩, e3, e5, e4⟩) HE.out (by omega)
    rw [hnl'] at hrs
    obtain ⟨X, hX⟩ : ∃ X, X = sortedT vs L := ⟨_, rfl⟩
    have hXl : X.length = n := by rw [hX, sorted_len hvp]; exact hnl'
    have HXL : Hid (X.length = n) := hXl
    have hox2 : w4.ownsRow w3.heap.size 9 1 xv n (X.map Value.string) := by
      have h : w4.ownsRow w3.heap.size 9 1 xv L.length ((sortedT vs L).map Value.string) := hox
      rw [← hX, hnl'] at h
      exact h
    obtain ⟨xa, xg, xoff, xc, hxv, hx2, hx3, _, hx4⟩ := (own_tx hXl hox2).ex
    have HXC : Hid (∀ wx, Below w4.heap.size w4 wx → ∀ i (h : i < X.length), wx.cell? ⟨xg, xoff + i, none⟩ = some (.string X[i])) := fun wx hx i h => (hx.cell (p := ⟨xg, xoff + i, none⟩) (hx2 (by omega)).2).trans (hx4 i h)
    have HXA : Hid (0 < n → xa = some ⟨xg, xoff, none⟩) := fun h => (hx2 (by omega)).1
    rw [hXl] at hxv
    have hxc : n ≤ xc := by omega
    subst hxv
    have HVP : Hid (vs.Perm (versOf L)) := hvp
    have HVF : Hid (Falls vs) := hvf
    have HXE : Hid (X = sortedT vs L) := hX
    have HB34 : Hid (Below w3.heap.size w3 w4) := hb4
    clear hso hox hox2 hb4 hx2 hx3 hx4 hvp hvf hX hXl
    go_wp2_with fail
    refine hrs.mono ?_
    rintro e w5 ⟨us, yv, rfl, hup, huf, hoy, hb5⟩
    have hvu : us = vs := falls_one (hup.trans HVP.out.symm) huf HVF.out
    have hoy2 : w5.ownsRow w4.heap.size 9 1 yv n (X.map Value.string) := by
      have h : w5.ownsRow w4.heap.size 9 1 yv L.length ((sortedT us L).map Value.string) := hoy
      rw [hvu, ← HXE.out, hnl'] at h
      exact h
    obtain ⟨ya, yg, yoff, yc, hyv, hy2, hy3, _, hy4⟩ := (own_tx HXL.out hoy2).ex
    have HYC : Hid (∀ wx, Below w5.heap.size w5 wx → ∀ i (h : i < X.length), wx.cell? ⟨yg, yoff + i, none⟩ = some (.string X[i])) := fun wx hx i h => (hx.cell (p := ⟨yg, yoff + i, none⟩) (hy2 (by omega)).2).trans (hy4 i h)
    have HYA : Hid (0 < n → ya = some ⟨yg, yoff, none⟩) := fun h => (hy2 (by have := HXL.out; omega)).1
    rw [HXL.out] at hyv
    have hyc : n ≤ yc := by have := HXL.out; omega
    subst hyv
    have HB45 : Hid (Below w4.heap.size w4 w5) := hb5
    have HW5 : Hid (OrW w w5 a b w5) := ⟨(HA1.out.below HB4.out (by have := HS1.out; omega)).below hb5 (by have := HS1.out; have := HB4.out.size; omega), (HBv1.out.below HB4.out HS1.out).below hb5 (by have := HS1.out; have := HB4.out.size; omega), Below.refl _ _⟩
    have HB5 : Hid (Below w1.heap.size w1 w5) := HB4.out.trans (hb5.mono HB4.out.size)
    have HF5 : Hid (∀ wx, Below w5.heap.size w5 wx → Below w1.heap.size w1 wx ∧ Below w3.heap.size w3 wx ∧ Below w4.heap.size w4 wx ∧ Below w.heap.size w wx) := fun wx hx => by
      have h4 : Below w4.heap.size w4 wx := HB45.out.trans (hx.mono HB45.out.size)
      have h3 : Below w3.heap.size w3 wx := HB34.out.trans (h4.mono HB34.out.size)
      have h1 : Below w1.heap.size w1 wx := HB3.out.trans (h3.mono HB3.out.size)
      exact ⟨h1, h3, h4, HB1.out.trans (h1.mono HB1.out.size)⟩
    have HCm : Hid (∀ wx, Calls Tryd.prog 11 #[verV a, verV b] wx fun e w' => e = .returned (.int .i64 (cmpV a b)) ∧ Below wx.heap.size wx w') := fun wx => compare_any a b wx
    have HCr : Hid (∀ wx, Calls Tryd.prog 12 #[verV a, verV b] wx fun e w' => e = .returned (.int .i64 (cmpV a b)) ∧ Below wx.heap.size wx w') := fun wx => refCompare_ok a b wx
    generalize cmpV a b = cz at HCm HCr
    clear hrs hup huf hoy hoy2 hvu hb5 hy2 hy3 hy4
    go_wp2
    refine wp_region_quiet (C := OrW w w5 a b) (by kernel_rfl) (by kernel_rfl) (HW5.out.next ((Below.refl _ _).drew)) ?_
    simp only []
    refine q_load 24 _ rfl (by rfl) (w.heap.size) (verC a) 24 _ rfl (fun w h => h.a) Tryd.underlying24 rfl infoVs ?_
    simp only [Act.put, List.setIfInBounds_toArray, List.set_cons_zero, List.set_cons_succ]
    refine q_load 24 _ rfl (by rfl) (w.heap.size + 1) (verC b) 24 _ rfl (fun w h => h.b) Tryd.underlying24 rfl infoVs ?_
    simp only [Act.put, List.setIfInBounds_toArray, List.set_cons_zero, List.set_cons_succ]
    refine q_call (.int .i64 cz) (by rfl) 11 #[verV a, verV b] (fun w h => by go_simp) (fun w h => (HCm.out w).mono fun e w' ⟨he, hb⟩ => ⟨he, h.next hb⟩) ?_
    simp only [Act.put, List.setIfInBounds_toArray, List.set_cons_zero, List.set_cons_succ]
    refine q_load 24 _ rfl (by rfl) (w.heap.size) (verC a) 24 _ rfl (fun w h => h.a) Tryd.underlying24 rfl infoVs ?_
    simp only [Act.put, List.setIfInBounds_toArray, List.set_cons_zero, List.set_cons_succ]
    refine q_load 24 _ rfl (by rfl) (w.heap.size + 1) (verC b) 24 _ rfl (fun w h => h.b) Tryd.underlying24 rfl infoVs ?_
    simp only [Act.put, List.setIfInBounds_toArray, List.set_cons_zero, List.set_cons_succ]
    refine q_call (.int .i64 cz) (by rfl) 12 #[verV a, verV b] (fun w h => by go_simp) (fun w h => (HCr.out w).mono fun e w' ⟨he, hb⟩ => ⟨he, h.next hb⟩) ?_
    simp only [Act.put, List.setIfInBounds_toArray, List.set_cons_zero, List.set_cons_succ]
    refine q_value (.bool false) (by rfl) (fun w hw => ?_) ?_
    · go_simp
    simp only [Act.put, List.setIfInBounds_toArray, List.set_cons_zero, List.set_cons_succ]
    refine q_value ?_ (by rfl) (fun w hw => ?_) ?_
    rotate_left
    · go_simp
      with_reducible rfl
    simp only [Act.put, List.setIfInBounds_toArray, List.set_cons_zero, List.set_cons_succ]
    refine q_value ?_ (by rfl) (fun w hw => ?_) ?_
    rotate_left
    · go_simp
      with_reducible rfl
    simp only [Act.put, List.setIfInBounds_toArray, List.set_cons_zero, List.set_cons_succ]
    refine q_value ?_ (by rfl) (fun w hw => ?_) ?_
    rotate_left
    · go_simp
      with_reducible rfl
    simp only [Act.put, List.setIfInBounds_toArray, List.set_cons_zero, List.set_cons_succ]
    refine q_value ?_ (by rfl) (fun w hw => ?_) ?_
    rotate_left
    · go_simp
      with_reducible rfl
    simp only [Act.put, List.setIfInBounds_toArray, List.set_cons_zero, List.set_cons_succ]
    refine q_value ?_ (by rfl) (fun w hw => ?_) ?_
    rotate_left
    · go_simp
      with_reducible rfl
    simp only [Act.put, List.setIfInBounds_toArray, List.set_cons_zero, List.set_cons_succ]
    refine q_value (.bool false) (by rfl) (fun w hw => ?_) ?_
    · go_simp
    simp only [Act.put, List.setIfInBounds_toArray, List.set_cons_zero, List.set_cons_succ]
    refine q_value ?_ (by rfl) (fun w hw => ?_) ?_
    rotate_left
    · go_simp
      with_reducible rfl
    simp only [Act.put, List.setIfInBounds_toArray, List.set_cons_zero, List.set_cons_succ]
    refine wpQuiet_nil ?_
    intro w6 hw6
    simp only [Exit.then]
    have HB6 : Hid (Below w5.heap.size w5 w6) := hw6.k
    clear hw6 HW5 HCm HCr
    go_wp2
    go_loopw [10] (fun s10 wz => ∃ k : Nat, k ≤ n ∧ s10 = .int .i64 k ∧ Below w5.heap.size w5 wz) (fun s10 _ => n - (intOf s10).toNat)
    case atStart => exact ⟨0, Nat.zero_le _, rfl, HB6.out⟩
    case round =>
      obtain ⟨k, hk, rfl, hBr⟩ := hrel
      have HBr : Hid (Below w5.heap.size w5 wr) := hBr
      clear hBr
      by_cases hkn : k < n
      · have hkn' : (k : Int) < (n : Int) := by omega
        have hkX : k < X.length := by have := HXL.out; omega
        have hkL : k < L.length := by have := HN.out; omega
        obtain rfl := HYA.out (by omega)
        obtain rfl := HXA.out (by omega)
        obtain rfl := HNA.out (by omega)
        obtain rfl := HLA.out (by omega)
        have HYk : Hid (∀ wx, Below w5.heap.size w5 wx → wx.cell? ⟨yg, yoff + k, none⟩ = some (.string X[k])) := fun wx hx => HYC.out wx hx k hkX
        have HXk : Hid (∀ wx, Below w5.heap.size w5 wx → wx.cell? ⟨xg, xoff + k, none⟩ = some (.string X[k])) := fun wx hx => HXC.out wx (HF5.out wx hx).2.2.1 k hkX
        have HNk : Hid (∀ wx, Below w5.heap.size w5 wx → wx.cell? ⟨ng, noff + k, none⟩ = some (.string L[k])) := fun wx hx => HNC.out wx (HF5.out wx hx).2.1 k hkL
        have HLk : Hid (∀ wx, Below w5.heap.size w5 wx → wx.cell? ⟨lb, off + k, none⟩ = some (.string L[k])) := fun wx hx => HLC.out wx (HF5.out wx hx).1 k hkL
        obtain ⟨y, hy⟩ : ∃ y, y = X[k] := ⟨_, rfl⟩
        obtain ⟨z, hz⟩ : ∃ z, z = L[k] := ⟨_, rfl⟩
        rw [← hy] at HYk HXk
        rw [← hz] at HNk HLk
        clear hy hz
        go_wp2
        refine wp_region_quiet (C := fun wx => Below w5.heap.size w5 wx) (by kernel_rfl) (by kernel_rfl) (HBr.out.drew) ?_
        simp only []
        refine q_value ?_ (by rfl) (fun w hw => ?_) ?_
        rotate_left
        · go_simp
          with_reducible rfl
        simp only [Act.put, List.setIfInBounds_toArray, List.set_cons_zero, List.set_cons_succ]
        refine q_value ?_ (by rfl) (fun w hw => ?_) ?_
        rotate_left
        · go_simp
          with_reducible rfl
        simp only [Act.put, List.setIfInBounds_toArray, List.set_cons_zero, List.set_cons_succ]
        refine q_value ?_ (by rfl) (fun w hw => ?_) ?_
        rotate_left
        · go_simp
          with_reducible rfl
        simp only [Act.put, List.setIfInBounds_toArray, List.set_cons_zero, List.set_cons_succ]
        refine q_value ?_ (by rfl) (fun w hw => ?_) ?_
        rotate_left
        · have hc := HXk.out w hw
          go_simp
          with_reducible rfl
        simp only [Act.put, List.setIfInBounds_toArray, List.set_cons_zero, List.set_cons_succ]
        refine q_value ?_ (by rfl) (fun w hw => ?_) ?_
        rotate_left
        · go_simp
          with_reducible rfl
        simp only [Act.put, List.setIfInBounds_toArray, List.set_cons_zero, List.set_cons_succ]
        refine q_value ?_ (by rfl) (fun w hw => ?_) ?_
        rotate_left
        · go_simp
          with_reducible rfl
        simp only [Act.put, List.setIfInBounds_toArray, List.set_cons_zero, List.set_cons_succ]
        refine q_value ?_ (by rfl) (fun w hw => ?_) ?_
        rotate_left
        · go_simp
          with_reducible rfl
        simp only [Act.put, List.setIfInBounds_toArray, List.set_cons_zero, List.set_cons_succ]
        refine q_value ?_ (by rfl) (fun w hw => ?_) ?_
        rotate_left
        · have hc := HYk.out w hw
          go_simp
          with_reducible rfl
        simp only [Act.put, List.setIfInBounds_toArray, List.set_cons_zero, List.set_cons_succ]
        refine q_value (.bool false) (by rfl) (fun w hw => ?_) ?_
        · go_simp
        simp only [Act.put, List.setIfInBounds_toArray, List.set_cons_zero, List.set_cons_succ]
        refine q_value ?_ (by rfl) (fun w hw => ?_) ?_
        rotate_left
        · go_simp
          with_reducible rfl
        simp only [Act.put, List.setIfInBounds_toArray, List.set_cons_zero, List.set_cons_succ]
        refine q_value ?_ (by rfl) (fun w hw => ?_) ?_
        rotate_left
        · go_simp
          with_reducible rfl
        simp only [Act.put, List.setIfInBounds_toArray, List.set_cons_zero, List.set_cons_succ]
        refine q_value ?_ (by rfl) (fun w hw => ?_) ?_
        rotate_left
        · go_simp
          with_reducible rfl
        simp only [Act.put, List.setIfInBounds_toArray, List.set_cons_zero, List.set_cons_succ]
        refine q_value ?_ (by rfl) (fun w hw => ?_) ?_
        rotate_left
        · go_simp
          with_reducible rfl
        simp only [Act.put, List.setIfInBounds_toArray, List.set_cons_zero, List.set_cons_succ]
        refine q_value ?_ (by rfl) (fun w hw => ?_) ?_
        rotate_left
        · have hc := HNk.out w hw
          go_simp
          with_reducible rfl
        simp only [Act.put, List.setIfInBounds_toArray, List.set_cons_zero, List.set_cons_succ]
        refine q_value ?_ (by rfl) (fun w hw => ?_) ?_
        rotate_left
        · go_simp
          with_reducible rfl
        simp only [Act.put, List.setIfInBounds_toArray, List.set_cons_zero, List.set_cons_succ]
        refine q_value ?_ (by rfl) (fun w hw => ?_) ?_
        rotate_left
        · go_simp
          with_reducible rfl
        simp only [Act.put, List.setIfInBounds_toArray, List.set_cons_zero, List.set_cons_succ]
        refine q_value ?_ (by rfl) (fun w hw => ?_) ?_
        rotate_left
        · go_simp
          with_reducible rfl
        simp only [Act.put, List.setIfInBounds_toArray, List.set_cons_zero, List.set_cons_succ]
        refine q_value ?_ (by rfl) (fun w hw => ?_) ?_
        rotate_left
        · have hc := HLk.out w hw
          go_simp
          with_reducible rfl
        simp only [Act.put, List.setIfInBounds_toArray, List.set_cons_zero, List.set_cons_succ]
        refine q_value (.bool false) (by rfl) (fun w hw => ?_) ?_
        · go_simp
        simp only [Act.put, List.setIfInBounds_toArray, List.set_cons_zero, List.set_cons_succ]
        refine q_value ?_ (by rfl) (fun w hw => ?_) ?_
        rotate_left
        · go_simp
          with_reducible rfl
        simp only [Act.put, List.setIfInBounds_toArray, List.set_cons_zero, List.set_cons_succ]
        refine wpQuiet_nil ?_
        intro wz hw2
        simp only [Exit.then]
        have Hwz : Hid (Below w5.heap.size w5 wz) := hw2
        clear hw2 HBr
        go_wp2
        go_roundw
        case rel => exact ⟨k + 1, by omega, by go_num, Hwz.out⟩
        case measure => simp [intOf]; omega
      · have hkn' : ¬ (k : Int) < (n : Int) := by omega
        go_wp2
        go_ret
        exact ⟨rfl, (HF5.out wr HBr.out).2.2.2⟩
end Go.Proofs.YtecbagiionhpjaaDoor
