/- My own work: the law VersionSorts. -/
import Derived.Test.YtecbagiionhpjaaDoorVL0
import Derived.Test.YtecbagiionhpjaaDoorVO
namespace Go.Proofs.YtecbagiionhpjaaDoor
open Go.RowKit
set_option maxRecDepth 40000 in
set_option maxHeartbeats 32000000 in
theorem law_sorts (L : List ByteArray) (la : Option Addr) (lc : Nat) (w : World) (hL : TxB w (.slice la L.length lc) L w.heap.size) (he : ∀ x ∈ L, x.size ≤ 140737488355328) (hll : L.length < 9223372036854775807) (hT : Pw w) : Calls Tryd.prog 4 #[.slice la L.length lc] w fun e w' => e = .returned (.bool true) ∧ Below w.heap.size w w' := by
  obtain ⟨n, hnl⟩ : ∃ n, n = L.length := ⟨_, rfl⟩
  by_cases h150 : 150 < n
  · rw [← hnl]
    have h150' : (150 : Int) < (n : Int) := by omega
    rw [← hnl] at hll
    clear hL
    go_enter Tryd.func4, Tryd.ntmps4
    go_wp2
    go_ret
    exact ⟨rfl, Below.refl _ _⟩
  · obtain ⟨a0, b, off, c0, hL1, hL2, hL3, hL5, hL4⟩ := hL.ex
    simp only [Value.slice.injEq] at hL1
    obtain ⟨rfl, _, rfl⟩ := hL1
    have h150' : ¬ (150 : Int) < (n : Int) := by omega
    have HN : Hid (n = L.length) := hnl
    have hb1 : Below w.heap.size w (w.alloc (.cells #[] 9)) := (Below.refl _ _).alloc (Nat.le_refl _) _
    have hown1 := copy_own w
    have hs1 : w.heap.size ≤ (w.alloc (.cells #[] 9)).heap.size := by simp
    have hcl1 : ∀ t u, (L.map Value.string)[t]? = some u → (w.alloc (.cells #[] 9)).cell? ⟨b, off + t, none⟩ = some u := fun t u ht => by
      have htl : t < L.length := by simpa using (List.getElem?_eq_some_iff.1 ht).1
      rw [(hb1.cell (p := ⟨b, off + t, none⟩) (hL2 (by omega)).2).trans (hL4 t htl)]
      rw [List.getElem?_map, List.getElem?_eq_getElem htl] at ht
      exact ht
    have hT1 : Pw (w.alloc (.cells #[] 9)) := hT.keep hb1 hT.lt
    obtain ⟨w1, hw1⟩ : ∃ x, x = w.alloc (.cells #[] 9) := ⟨_, rfl⟩
    rw [← hw1] at hb1 hown1 hs1 hcl1 hT1
    have hw1' := hw1.symm
    have hat : 0 < n → la = some ⟨b, off, none⟩ := fun h => (hL2 (by omega)).1
    have hnn : la = none → n = 0 ∧ lc = 0 := fun h => by
      by_cases h0 : 0 < n
      · rw [hat h0] at h; cases h
      · exact ⟨by omega, hL5 h⟩
    have HB1 : Hid (Below w.heap.size w w1) := hb1
    have HGL : Hid (1 < w.heap.size) := hT.lt
    have HE : Hid _ := he
    have HLC : Hid (∀ wx, Below w.heap.size w wx → ∀ i (h : i < L.length), wx.cell? ⟨b, off + i, none⟩ = some (.string L[i])) := fun wx hx i h => (hx.cell (p := ⟨b, off + i, none⟩) (hL2 (by omega)).2).trans (hL4 i h)
    have hlcn : n ≤ lc := by rw [hnl]; exact hL3
    rw [← hnl]
    have hnl' := hnl.symm
    clear hw1 hL hL2 hL3 hL4 hL5 hnl he hll hT
    go_enter Tryd.func4, Tryd.ntmps4
    go_wp2_with (at_builtin; refine wpList_ap_allO rfl (some 21) rfl _ _ rfl w.heap.size (.slice (some ⟨w.heap.size, 0, none⟩) 0 0) 0 [] rfl hown1 la b off n lc L hnl' rfl hat hnn hcl1 hs1 (by omega) ?_; intro v2 w2 ho2 hg2)
    have hb2 : Below w.heap.size w1 w2 := below_own hg2 hs1 (fun j hj => by simp only [Value.ownBlock, Option.some.injEq] at hj; omega)
    have hB2 : Below w.heap.size w w2 := HB1.out.trans hb2
    rw [Nat.zero_add, List.nil_append] at ho2
    have hT2 : Pw w2 := hT1.keep hb2 (by
      have := hT1.lt
      have hg : 1 < w.heap.size := HGL.out
      exact hg)
    have hso := sort_own (X := L) (by rw [hnl']; exact ho2) (by omega) HE.out hT2
    clear ho2 hg2 hown1 hcl1 hs1 hT1 hb1 hb2 hw1'
    refine hso.mono ?_
    rintro e w3 ⟨vs, rv, rfl, hperm, hfall, hown3, hb3⟩
    clear hso
    obtain ⟨X, hX⟩ : ∃ X, X = sortedT vs L := ⟨_, rfl⟩
    have hXl : X.length = n := by rw [hX, sorted_len hperm]; exact hnl'
    have HXL : Hid (X.length = n) := hXl
    have HPM : Hid (L.Perm X) := by rw [hX]; exact (sorted_perm hperm).symm
    have HXP : Hid (∀ i (h : i < X.length), parseV (vb X[i]) = vs[i]?) := fun i h => by subst hX; exact sorted_parse hperm i h
    have HFA : Hid (Falls vs) := hfall
    have HPV : Hid (vs.Perm (versOf L)) := hperm
    have HXE : Hid (X = sortedT vs L) := hX
    have hown4 : w3.ownsRow w2.heap.size 9 1 rv n (X.map Value.string) := by rw [hX, ← hnl']; exact hown3
    obtain ⟨xa, xg, xoff, xc, hx1, hx2, hx3, hx5, hx4⟩ := (own_tx hXl hown4).ex
    have hB3 : Below w.heap.size w w3 := hB2.trans (hb3.mono hB2.size)
    have HB3 : Hid (Below w.heap.size w w3) := hB3
    have HT3 : Hid (Pw w3) := hT2.keep hb3 hT2.lt
    have HXC : Hid (∀ wx, Below w3.heap.size w3 wx → ∀ i (h : i < X.length), wx.cell? ⟨xg, xoff + i, none⟩ = some (.string X[i])) := fun wx hx i h => (hx.cell (p := ⟨xg, xoff + i, none⟩) (hx2 (by omega)).2).trans (hx4 i h)
    have HLX : Hid (∀ wx, Below w3.heap.size w3 wx → ∀ i (h : i < L.length), wx.cell? ⟨b, off + i, none⟩ = some (.string L[i])) := fun wx hx i h => HLC.out wx (hB3.trans (hx.mono hB3.size)) i h
    have HPA : Hid (∀ i (h : i < X.length) wx, Calls Tryd.prog 13 #[.string X[i]] wx fun e w' => e = .returned (parseE X[i]) ∧ Below wx.heap.size wx w') := fun i h wx => parse_ok X[i] wx (HE.out _ (HPM.out.mem_iff.2 (List.getElem_mem h)))
    have HXA : Hid (0 < n → xa = some ⟨xg, xoff, none⟩) := fun h => (hx2 (by omega)).1
    have HXN : Hid (xa = none → n = 0 ∧ xc = 0) := fun h => by
      by_cases h0 : 0 < n
      · rw [(hx2 (by omega)).1] at h; cases h
      · exact ⟨by omega, hx5 h⟩
    have hxc3 : n ≤ xc := by rw [← hXl]; exact hx3
    obtain ⟨m, hm⟩ : ∃ m, m = vs.length := ⟨_, rfl⟩
    have HM : Hid (m = vs.length) := hm
    rw [hXl] at hx1
    subst hx1
    clear hX hXl hperm hfall hown3 hown4 hx2 hx3 hx4 hx5 hB3 hb3 hB2 hT2 hm
    go_wp2
    go_loopw [4, 5] (fun s4 s5 wq => ∃ i : Nat, i ≤ n ∧ s5 = .int .i64 i ∧ s4 = .bool (decide (m < i)) ∧ Below w3.heap.size w3 wq) (fun _ s5 _ => n - (intOf s5).toNat)
    case atStart => exact ⟨0, Nat.zero_le _, rfl, by simp, Below.refl _ _⟩
    case round =>
      obtain ⟨i, hi, rfl, rfl, hBq⟩ := hrel
      have HBq : Hid (Below w3.heap.size w3 wr) := hBq
      by_cases hin : i < n
      · have hin' : (i : Int) < (n : Int) := by omega
        have hiX : i < X.length := by have := HXL.out; omega
        obtain rfl := HXA.out (by omega)
        obtain rfl := hat (by omega)
        have xi0 := HXC.out wr hBq i hiX
        have hpi := HPA.out i hiX wr
        have hpv := HXP.out i hiX
        obtain ⟨y, hy⟩ : ∃ y, y = X[i] := ⟨_, rfl⟩
        have HYI : Hid (X[i] = y) := hy.symm
        rw [← hy] at xi0 hpi hpv
        clear hy hBq
        by_cases him : i < m
        · have hmv : i < vs.length := by have := HM.out; omega
          have hsome : parseV (vb y) = some vs[i] := by rw [hpv]; exact List.getElem?_eq_getElem hmv
          rw [parseE_yes hsome] at hpi
          obtain ⟨v, hv⟩ : ∃ v, v = vs[i] := ⟨_, rfl⟩
          have HVI : Hid (vs[i] = v) := hv.symm
          rw [← hv] at hpi
          have hd : decide (m < i) = false := decide_eq_false (by omega)
          rw [hd]
          have HD2 : Hid (decide (m < i + 1) = false) := decide_eq_false (by omega)
          clear hpv hsome hd hv
          by_cases hi0 : 0 < i
          · have hi0' : (0 : Int) < (i : Int) := by omega
            obtain ⟨i1, hi1⟩ : ∃ i1, i1 = i - 1 := ⟨_, rfl⟩
            have hwi : IntKind.i64.wrap ((i : Int) - 1) = (i1 : Int) := by rw [IntKind.wrap_i64]; omega
            have hi1n : (i1 : Int) < (n : Int) := by omega
            have hi1X : i1 < X.length := by omega
            have hi1v : i1 < vs.length := by omega
            have HPJ : Hid (∀ wx, Calls Tryd.prog 13 #[.string X[i1]] wx fun e w' => e = .returned (.tuple #[verV vs[i1], .int .i64 0]) ∧ Below wx.heap.size wx w') := fun wx => by
              have h := HPA.out i1 hi1X wx
              rw [parseE_yes (by rw [HXP.out i1 hi1X]; exact List.getElem?_eq_getElem hi1v)] at h
              exact h
            have HCM : Hid (0 ≤ cmpV vs[i1] vs[i]) := List.pairwise_iff_getElem.1 HFA.out i1 i hi1v hmv (by omega)
            rw [HVI.out] at HCM
            obtain ⟨u, hu⟩ : ∃ u, u = vs[i1] := ⟨_, rfl⟩
            obtain ⟨y1, hy1⟩ : ∃ y1, y1 = X[i1] := ⟨_, rfl⟩
            have HY1 : Hid (X[i1] = y1) := hy1.symm
            rw [← hu] at HPJ HCM
            rw [← hy1] at HPJ
            clear hi0 hi1 hu hy1
            go_wp2_with fail
            refine hpi.mono ?_
            rintro e wA ⟨rfl, hbA⟩
            have hBA : Below w3.heap.size w3 (wA.alloc (.cells (verC v) 24)) := HBq.out.trans ((hbA.alloc hbA.size _).mono HBq.out.size)
            have HRA : Hid (Row (wA.alloc (.cells (verC v) 24)) wA.heap.size (verC v) 24) := Row.new _ _ _
            have xj := HXC.out _ hBA i1 hi1X
            rw [HY1.out] at xj
            have HBA : Hid _ := hBA
            clear hpi hbA xi0 hBA
            go_wp2_with (refine wpList_store_new rfl 24 _ _ rfl wA zeroC (verC v) 24 rfl wA.heap.size rfl rfl rfl infoVs rfl (verC_one _) ?_)
            obtain ⟨wC, hwC⟩ : ∃ x, x = wA.alloc (.cells (verC v) 24) := ⟨_, rfl⟩
            rw [← hwC] at HBA HRA
            rw [← hwC]
            clear hwC xj
            refine (HPJ.out wC).mono ?_
            rintro e wD ⟨rfl, hbD⟩
            have hqD : Below wC.heap.size wC (wD.alloc (.cells (verC u) 24)) := hbD.alloc hbD.size _
            have HBD : Hid (Below w3.heap.size w3 (wD.alloc (.cells (verC u) 24))) := HBA.out.trans (hqD.mono HBA.out.size)
            have HRD : Hid (Row (wD.alloc (.cells (verC u) 24)) wA.heap.size (verC v) 24) := Row.below HRA.out hqD (Row.lt HRA.out)
            have HUD : Hid (Row (wD.alloc (.cells (verC u) 24)) wD.heap.size (verC u) 24) := Row.new _ _ _
            clear hbD hqD
            go_wp2_with (first | refine wpList_store_new rfl 24 _ _ rfl wD zeroC (verC u) 24 rfl wD.heap.size rfl rfl rfl infoVs rfl (verC_one _) ?_ | refine wpList_load_row rfl 24 _ rfl wD.heap.size rfl 24 (verC u) (0, 0) _ HUD.out Tryd.underlying24 rfl infoVs ?_ | refine wpList_load_row rfl 24 _ rfl wA.heap.size rfl 24 (verC v) (0, 0) _ HRD.out Tryd.underlying24 rfl infoVs ?_)
            obtain ⟨wE, hwE⟩ : ∃ x, x = wD.alloc (.cells (verC u) 24) := ⟨_, rfl⟩
            rw [← hwE] at HBD
            rw [← hwE]
            have hcm := compare_any u v wE
            generalize cmpV u v = cz at hcm HCM
            clear hwE
            refine hcm.mono ?_
            rintro e wB ⟨rfl, hbB⟩
            have HBB : Hid (Below w3.heap.size w3 wB) := HBD.out.trans (hbB.mono HBD.out.size)
            have hcz : ¬ cz < 0 := by have := HCM.out; omega
            clear hcm hbB
            go_wp2
            obtain ⟨wO, hwO⟩ : ∃ x, x = wB := ⟨_, rfl⟩
            go_loopw [10, 11] (fun s10 s11 wz => ∃ k : Nat, k ≤ n ∧ s11 = .int .i64 k ∧ s10 = .int .i64 (((L.take k).count y : Int) - ((X.take k).count y : Int)) ∧ Below w3.heap.size w3 wz) (fun _ s11 _ => n - (intOf s11).toNat)
            case atStart => exact ⟨0, Nat.zero_le _, rfl, by simp, HBB.out⟩
            case round =>
              obtain ⟨k, hk, rfl, rfl, hBr⟩ := hrel
              have HBr : Hid (Below w3.heap.size w3 wr) := hBr
              have hp1 := cnt_le L y k
              have hp2 := cnt_le X y k
              by_cases hkn : k < n
              · have hkL : k < L.length := by have := HN.out; omega
                have hkX : k < X.length := by have := HXL.out; omega
                have hkn' : (k : Int) < (n : Int) := by omega
                have hm1 := cnt_more L y k hkL
                have hm2 := cnt_more X y k hkX
                have lk := HLX.out wr hBr k hkL
                have xk := HXC.out wr hBr k hkX
                have xi := HXC.out wr hBr i hiX
                rw [HYI.out] at xi
                obtain ⟨lx, hlx⟩ : ∃ x, x = L[k] := ⟨_, rfl⟩
                obtain ⟨xx, hxx⟩ : ∃ x, x = X[k] := ⟨_, rfl⟩
                rw [← hlx] at lk hm1
                rw [← hxx] at xk hm2
                obtain ⟨p, hp⟩ : ∃ p, p = (L.take k).count y := ⟨_, rfl⟩
                obtain ⟨q, hq⟩ : ∃ q, q = (X.take k).count y := ⟨_, rfl⟩
                rw [← hp] at hm1 hp1
                rw [← hq] at hm2 hp2
                rw [← hp, ← hq]
                have HLk : Hid (∀ wx, Below w3.heap.size w3 wx → wx.cell? ⟨b, off + k, none⟩ = some (.string lx)) := fun wx hx => by rw [hlx]; exact HLX.out wx hx k hkL
                have HXk : Hid (∀ wx, Below w3.heap.size w3 wx → wx.cell? ⟨xg, xoff + k, none⟩ = some (.string xx)) := fun wx hx => by rw [hxx]; exact HXC.out wx hx k hkX
                have HXi : Hid (∀ wx, Below w3.heap.size w3 wx → wx.cell? ⟨xg, xoff + i, none⟩ = some (.string y)) := fun wx hx => by rw [← HYI.out]; exact HXC.out wx hx i hiX
                clear hlx hxx hp hq hBr lk xk xi
                have hwa : IntKind.i64.wrap ((p : Int) - (q : Int) + 1) = (p : Int) - (q : Int) + 1 := by rw [IntKind.wrap_i64]; omega
                have hwb : IntKind.i64.wrap ((p : Int) - (q : Int) + 1 - 1) = (p : Int) - (q : Int) + 1 - 1 := by rw [IntKind.wrap_i64]; omega
                have hwc : IntKind.i64.wrap ((p : Int) - (q : Int) - 1) = (p : Int) - (q : Int) - 1 := by rw [IntKind.wrap_i64]; omega
                by_cases e1 : lx = y
                · rw [if_pos e1] at hm1
                  by_cases e2 : xx = y
                  · rw [if_pos e2] at hm2
                    have HNx : Hid (Value.int .i64 (((L.take (k + 1)).count y : Int) - ((X.take (k + 1)).count y : Int)) = .int .i64 ((p : Int) - (q : Int))) := by show _ = _; rw [hm1, hm2]; congr 1; omega
                    clear hm1 hm2
                    rw [e1] at HLk
                    rw [e2] at HXk
                    clear e1 e2
                    go_wp2
                    refine wp_region_quiet (C := fun wx => Below w3.heap.size w3 wx) (by kernel_rfl) (by kernel_rfl) (HBr.out.drew) ?_
                    simp only []
                    refine q_value ?_ (by rfl) (fun w hw => ?_) ?_
                    rotate_left
                    · go_simp
                      with_reducible rfl
                    simp only [Act.put, List.setIfInBounds_toArray, List.set_cons_zero, List.set_cons_succ]
                    refine q_value ?_ (by rfl) (fun w hw => ?_) ?_
                    rotate_left
                    · go_simp
                      with_reducible rfl
                    simp only [Act.put, List.setIfInBounds_toArray, List.set_cons_zero, List.set_cons_succ]
                    refine q_value ?_ (by rfl) (fun w hw => ?_) ?_
                    rotate_left
                    · go_simp
                      with_reducible rfl
                    simp only [Act.put, List.setIfInBounds_toArray, List.set_cons_zero, List.set_cons_succ]
                    refine q_value ?_ (by rfl) (fun w hw => ?_) ?_
                    rotate_left
                    · have hc := HLk.out w hw
                      go_simp
                      with_reducible rfl
                    simp only [Act.put, List.setIfInBounds_toArray, List.set_cons_zero, List.set_cons_succ]
                    refine q_value ?_ (by rfl) (fun w hw => ?_) ?_
                    rotate_left
                    · go_simp
                      with_reducible rfl
                    simp only [Act.put, List.setIfInBounds_toArray, List.set_cons_zero, List.set_cons_succ]
                    refine q_value ?_ (by rfl) (fun w hw => ?_) ?_
                    rotate_left
                    · go_simp
                      with_reducible rfl
                    simp only [Act.put, List.setIfInBounds_toArray, List.set_cons_zero, List.set_cons_succ]
                    refine q_value ?_ (by rfl) (fun w hw => ?_) ?_
                    rotate_left
                    · go_simp
                      with_reducible rfl
                    simp only [Act.put, List.setIfInBounds_toArray, List.set_cons_zero, List.set_cons_succ]
                    refine q_value ?_ (by rfl) (fun w hw => ?_) ?_
                    rotate_left
                    · have hc := HXi.out w hw
                      go_simp
                      with_reducible rfl
                    simp only [Act.put, List.setIfInBounds_toArray, List.set_cons_zero, List.set_cons_succ]
                    refine q_value (.bool true) (by rfl) (fun w hw => ?_) ?_
                    · go_simp
                    simp only [Act.put, List.setIfInBounds_toArray, List.set_cons_zero, List.set_cons_succ]
                    refine wpQuiet_nil ?_
                    intro wz hw2
                    simp only [Exit.then]
                    have Hwz : Hid (Below w3.heap.size w3 wz) := hw2
                    clear hw2 HBr
                    go_wp2
                    refine wp_region_quiet (C := fun wx => Below w3.heap.size w3 wx) (by kernel_rfl) (by kernel_rfl) (Hwz.out.drew) ?_
                    simp only []
                    refine q_value ?_ (by rfl) (fun w hw => ?_) ?_
                    rotate_left
                    · go_simp
                      with_reducible rfl
                    simp only [Act.put, List.setIfInBounds_toArray, List.set_cons_zero, List.set_cons_succ]
                    refine q_value ?_ (by rfl) (fun w hw => ?_) ?_
                    rotate_left
                    · go_simp
                      with_reducible rfl
                    simp only [Act.put, List.setIfInBounds_toArray, List.set_cons_zero, List.set_cons_succ]
                    refine q_value ?_ (by rfl) (fun w hw => ?_) ?_
                    rotate_left
                    · go_simp
                      with_reducible rfl
                    simp only [Act.put, List.setIfInBounds_toArray, List.set_cons_zero, List.set_cons_succ]
                    refine q_value ?_ (by rfl) (fun w hw => ?_) ?_
                    rotate_left
                    · have hc := HXk.out w hw
                      go_simp
                      with_reducible rfl
                    simp only [Act.put, List.setIfInBounds_toArray, List.set_cons_zero, List.set_cons_succ]
                    refine q_value ?_ (by rfl) (fun w hw => ?_) ?_
                    rotate_left
                    · go_simp
                      with_reducible rfl
                    simp only [Act.put, List.setIfInBounds_toArray, List.set_cons_zero, List.set_cons_succ]
                    refine q_value ?_ (by rfl) (fun w hw => ?_) ?_
                    rotate_left
                    · go_simp
                      with_reducible rfl
                    simp only [Act.put, List.setIfInBounds_toArray, List.set_cons_zero, List.set_cons_succ]
                    refine q_value ?_ (by rfl) (fun w hw => ?_) ?_
                    rotate_left
                    · go_simp
                      with_reducible rfl
                    simp only [Act.put, List.setIfInBounds_toArray, List.set_cons_zero, List.set_cons_succ]
                    refine q_value ?_ (by rfl) (fun w hw => ?_) ?_
                    rotate_left
                    · have hc := HXi.out w hw
                      go_simp
                      with_reducible rfl
                    simp only [Act.put, List.setIfInBounds_toArray, List.set_cons_zero, List.set_cons_succ]
                    refine q_value (.bool true) (by rfl) (fun w hw => ?_) ?_
                    · go_simp
                    simp only [Act.put, List.setIfInBounds_toArray, List.set_cons_zero, List.set_cons_succ]
                    refine wpQuiet_nil ?_
                    intro wy hw2
                    simp only [Exit.then]
                    have Hwy : Hid (Below w3.heap.size w3 wy) := hw2
                    clear hw2 Hwz
                    go_wp2
                    go_roundw
                    case rel => exact ⟨k + 1, by omega, by go_num, by rw [HNx.out], Hwy.out⟩
                    case measure => simp [intOf]; omega
                  · rw [if_neg e2] at hm2
                    have HNx : Hid (Value.int .i64 (((L.take (k + 1)).count y : Int) - ((X.take (k + 1)).count y : Int)) = .int .i64 ((p : Int) - (q : Int) + 1)) := by show _ = _; rw [hm1, hm2]; congr 1; omega
                    clear hm1 hm2
                    rw [e1] at HLk
                    obtain ⟨n3, n4⟩ := eq_bytes e2
                    clear e1 e2
                    go_wp2
                    refine wp_region_quiet (C := fun wx => Below w3.heap.size w3 wx) (by kernel_rfl) (by kernel_rfl) (HBr.out.drew) ?_
                    simp only []
                    refine q_value ?_ (by rfl) (fun w hw => ?_) ?_
                    rotate_left
                    · go_simp
                      with_reducible rfl
                    simp only [Act.put, List.setIfInBounds_toArray, List.set_cons_zero, List.set_cons_succ]
                    refine q_value ?_ (by rfl) (fun w hw => ?_) ?_
                    rotate_left
                    · go_simp
                      with_reducible rfl
                    simp only [Act.put, List.setIfInBounds_toArray, List.set_cons_zero, List.set_cons_succ]
                    refine q_value ?_ (by rfl) (fun w hw => ?_) ?_
                    rotate_left
                    · go_simp
                      with_reducible rfl
                    simp only [Act.put, List.setIfInBounds_toArray, List.set_cons_zero, List.set_cons_succ]
                    refine q_value ?_ (by rfl) (fun w hw => ?_) ?_
                    rotate_left
                    · have hc := HLk.out w hw
                      go_simp
                      with_reducible rfl
                    simp only [Act.put, List.setIfInBounds_toArray, List.set_cons_zero, List.set_cons_succ]
                    refine q_value ?_ (by rfl) (fun w hw => ?_) ?_
                    rotate_left
                    · go_simp
                      with_reducible rfl
                    simp only [Act.put, List.setIfInBounds_toArray, List.set_cons_zero, List.set_cons_succ]
                    refine q_value ?_ (by rfl) (fun w hw => ?_) ?_
                    rotate_left
                    · go_simp
                      with_reducible rfl
                    simp only [Act.put, List.setIfInBounds_toArray, List.set_cons_zero, List.set_cons_succ]
                    refine q_value ?_ (by rfl) (fun w hw => ?_) ?_
                    rotate_left
                    · go_simp
                      with_reducible rfl
                    simp only [Act.put, List.setIfInBounds_toArray, List.set_cons_zero, List.set_cons_succ]
                    refine q_value ?_ (by rfl) (fun w hw => ?_) ?_
                    rotate_left
                    · have hc := HXi.out w hw
                      go_simp
                      with_reducible rfl
                    simp only [Act.put, List.setIfInBounds_toArray, List.set_cons_zero, List.set_cons_succ]
                    refine q_value (.bool true) (by rfl) (fun w hw => ?_) ?_
                    · go_simp
                    simp only [Act.put, List.setIfInBounds_toArray, List.set_cons_zero, List.set_cons_succ]
                    refine wpQuiet_nil ?_
                    intro wz hw2
                    simp only [Exit.then]
                    have Hwz : Hid (Below w3.heap.size w3 wz) := hw2
                    clear hw2 HBr
                    go_wp2
                    refine wp_region_quiet (C := fun wx => Below w3.heap.size w3 wx) (by kernel_rfl) (by kernel_rfl) (Hwz.out.drew) ?_
                    simp only []
                    refine q_value ?_ (by rfl) (fun w hw => ?_) ?_
                    rotate_left
                    · go_simp
                      with_reducible rfl
                    simp only [Act.put, List.setIfInBounds_toArray, List.set_cons_zero, List.set_cons_succ]
                    refine q_value ?_ (by rfl) (fun w hw => ?_) ?_
                    rotate_left
                    · go_simp
                      with_reducible rfl
                    simp only [Act.put, List.setIfInBounds_toArray, List.set_cons_zero, List.set_cons_succ]
                    refine q_value ?_ (by rfl) (fun w hw => ?_) ?_
                    rotate_left
                    · go_simp
                      with_reducible rfl
                    simp only [Act.put, List.setIfInBounds_toArray, List.set_cons_zero, List.set_cons_succ]
                    refine q_value ?_ (by rfl) (fun w hw => ?_) ?_
                    rotate_left
                    · have hc := HXk.out w hw
                      go_simp
                      with_reducible rfl
                    simp only [Act.put, List.setIfInBounds_toArray, List.set_cons_zero, List.set_cons_succ]
                    refine q_value ?_ (by rfl) (fun w hw => ?_) ?_
                    rotate_left
                    · go_simp
                      with_reducible rfl
                    simp only [Act.put, List.setIfInBounds_toArray, List.set_cons_zero, List.set_cons_succ]
                    refine q_value ?_ (by rfl) (fun w hw => ?_) ?_
                    rotate_left
                    · go_simp
                      with_reducible rfl
                    simp only [Act.put, List.setIfInBounds_toArray, List.set_cons_zero, List.set_cons_succ]
                    refine q_value ?_ (by rfl) (fun w hw => ?_) ?_
                    rotate_left
                    · go_simp
                      with_reducible rfl
                    simp only [Act.put, List.setIfInBounds_toArray, List.set_cons_zero, List.set_cons_succ]
                    refine q_value ?_ (by rfl) (fun w hw => ?_) ?_
                    rotate_left
                    · have hc := HXi.out w hw
                      go_simp
                      with_reducible rfl
                    simp only [Act.put, List.setIfInBounds_toArray, List.set_cons_zero, List.set_cons_succ]
                    refine q_value (.bool false) (by rfl) (fun w hw => ?_) ?_
                    · go_simp
                    simp only [Act.put, List.setIfInBounds_toArray, List.set_cons_zero, List.set_cons_succ]
                    refine wpQuiet_nil ?_
                    intro wy hw2
                    simp only [Exit.then]
                    have Hwy : Hid (Below w3.heap.size w3 wy) := hw2
                    clear hw2 Hwz
                    go_wp2
                    go_roundw
                    case rel => exact ⟨k + 1, by omega, by go_num, by rw [HNx.out], Hwy.out⟩
                    case measure => simp [intOf]; omega
                · rw [if_neg e1] at hm1
                  by_cases e2 : xx = y
                  · rw [if_pos e2] at hm2
                    have HNx : Hid (Value.int .i64 (((L.take (k + 1)).count y : Int) - ((X.take (k + 1)).count y : Int)) = .int .i64 ((p : Int) - (q : Int) - 1)) := by show _ = _; rw [hm1, hm2]; congr 1; omega
                    clear hm1 hm2
                    obtain ⟨n1, n2⟩ := eq_bytes e1
                    rw [e2] at HXk
                    clear e1 e2
                    go_wp2
                    refine wp_region_quiet (C := fun wx => Below w3.heap.size w3 wx) (by kernel_rfl) (by kernel_rfl) (HBr.out.drew) ?_
                    simp only []
                    refine q_value ?_ (by rfl) (fun w hw => ?_) ?_
                    rotate_left
                    · go_simp
                      with_reducible rfl
                    simp only [Act.put, List.setIfInBounds_toArray, List.set_cons_zero, List.set_cons_succ]
                    refine q_value ?_ (by rfl) (fun w hw => ?_) ?_
                    rotate_left
                    · go_simp
                      with_reducible rfl
                    simp only [Act.put, List.setIfInBounds_toArray, List.set_cons_zero, List.set_cons_succ]
                    refine q_value ?_ (by rfl) (fun w hw => ?_) ?_
                    rotate_left
                    · go_simp
                      with_reducible rfl
                    simp only [Act.put, List.setIfInBounds_toArray, List.set_cons_zero, List.set_cons_succ]
                    refine q_value ?_ (by rfl) (fun w hw => ?_) ?_
                    rotate_left
                    · have hc := HLk.out w hw
                      go_simp
                      with_reducible rfl
                    simp only [Act.put, List.setIfInBounds_toArray, List.set_cons_zero, List.set_cons_succ]
                    refine q_value ?_ (by rfl) (fun w hw => ?_) ?_
                    rotate_left
                    · go_simp
                      with_reducible rfl
                    simp only [Act.put, List.setIfInBounds_toArray, List.set_cons_zero, List.set_cons_succ]
                    refine q_value ?_ (by rfl) (fun w hw => ?_) ?_
                    rotate_left
                    · go_simp
                      with_reducible rfl
                    simp only [Act.put, List.setIfInBounds_toArray, List.set_cons_zero, List.set_cons_succ]
                    refine q_value ?_ (by rfl) (fun w hw => ?_) ?_
                    rotate_left
                    · go_simp
                      with_reducible rfl
                    simp only [Act.put, List.setIfInBounds_toArray, List.set_cons_zero, List.set_cons_succ]
                    refine q_value ?_ (by rfl) (fun w hw => ?_) ?_
                    rotate_left
                    · have hc := HXi.out w hw
                      go_simp
                      with_reducible rfl
                    simp only [Act.put, List.setIfInBounds_toArray, List.set_cons_zero, List.set_cons_succ]
                    refine q_value (.bool false) (by rfl) (fun w hw => ?_) ?_
                    · go_simp
                    simp only [Act.put, List.setIfInBounds_toArray, List.set_cons_zero, List.set_cons_succ]
                    refine wpQuiet_nil ?_
                    intro wz hw2
                    simp only [Exit.then]
                    have Hwz : Hid (Below w3.heap.size w3 wz) := hw2
                    clear hw2 HBr
                    go_wp2
                    refine wp_region_quiet (C := fun wx => Below w3.heap.size w3 wx) (by kernel_rfl) (by kernel_rfl) (Hwz.out.drew) ?_
                    simp only []
                    refine q_value ?_ (by rfl) (fun w hw => ?_) ?_
                    rotate_left
                    · go_simp
                      with_reducible rfl
                    simp only [Act.put, List.setIfInBounds_toArray, List.set_cons_zero, List.set_cons_succ]
                    refine q_value ?_ (by rfl) (fun w hw => ?_) ?_
                    rotate_left
                    · go_simp
                      with_reducible rfl
                    simp only [Act.put, List.setIfInBounds_toArray, List.set_cons_zero, List.set_cons_succ]
                    refine q_value ?_ (by rfl) (fun w hw => ?_) ?_
                    rotate_left
                    · go_simp
                      with_reducible rfl
                    simp only [Act.put, List.setIfInBounds_toArray, List.set_cons_zero, List.set_cons_succ]
                    refine q_value ?_ (by rfl) (fun w hw => ?_) ?_
                    rotate_left
                    · have hc := HXk.out w hw
                      go_simp
                      with_reducible rfl
                    simp only [Act.put, List.setIfInBounds_toArray, List.set_cons_zero, List.set_cons_succ]
                    refine q_value ?_ (by rfl) (fun w hw => ?_) ?_
                    rotate_left
                    · go_simp
                      with_reducible rfl
                    simp only [Act.put, List.setIfInBounds_toArray, List.set_cons_zero, List.set_cons_succ]
                    refine q_value ?_ (by rfl) (fun w hw => ?_) ?_
                    rotate_left
                    · go_simp
                      with_reducible rfl
                    simp only [Act.put, List.setIfInBounds_toArray, List.set_cons_zero, List.set_cons_succ]
                    refine q_value ?_ (by rfl) (fun w hw => ?_) ?_
                    rotate_left
                    · go_simp
                      with_reducible rfl
                    simp only [Act.put, List.setIfInBounds_toArray, List.set_cons_zero, List.set_cons_succ]
                    refine q_value ?_ (by rfl) (fun w hw => ?_) ?_
                    rotate_left
                    · have hc := HXi.out w hw
                      go_simp
                      with_reducible rfl
                    simp only [Act.put, List.setIfInBounds_toArray, List.set_cons_zero, List.set_cons_succ]
                    refine q_value (.bool true) (by rfl) (fun w hw => ?_) ?_
                    · go_simp
                    simp only [Act.put, List.setIfInBounds_toArray, List.set_cons_zero, List.set_cons_succ]
                    refine wpQuiet_nil ?_
                    intro wy hw2
                    simp only [Exit.then]
                    have Hwy : Hid (Below w3.heap.size w3 wy) := hw2
                    clear hw2 Hwz
                    go_wp2
                    go_roundw
                    case rel => exact ⟨k + 1, by omega, by go_num, by rw [HNx.out], Hwy.out⟩
                    case measure => simp [intOf]; omega
                  · rw [if_neg e2] at hm2
                    have HNx : Hid (Value.int .i64 (((L.take (k + 1)).count y : Int) - ((X.take (k + 1)).count y : Int)) = .int .i64 ((p : Int) - (q : Int))) := by show _ = _; rw [hm1, hm2]; congr 1
                    clear hm1 hm2
                    obtain ⟨n1, n2⟩ := eq_bytes e1
                    obtain ⟨n3, n4⟩ := eq_bytes e2
                    clear e1 e2
                    go_wp2
                    refine wp_region_quiet (C := fun wx => Below w3.heap.size w3 wx) (by kernel_rfl) (by kernel_rfl) (HBr.out.drew) ?_
                    simp only []
                    refine q_value ?_ (by rfl) (fun w hw => ?_) ?_
                    rotate_left
                    · go_simp
                      with_reducible rfl
                    simp only [Act.put, List.setIfInBounds_toArray, List.set_cons_zero, List.set_cons_succ]
                    refine q_value ?_ (by rfl) (fun w hw => ?_) ?_
                    rotate_left
                    · go_simp
                      with_reducible rfl
                    simp only [Act.put, List.setIfInBounds_toArray, List.set_cons_zero, List.set_cons_succ]
                    refine q_value ?_ (by rfl) (fun w hw => ?_) ?_
                    rotate_left
                    · go_simp
                      with_reducible rfl
                    simp only [Act.put, List.setIfInBounds_toArray, List.set_cons_zero, List.set_cons_succ]
                    refine q_value ?_ (by rfl) (fun w hw => ?_) ?_
                    rotate_left
                    · have hc := HLk.out w hw
                      go_simp
                      with_reducible rfl
                    simp only [Act.put, List.setIfInBounds_toArray, List.set_cons_zero, List.set_cons_succ]
                    refine q_value ?_ (by rfl) (fun w hw => ?_) ?_
                    rotate_left
                    · go_simp
                      with_reducible rfl
                    simp only [Act.put, List.setIfInBounds_toArray, List.set_cons_zero, List.set_cons_succ]
                    refine q_value ?_ (by rfl) (fun w hw => ?_) ?_
                    rotate_left
                    · go_simp
                      with_reducible rfl
                    simp only [Act.put, List.setIfInBounds_toArray, List.set_cons_zero, List.set_cons_succ]
                    refine q_value ?_ (by rfl) (fun w hw => ?_) ?_
                    rotate_left
                    · go_simp
                      with_reducible rfl
                    simp only [Act.put, List.setIfInBounds_toArray, List.set_cons_zero, List.set_cons_succ]
                    refine q_value ?_ (by rfl) (fun w hw => ?_) ?_
                    rotate_left
                    · have hc := HXi.out w hw
                      go_simp
                      with_reducible rfl
                    simp only [Act.put, List.setIfInBounds_toArray, List.set_cons_zero, List.set_cons_succ]
                    refine q_value (.bool false) (by rfl) (fun w hw => ?_) ?_
                    · go_simp
                    simp only [Act.put, List.setIfInBounds_toArray, List.set_cons_zero, List.set_cons_succ]
                    refine wpQuiet_nil ?_
                    intro wz hw2
                    simp only [Exit.then]
                    have Hwz : Hid (Below w3.heap.size w3 wz) := hw2
                    clear hw2 HBr
                    go_wp2
                    refine wp_region_quiet (C := fun wx => Below w3.heap.size w3 wx) (by kernel_rfl) (by kernel_rfl) (Hwz.out.drew) ?_
                    simp only []
                    refine q_value ?_ (by rfl) (fun w hw => ?_) ?_
                    rotate_left
                    · go_simp
                      with_reducible rfl
                    simp only [Act.put, List.setIfInBounds_toArray, List.set_cons_zero, List.set_cons_succ]
                    refine q_value ?_ (by rfl) (fun w hw => ?_) ?_
                    rotate_left
                    · go_simp
                      with_reducible rfl
                    simp only [Act.put, List.setIfInBounds_toArray, List.set_cons_zero, List.set_cons_succ]
                    refine q_value ?_ (by rfl) (fun w hw => ?_) ?_
                    rotate_left
                    · go_simp
                      with_reducible rfl
                    simp only [Act.put, List.setIfInBounds_toArray, List.set_cons_zero, List.set_cons_succ]
                    refine q_value ?_ (by rfl) (fun w hw => ?_) ?_
                    rotate_left
                    · have hc := HXk.out w hw
                      go_simp
                      with_reducible rfl
                    simp only [Act.put, List.setIfInBounds_toArray, List.set_cons_zero, List.set_cons_succ]
                    refine q_value ?_ (by rfl) (fun w hw => ?_) ?_
                    rotate_left
                    · go_simp
                      with_reducible rfl
                    simp only [Act.put, List.setIfInBounds_toArray, List.set_cons_zero, List.set_cons_succ]
                    refine q_value ?_ (by rfl) (fun w hw => ?_) ?_
                    rotate_left
                    · go_simp
                      with_reducible rfl
                    simp only [Act.put, List.setIfInBounds_toArray, List.set_cons_zero, List.set_cons_succ]
                    refine q_value ?_ (by rfl) (fun w hw => ?_) ?_
                    rotate_left
                    · go_simp
                      with_reducible rfl
                    simp only [Act.put, List.setIfInBounds_toArray, List.set_cons_zero, List.set_cons_succ]
                    refine q_value ?_ (by rfl) (fun w hw => ?_) ?_
                    rotate_left
                    · have hc := HXi.out w hw
                      go_simp
                      with_reducible rfl
                    simp only [Act.put, List.setIfInBounds_toArray, List.set_cons_zero, List.set_cons_succ]
                    refine q_value (.bool false) (by rfl) (fun w hw => ?_) ?_
                    · go_simp
                    simp only [Act.put, List.setIfInBounds_toArray, List.set_cons_zero, List.set_cons_succ]
                    refine wpQuiet_nil ?_
                    intro wy hw2
                    simp only [Exit.then]
                    have Hwy : Hid (Below w3.heap.size w3 wy) := hw2
                    clear hw2 Hwz
                    go_wp2
                    go_roundw
                    case rel => exact ⟨k + 1, by omega, by go_num, by rw [HNx.out], Hwy.out⟩
                    case measure => simp [intOf]; omega
              · have hkn' : ¬ (k : Int) < (n : Int) := by omega
                have hz : (((L.take k).count y : Int) - ((X.take k).count y : Int)) = 0 := by
                  rw [List.take_of_length_le (by have := HN.out; omega : L.length ≤ k), List.take_of_length_le (by have := HXL.out; omega : X.length ≤ k), HPM.out.count_eq y]
                  omega
                rw [hz]
                clear hz hp1 hp2 hBr
                go_wp2
                go_roundw
                case rel => exact ⟨i + 1, by omega, by go_num, by rw [HD2.out], HBr.out⟩
                case measure => simp [intOf]; omega
          · have hi0' : ¬ (0 : Int) < (i : Int) := by omega
            clear hi0
            go_wp2_with fail
            refine hpi.mono ?_
            rintro e wA ⟨rfl, hbA⟩
            have HBB : Hid (Below w3.heap.size w3 (wA.alloc (.cells (verC v) 24))) := HBq.out.trans ((hbA.alloc hbA.size _).mono HBq.out.size)
            clear hpi hbA xi0
            go_wp2_with (refine wpList_store_new rfl 24 _ _ rfl wA zeroC (verC v) 24 rfl wA.heap.size rfl rfl rfl infoVs rfl (verC_one _) ?_)
            obtain ⟨wB, hwB⟩ : ∃ x, x = wA.alloc (.cells (verC v) 24) := ⟨_, rfl⟩
            rw [← hwB] at HBB
            rw [← hwB]
            clear hwB
            obtain ⟨wO, hwO⟩ : ∃ x, x = wB := ⟨_, rfl⟩
            go_loopw [10, 11] (fun s10 s11 wz => ∃ k : Nat, k ≤ n ∧ s11 = .int .i64 k ∧ s10 = .int .i64 (((L.take k).count y : Int) - ((X.take k).count y : Int)) ∧ Below w3.heap.size w3 wz) (fun _ s11 _ => n - (intOf s11).toNat)
            case atStart => exact ⟨0, Nat.zero_le _, rfl, by simp, HBB.out⟩
            case round =>
              obtain ⟨k, hk, rfl, rfl, hBr⟩ := hrel
              have HBr : Hid (Below w3.heap.size w3 wr) := hBr
              have hp1 := cnt_le L y k
              have hp2 := cnt_le X y k
              by_cases hkn : k < n
              · have hkL : k < L.length := by have := HN.out; omega
                have hkX : k < X.length := by have := HXL.out; omega
                have hkn' : (k : Int) < (n : Int) := by omega
                have hm1 := cnt_more L y k hkL
                have hm2 := cnt_more X y k hkX
                have lk := HLX.out wr hBr k hkL
                have xk := HXC.out wr hBr k hkX
                have xi := HXC.out wr hBr i hiX
                rw [HYI.out] at xi
                obtain ⟨lx, hlx⟩ : ∃ x, x = L[k] := ⟨_, rfl⟩
                obtain ⟨xx, hxx⟩ : ∃ x, x = X[k] := ⟨_, rfl⟩
                rw [← hlx] at lk hm1
                rw [← hxx] at xk hm2
                obtain ⟨p, hp⟩ : ∃ p, p = (L.take k).count y := ⟨_, rfl⟩
                obtain ⟨q, hq⟩ : ∃ q, q = (X.take k).count y := ⟨_, rfl⟩
                rw [← hp] at hm1 hp1
                rw [← hq] at hm2 hp2
                rw [← hp, ← hq]
                have HLk : Hid (∀ wx, Below w3.heap.size w3 wx → wx.cell? ⟨b, off + k, none⟩ = some (.string lx)) := fun wx hx => by rw [hlx]; exact HLX.out wx hx k hkL
                have HXk : Hid (∀ wx, Below w3.heap.size w3 wx → wx.cell? ⟨xg, xoff + k, none⟩ = some (.string xx)) := fun wx hx => by rw [hxx]; exact HXC.out wx hx k hkX
                have HXi : Hid (∀ wx, Below w3.heap.size w3 wx → wx.cell? ⟨xg, xoff + i, none⟩ = some (.string y)) := fun wx hx => by rw [← HYI.out]; exact HXC.out wx hx i hiX
                clear hlx hxx hp hq hBr lk xk xi
                have hwa : IntKind.i64.wrap ((p : Int) - (q : Int) + 1) = (p : Int) - (q : Int) + 1 := by rw [IntKind.wrap_i64]; omega
                have hwb : IntKind.i64.wrap ((p : Int) - (q : Int) + 1 - 1) = (p : Int) - (q : Int) + 1 - 1 := by rw [IntKind.wrap_i64]; omega
                have hwc : IntKind.i64.wrap ((p : Int) - (q : Int) - 1) = (p : Int) - (q : Int) - 1 := by rw [IntKind.wrap_i64]; omega
                by_cases e1 : lx = y
                · rw [if_pos e1] at hm1
                  by_cases e2 : xx = y
                  · rw [if_pos e2] at hm2
                    have HNx : Hid (Value.int .i64 (((L.take (k + 1)).count y : Int) - ((X.take (k + 1)).count y : Int)) = .int .i64 ((p : Int) - (q : Int))) := by show _ = _; rw [hm1, hm2]; congr 1; omega
                    clear hm1 hm2
                    rw [e1] at HLk
                    rw [e2] at HXk
                    clear e1 e2
                    go_wp2
                    refine wp_region_quiet (C := fun wx => Below w3.heap.size w3 wx) (by kernel_rfl) (by kernel_rfl) (HBr.out.drew) ?_
                    simp only []
                    refine q_value ?_ (by rfl) (fun w hw => ?_) ?_
                    rotate_left
                    · go_simp
                      with_reducible rfl
                    simp only [Act.put, List.setIfInBounds_toArray, List.set_cons_zero, List.set_cons_succ]
                    refine q_value ?_ (by rfl) (fun w hw => ?_) ?_
                    rotate_left
                    · go_simp
                      with_reducible rfl
                    simp only [Act.put, List.setIfInBounds_toArray, List.set_cons_zero, List.set_cons_succ]
                    refine q_value ?_ (by rfl) (fun w hw => ?_) ?_
                    rotate_left
                    · go_simp
                      with_reducible rfl
                    simp only [Act.put, List.setIfInBounds_toArray, List.set_cons_zero, List.set_cons_succ]
                    refine q_value ?_ (by rfl) (fun w hw => ?_) ?_
                    rotate_left
                    · have hc := HLk.out w hw
                      go_simp
                      with_reducible rfl
                    simp only [Act.put, List.setIfInBounds_toArray, List.set_cons_zero, List.set_cons_succ]
                    refine q_value ?_ (by rfl) (fun w hw => ?_) ?_
                    rotate_left
                    · go_simp
                      with_reducible rfl
                    simp only [Act.put, List.setIfInBounds_toArray, List.set_cons_zero, List.set_cons_succ]
                    refine q_value ?_ (by rfl) (fun w hw => ?_) ?_
                    rotate_left
                    · go_simp
                      with_reducible rfl
                    simp only [Act.put, List.setIfInBounds_toArray, List.set_cons_zero, List.set_cons_succ]
                    refine q_value ?_ (by rfl) (fun w hw => ?_) ?_
                    rotate_left
                    · go_simp
                      with_reducible rfl
                    simp only [Act.put, List.setIfInBounds_toArray, List.set_cons_zero, List.set_cons_succ]
                    refine q_value ?_ (by rfl) (fun w hw => ?_) ?_
                    rotate_left
                    · have hc := HXi.out w hw
                      go_simp
                      with_reducible rfl
                    simp only [Act.put, List.setIfInBounds_toArray, List.set_cons_zero, List.set_cons_succ]
                    refine q_value (.bool true) (by rfl) (fun w hw => ?_) ?_
                    · go_simp
                    simp only [Act.put, List.setIfInBounds_toArray, List.set_cons_zero, List.set_cons_succ]
                    refine wpQuiet_nil ?_
                    intro wz hw2
                    simp only [Exit.then]
                    have Hwz : Hid (Below w3.heap.size w3 wz) := hw2
                    clear hw2 HBr
                    go_wp2
                    refine wp_region_quiet (C := fun wx => Below w3.heap.size w3 wx) (by kernel_rfl) (by kernel_rfl) (Hwz.out.drew) ?_
                    simp only []
                    refine q_value ?_ (by rfl) (fun w hw => ?_) ?_
                    rotate_left
                    · go_simp
                      with_reducible rfl
                    simp only [Act.put, List.setIfInBounds_toArray, List.set_cons_zero, List.set_cons_succ]
                    refine q_value ?_ (by rfl) (fun w hw => ?_) ?_
                    rotate_left
                    · go_simp
                      with_reducible rfl
                    simp only [Act.put, List.setIfInBounds_toArray, List.set_cons_zero, List.set_cons_succ]
                    refine q_value ?_ (by rfl) (fun w hw => ?_) ?_
                    rotate_left
                    · go_simp
                      with_reducible rfl
                    simp only [Act.put, List.setIfInBounds_toArray, List.set_cons_zero, List.set_cons_succ]
                    refine q_value ?_ (by rfl) (fun w hw => ?_) ?_
                    rotate_left
                    · have hc := HXk.out w hw
                      go_simp
                      with_reducible rfl
                    simp only [Act.put, List.setIfInBounds_toArray, List.set_cons_zero, List.set_cons_succ]
                    refine q_value ?_ (by rfl) (fun w hw => ?_) ?_
                    rotate_left
                    · go_simp
                      with_reducible rfl
                    simp only [Act.put, List.setIfInBounds_toArray, List.set_cons_zero, List.set_cons_succ]
                    refine q_value ?_ (by rfl) (fun w hw => ?_) ?_
                    rotate_left
                    · go_simp
                      with_reducible rfl
                    simp only [Act.put, List.setIfInBounds_toArray, List.set_cons_zero, List.set_cons_succ]
                    refine q_value ?_ (by rfl) (fun w hw => ?_) ?_
                    rotate_left
                    · go_simp
                      with_reducible rfl
                    simp only [Act.put, List.setIfInBounds_toArray, List.set_cons_zero, List.set_cons_succ]
                    refine q_value ?_ (by rfl) (fun w hw => ?_) ?_
                    rotate_left
                    · have hc := HXi.out w hw
                      go_simp
                      with_reducible rfl
                    simp only [Act.put, List.setIfInBounds_toArray, List.set_cons_zero, List.set_cons_succ]
                    refine q_value (.bool true) (by rfl) (fun w hw => ?_) ?_
                    · go_simp
                    simp only [Act.put, List.setIfInBounds_toArray, List.set_cons_zero, List.set_cons_succ]
                    refine wpQuiet_nil ?_
                    intro wy hw2
                    simp only [Exit.then]
                    have Hwy : Hid (Below w3.heap.size w3 wy) := hw2
                    clear hw2 Hwz
                    go_wp2
                    go_roundw
                    case rel => exact ⟨k + 1, by omega, by go_num, by rw [HNx.out], Hwy.out⟩
                    case measure => simp [intOf]; omega
                  · rw [if_neg e2] at hm2
                    have HNx : Hid (Value.int .i64 (((L.take (k + 1)).count y : Int) - ((X.take (k + 1)).count y : Int)) = .int .i64 ((p : Int) - (q : Int) + 1)) := by show _ = _; rw [hm1, hm2]; congr 1; omega
                    clear hm1 hm2
                    rw [e1] at HLk
                    obtain ⟨n3, n4⟩ := eq_bytes e2
                    clear e1 e2
                    go_wp2
                    refine wp_region_quiet (C := fun wx => Below w3.heap.size w3 wx) (by kernel_rfl) (by kernel_rfl) (HBr.out.drew) ?_
                    simp only []
                    refine q_value ?_ (by rfl) (fun w hw => ?_) ?_
                    rotate_left
                    · go_simp
                      with_reducible rfl
                    simp only [Act.put, List.setIfInBounds_toArray, List.set_cons_zero, List.set_cons_succ]
                    refine q_value ?_ (by rfl) (fun w hw => ?_) ?_
                    rotate_left
                    · go_simp
                      with_reducible rfl
                    simp only [Act.put, List.setIfInBounds_toArray, List.set_cons_zero, List.set_cons_succ]
                    refine q_value ?_ (by rfl) (fun w hw => ?_) ?_
                    rotate_left
                    · go_simp
                      with_reducible rfl
                    simp only [Act.put, List.setIfInBounds_toArray, List.set_cons_zero, List.set_cons_succ]
                    refine q_value ?_ (by rfl) (fun w hw => ?_) ?_
                    rotate_left
                    · have hc := HLk.out w hw
                      go_simp
                      with_reducible rfl
                    simp only [Act.put, List.setIfInBounds_toArray, List.set_cons_zero, List.set_cons_succ]
                    refine q_value ?_ (by rfl) (fun w hw => ?_) ?_
                    rotate_left
                    · go_simp
                      with_reducible rfl
                    simp only [Act.put, List.setIfInBounds_toArray, List.set_cons_zero, List.set_cons_succ]
                    refine q_value ?_ (by rfl) (fun w hw => ?_) ?_
                    rotate_left
                    · go_simp
                      with_reducible rfl
                    simp only [Act.put, List.setIfInBounds_toArray, List.set_cons_zero, List.set_cons_succ]
                    refine q_value ?_ (by rfl) (fun w hw => ?_) ?_
                    rotate_left
                    · go_simp
                      with_reducible rfl
                    simp only [Act.put, List.setIfInBounds_toArray, List.set_cons_zero, List.set_cons_succ]
                    refine q_value ?_ (by rfl) (fun w hw => ?_) ?_
                    rotate_left
                    · have hc := HXi.out w hw
                      go_simp
                      with_reducible rfl
                    simp only [Act.put, List.setIfInBounds_toArray, List.set_cons_zero, List.set_cons_succ]
                    refine q_value (.bool true) (by rfl) (fun w hw => ?_) ?_
                    · go_simp
                    simp only [Act.put, List.setIfInBounds_toArray, List.set_cons_zero, List.set_cons_succ]
                    refine wpQuiet_nil ?_
                    intro wz hw2
                    simp only [Exit.then]
                    have Hwz : Hid (Below w3.heap.size w3 wz) := hw2
                    clear hw2 HBr
                    go_wp2
                    refine wp_region_quiet (C := fun wx => Below w3.heap.size w3 wx) (by kernel_rfl) (by kernel_rfl) (Hwz.out.drew) ?_
                    simp only []
                    refine q_value ?_ (by rfl) (fun w hw => ?_) ?_
                    rotate_left
                    · go_simp
                      with_reducible rfl
                    simp only [Act.put, List.setIfInBounds_toArray, List.set_cons_zero, List.set_cons_succ]
                    refine q_value ?_ (by rfl) (fun w hw => ?_) ?_
                    rotate_left
                    · go_simp
                      with_reducible rfl
                    simp only [Act.put, List.setIfInBounds_toArray, List.set_cons_zero, List.set_cons_succ]
                    refine q_value ?_ (by rfl) (fun w hw => ?_) ?_
                    rotate_left
                    · go_simp
                      with_reducible rfl
                    simp only [Act.put, List.setIfInBounds_toArray, List.set_cons_zero, List.set_cons_succ]
                    refine q_value ?_ (by rfl) (fun w hw => ?_) ?_
                    rotate_left
                    · have hc := HXk.out w hw
                      go_simp
                      with_reducible rfl
                    simp only [Act.put, List.setIfInBounds_toArray, List.set_cons_zero, List.set_cons_succ]
                    refine q_value ?_ (by rfl) (fun w hw => ?_) ?_
                    rotate_left
                    · go_simp
                      with_reducible rfl
                    simp only [Act.put, List.setIfInBounds_toArray, List.set_cons_zero, List.set_cons_succ]
                    refine q_value ?_ (by rfl) (fun w hw => ?_) ?_
                    rotate_left
                    · go_simp
                      with_reducible rfl
                    simp only [Act.put, List.setIfInBounds_toArray, List.set_cons_zero, List.set_cons_succ]
                    refine q_value ?_ (by rfl) (fun w hw => ?_) ?_
                    rotate_left
                    · go_simp
                      with_reducible rfl
                    simp only [Act.put, List.setIfInBounds_toArray, List.set_cons_zero, List.set_cons_succ]
                    refine q_value ?_ (by rfl) (fun w hw => ?_) ?_
                    rotate_left
                    · have hc := HXi.out w hw
                      go_simp
                      with_reducible rfl
                    simp only [Act.put, List.setIfInBounds_toArray, List.set_cons_zero, List.set_cons_succ]
                    refine q_value (.bool false) (by rfl) (fun w hw => ?_) ?_
                    · go_simp
                    simp only [Act.put, List.setIfInBounds_toArray, List.set_cons_zero, List.set_cons_succ]
                    refine wpQuiet_nil ?_
                    intro wy hw2
                    simp only [Exit.then]
                    have Hwy : Hid (Below w3.heap.size w3 wy) := hw2
                    clear hw2 Hwz
                    go_wp2
                    go_roundw
                    case rel => exact ⟨k + 1, by omega, by go_num, by rw [HNx.out], Hwy.out⟩
                    case measure => simp [intOf]; omega
                · rw [if_neg e1] at hm1
                  by_cases e2 : xx = y
                  · rw [if_pos e2] at hm2
                    have HNx : Hid (Value.int .i64 (((L.take (k + 1)).count y : Int) - ((X.take (k + 1)).count y : Int)) = .int .i64 ((p : Int) - (q : Int) - 1)) := by show _ = _; rw [hm1, hm2]; congr 1; omega
                    clear hm1 hm2
                    obtain ⟨n1, n2⟩ := eq_bytes e1
                    rw [e2] at HXk
                    clear e1 e2
                    go_wp2
                    refine wp_region_quiet (C := fun wx => Below w3.heap.size w3 wx) (by kernel_rfl) (by kernel_rfl) (HBr.out.drew) ?_
                    simp only []
                    refine q_value ?_ (by rfl) (fun w hw => ?_) ?_
                    rotate_left
                    · go_simp
                      with_reducible rfl
                    simp only [Act.put, List.setIfInBounds_toArray, List.set_cons_zero, List.set_cons_succ]
                    refine q_value ?_ (by rfl) (fun w hw => ?_) ?_
                    rotate_left
                    · go_simp
                      with_reducible rfl
                    simp only [Act.put, List.setIfInBounds_toArray, List.set_cons_zero, List.set_cons_succ]
                    refine q_value ?_ (by rfl) (fun w hw => ?_) ?_
                    rotate_left
                    · go_simp
                      with_reducible rfl
                    simp only [Act.put, List.setIfInBounds_toArray, List.set_cons_zero, List.set_cons_succ]
                    refine q_value ?_ (by rfl) (fun w hw => ?_) ?_
                    rotate_left
                    · have hc := HLk.out w hw
                      go_simp
                      with_reducible rfl
                    simp only [Act.put, List.setIfInBounds_toArray, List.set_cons_zero, List.set_cons_succ]
                    refine q_value ?_ (by rfl) (fun w hw => ?_) ?_
                    rotate_left
                    · go_simp
                      with_reducible rfl
                    simp only [Act.put, List.setIfInBounds_toArray, List.set_cons_zero, List.set_cons_succ]
                    refine q_value ?_ (by rfl) (fun w hw => ?_) ?_
                    rotate_left
                    · go_simp
                      with_reducible rfl
                    simp only [Act.put, List.setIfInBounds_toArray, List.set_cons_zero, List.set_cons_succ]
                    refine q_value ?_ (by rfl) (fun w hw => ?_) ?_
                    rotate_left
                    · go_simp
                      with_reducible rfl
                    simp only [Act.put, List.setIfInBounds_toArray, List.set_cons_zero, List.set_cons_succ]
                    refine q_value ?_ (by rfl) (fun w hw => ?_) ?_
                    rotate_left
                    · have hc := HXi.out w hw
                      go_simp
                      with_reducible rfl
                    simp only [Act.put, List.setIfInBounds_toArray, List.set_cons_zero, List.set_cons_succ]
                    refine q_value (.bool false) (by rfl) (fun w hw => ?_) ?_
                    · go_simp
                    simp only [Act.put, List.setIfInBounds_toArray, List.set_cons_zero, List.set_cons_succ]
                    refine wpQuiet_nil ?_
                    intro wz hw2
                    simp only [Exit.then]
                    have Hwz : Hid (Below w3.heap.size w3 wz) := hw2
                    clear hw2 HBr
                    go_wp2
                    refine wp_region_quiet (C := fun wx => Below w3.heap.size w3 wx) (by kernel_rfl) (by kernel_rfl) (Hwz.out.drew) ?_
                    simp only []
                    refine q_value ?_ (by rfl) (fun w hw => ?_) ?_
                    rotate_left
                    · go_simp
                      with_reducible rfl
                    simp only [Act.put, List.setIfInBounds_toArray, List.set_cons_zero, List.set_cons_succ]
                    refine q_value ?_ (by rfl) (fun w hw => ?_) ?_
                    rotate_left
                    · go_simp
                      with_reducible rfl
                    simp only [Act.put, List.setIfInBounds_toArray, List.set_cons_zero, List.set_cons_succ]
                    refine q_value ?_ (by rfl) (fun w hw => ?_) ?_
                    rotate_left
                    · go_simp
                      with_reducible rfl
                    simp only [Act.put, List.setIfInBounds_toArray, List.set_cons_zero, List.set_cons_succ]
                    refine q_value ?_ (by rfl) (fun w hw => ?_) ?_
                    rotate_left
                    · have hc := HXk.out w hw
                      go_simp
                      with_reducible rfl
                    simp only [Act.put, List.setIfInBounds_toArray, List.set_cons_zero, List.set_cons_succ]
                    refine q_value ?_ (by rfl) (fun w hw => ?_) ?_
                    rotate_left
                    · go_simp
                      with_reducible rfl
                    simp only [Act.put, List.setIfInBounds_toArray, List.set_cons_zero, List.set_cons_succ]
                    refine q_value ?_ (by rfl) (fun w hw => ?_) ?_
                    rotate_left
                    · go_simp
                      with_reducible rfl
                    simp only [Act.put, List.setIfInBounds_toArray, List.set_cons_zero, List.set_cons_succ]
                    refine q_value ?_ (by rfl) (fun w hw => ?_) ?_
                    rotate_left
                    · go_simp
                      with_reducible rfl
                    simp only [Act.put, List.setIfInBounds_toArray, List.set_cons_zero, List.set_cons_succ]
                    refine q_value ?_ (by rfl) (fun w hw => ?_) ?_
                    rotate_left
                    · have hc := HXi.out w hw
                      go_simp
                      with_reducible rfl
                    simp only [Act.put, List.setIfInBounds_toArray, List.set_cons_zero, List.set_cons_succ]
                    refine q_value (.bool true) (by rfl) (fun w hw => ?_) ?_
                    · go_simp
                    simp only [Act.put, List.setIfInBounds_toArray, List.set_cons_zero, List.set_cons_succ]
                    refine wpQuiet_nil ?_
                    intro wy hw2
                    simp only [Exit.then]
                    have Hwy : Hid (Below w3.heap.size w3 wy) := hw2
                    clear hw2 Hwz
                    go_wp2
                    go_roundw
                    case rel => exact ⟨k + 1, by omega, by go_num, by rw [HNx.out], Hwy.out⟩
                    case measure => simp [intOf]; omega
                  · rw [if_neg e2] at hm2
                    have HNx : Hid (Value.int .i64 (((L.take (k + 1)).count y : Int) - ((X.take (k + 1)).count y : Int)) = .int .i64 ((p : Int) - (q : Int))) := by show _ = _; rw [hm1, hm2]; congr 1
                    clear hm1 hm2
                    obtain ⟨n1, n2⟩ := eq_bytes e1
                    obtain ⟨n3, n4⟩ := eq_bytes e2
                    clear e1 e2
                    go_wp2
                    refine wp_region_quiet (C := fun wx => Below w3.heap.size w3 wx) (by kernel_rfl) (by kernel_rfl) (HBr.out.drew) ?_
                    simp only []
                    refine q_value ?_ (by rfl) (fun w hw => ?_) ?_
                    rotate_left
                    · go_simp
                      with_reducible rfl
                    simp only [Act.put, List.setIfInBounds_toArray, List.set_cons_zero, List.set_cons_succ]
                    refine q_value ?_ (by rfl) (fun w hw => ?_) ?_
                    rotate_left
                    · go_simp
                      with_reducible rfl
                    simp only [Act.put, List.setIfInBounds_toArray, List.set_cons_zero, List.set_cons_succ]
                    refine q_value ?_ (by rfl) (fun w hw => ?_) ?_
                    rotate_left
                    · go_simp
                      with_reducible rfl
                    simp only [Act.put, List.setIfInBounds_toArray, List.set_cons_zero, List.set_cons_succ]
                    refine q_value ?_ (by rfl) (fun w hw => ?_) ?_
                    rotate_left
                    · have hc := HLk.out w hw
                      go_simp
                      with_reducible rfl
                    simp only [Act.put, List.setIfInBounds_toArray, List.set_cons_zero, List.set_cons_succ]
                    refine q_value ?_ (by rfl) (fun w hw => ?_) ?_
                    rotate_left
                    · go_simp
                      with_reducible rfl
                    simp only [Act.put, List.setIfInBounds_toArray, List.set_cons_zero, List.set_cons_succ]
                    refine q_value ?_ (by rfl) (fun w hw => ?_) ?_
                    rotate_left
                    · go_simp
                      with_reducible rfl
                    simp only [Act.put, List.setIfInBounds_toArray, List.set_cons_zero, List.set_cons_succ]
                    refine q_value ?_ (by rfl) (fun w hw => ?_) ?_
                    rotate_left
                    · go_simp
                      with_reducible rfl
                    simp only [Act.put, List.setIfInBounds_toArray, List.set_cons_zero, List.set_cons_succ]
                    refine q_value ?_ (by rfl) (fun w hw => ?_) ?_
                    rotate_left
                    · have hc := HXi.out w hw
                      go_simp
                      with_reducible rfl
                    simp only [Act.put, List.setIfInBounds_toArray, List.set_cons_zero, List.set_cons_succ]
                    refine q_value (.bool false) (by rfl) (fun w hw => ?_) ?_
                    · go_simp
                    simp only [Act.put, List.setIfInBounds_toArray, List.set_cons_zero, List.set_cons_succ]
                    refine wpQuiet_nil ?_
                    intro wz hw2
                    simp only [Exit.then]
                    have Hwz : Hid (Below w3.heap.size w3 wz) := hw2
                    clear hw2 HBr
                    go_wp2
                    refine wp_region_quiet (C := fun wx => Below w3.heap.size w3 wx) (by kernel_rfl) (by kernel_rfl) (Hwz.out.drew) ?_
                    simp only []
                    refine q_value ?_ (by rfl) (fun w hw => ?_) ?_
                    rotate_left
                    · go_simp
                      with_reducible rfl
                    simp only [Act.put, List.setIfInBounds_toArray, List.set_cons_zero, List.set_cons_succ]
                    refine q_value ?_ (by rfl) (fun w hw => ?_) ?_
                    rotate_left
                    · go_simp
                      with_reducible rfl
                    simp only [Act.put, List.setIfInBounds_toArray, List.set_cons_zero, List.set_cons_succ]
                    refine q_value ?_ (by rfl) (fun w hw => ?_) ?_
                    rotate_left
                    · go_simp
                      with_reducible rfl
                    simp only [Act.put, List.setIfInBounds_toArray, List.set_cons_zero, List.set_cons_succ]
                    refine q_value ?_ (by rfl) (fun w hw => ?_) ?_
                    rotate_left
                    · have hc := HXk.out w hw
                      go_simp
                      with_reducible rfl
                    simp only [Act.put, List.setIfInBounds_toArray, List.set_cons_zero, List.set_cons_succ]
                    refine q_value ?_ (by rfl) (fun w hw => ?_) ?_
                    rotate_left
                    · go_simp
                      with_reducible rfl
                    simp only [Act.put, List.setIfInBounds_toArray, List.set_cons_zero, List.set_cons_succ]
                    refine q_value ?_ (by rfl) (fun w hw => ?_) ?_
                    rotate_left
                    · go_simp
                      with_reducible rfl
                    simp only [Act.put, List.setIfInBounds_toArray, List.set_cons_zero, List.set_cons_succ]
                    refine q_value ?_ (by rfl) (fun w hw => ?_) ?_
                    rotate_left
                    · go_simp
                      with_reducible rfl
                    simp only [Act.put, List.setIfInBounds_toArray, List.set_cons_zero, List.set_cons_succ]
                    refine q_value ?_ (by rfl) (fun w hw => ?_) ?_
                    rotate_left
                    · have hc := HXi.out w hw
                      go_simp
                      with_reducible rfl
                    simp only [Act.put, List.setIfInBounds_toArray, List.set_cons_zero, List.set_cons_succ]
                    refine q_value (.bool false) (by rfl) (fun w hw => ?_) ?_
                    · go_simp
                    simp only [Act.put, List.setIfInBounds_toArray, List.set_cons_zero, List.set_cons_succ]
                    refine wpQuiet_nil ?_
                    intro wy hw2
                    simp only [Exit.then]
                    have Hwy : Hid (Below w3.heap.size w3 wy) := hw2
                    clear hw2 Hwz
                    go_wp2
                    go_roundw
                    case rel => exact ⟨k + 1, by omega, by go_num, by rw [HNx.out], Hwy.out⟩
                    case measure => simp [intOf]; omega
              · have hkn' : ¬ (k : Int) < (n : Int) := by omega
                have hz : (((L.take k).count y : Int) - ((X.take k).count y : Int)) = 0 := by
                  rw [List.take_of_length_le (by have := HN.out; omega : L.length ≤ k), List.take_of_length_le (by have := HXL.out; omega : X.length ≤ k), HPM.out.count_eq y]
                  omega
                rw [hz]
                clear hz hp1 hp2 hBr
                go_wp2
                go_roundw
                case rel => exact ⟨i + 1, by omega, by go_num, by rw [HD2.out], HBr.out⟩
                case measure => simp [intOf]; omega
        · have hnone : parseV (vb y) = none := by rw [hpv]; exact List.getElem?_eq_none (by have := HM.out; omega)
          rw [parseE_no hnone] at hpi
          clear hpv hnone
          by_cases hie : i = m
          · by_cases hi0 : 0 < i
            · have hd : decide (m < i) = false := decide_eq_false (by omega)
              rw [hd]
              have HD2 : Hid (decide (m < i + 1) = true) := decide_eq_true (by omega)
              have hi0' : (0 : Int) < (i : Int) := by omega
              clear hd hie
              go_wp2_with fail
              refine hpi.mono ?_
              rintro e wA ⟨rfl, hbA⟩
              have HBB : Hid (Below w3.heap.size w3 (wA.alloc (.cells zeroC 24))) := HBq.out.trans ((hbA.alloc hbA.size _).mono HBq.out.size)
              clear hpi hbA xi0
              go_wp2_with (refine wpList_store_new rfl 24 _ _ rfl wA zeroC zeroC 24 rfl wA.heap.size rfl rfl rfl infoVs rfl zeroC_one ?_)
              obtain ⟨wB, hwB⟩ : ∃ x, x = wA.alloc (.cells zeroC 24) := ⟨_, rfl⟩
              rw [← hwB] at HBB
              rw [← hwB]
              clear hwB
              obtain ⟨wO, hwO⟩ : ∃ x, x = wB := ⟨_, rfl⟩
              go_loopw [10, 11] (fun s10 s11 wz => ∃ k : Nat, k ≤ n ∧ s11 = .int .i64 k ∧ s10 = .int .i64 (((L.take k).count y : Int) - ((X.take k).count y : Int)) ∧ Below w3.heap.size w3 wz) (fun _ s11 _ => n - (intOf s11).toNat)
              case atStart => exact ⟨0, Nat.zero_le _, rfl, by simp, HBB.out⟩
              case round =>
                obtain ⟨k, hk, rfl, rfl, hBr⟩ := hrel
                have HBr : Hid (Below w3.heap.size w3 wr) := hBr
                have hp1 := cnt_le L y k
                have hp2 := cnt_le X y k
                by_cases hkn : k < n
                · have hkL : k < L.length := by have := HN.out; omega
                  have hkX : k < X.length := by have := HXL.out; omega
                  have hkn' : (k : Int) < (n : Int) := by omega
                  have hm1 := cnt_more L y k hkL
                  have hm2 := cnt_more X y k hkX
                  have lk := HLX.out wr hBr k hkL
                  have xk := HXC.out wr hBr k hkX
                  have xi := HXC.out wr hBr i hiX
                  rw [HYI.out] at xi
                  obtain ⟨lx, hlx⟩ : ∃ x, x = L[k] := ⟨_, rfl⟩
                  obtain ⟨xx, hxx⟩ : ∃ x, x = X[k] := ⟨_, rfl⟩
                  rw [← hlx] at lk hm1
                  rw [← hxx] at xk hm2
                  obtain ⟨p, hp⟩ : ∃ p, p = (L.take k).count y := ⟨_, rfl⟩
                  obtain ⟨q, hq⟩ : ∃ q, q = (X.take k).count y := ⟨_, rfl⟩
                  rw [← hp] at hm1 hp1
                  rw [← hq] at hm2 hp2
                  rw [← hp, ← hq]
                  have HLk : Hid (∀ wx, Below w3.heap.size w3 wx → wx.cell? ⟨b, off + k, none⟩ = some (.string lx)) := fun wx hx => by rw [hlx]; exact HLX.out wx hx k hkL
                  have HXk : Hid (∀ wx, Below w3.heap.size w3 wx → wx.cell? ⟨xg, xoff + k, none⟩ = some (.string xx)) := fun wx hx => by rw [hxx]; exact HXC.out wx hx k hkX
                  have HXi : Hid (∀ wx, Below w3.heap.size w3 wx → wx.cell? ⟨xg, xoff + i, none⟩ = some (.string y)) := fun wx hx => by rw [← HYI.out]; exact HXC.out wx hx i hiX
                  clear hlx hxx hp hq hBr lk xk xi
                  have hwa : IntKind.i64.wrap ((p : Int) - (q : Int) + 1) = (p : Int) - (q : Int) + 1 := by rw [IntKind.wrap_i64]; omega
                  have hwb : IntKind.i64.wrap ((p : Int) - (q : Int) + 1 - 1) = (p : Int) - (q : Int) + 1 - 1 := by rw [IntKind.wrap_i64]; omega
                  have hwc : IntKind.i64.wrap ((p : Int) - (q : Int) - 1) = (p : Int) - (q : Int) - 1 := by rw [IntKind.wrap_i64]; omega
                  by_cases e1 : lx = y
                  · rw [if_pos e1] at hm1
                    by_cases e2 : xx = y
                    · rw [if_pos e2] at hm2
                      have HNx : Hid (Value.int .i64 (((L.take (k + 1)).count y : Int) - ((X.take (k + 1)).count y : Int)) = .int .i64 ((p : Int) - (q : Int))) := by show _ = _; rw [hm1, hm2]; congr 1; omega
                      clear hm1 hm2
                      rw [e1] at HLk
                      rw [e2] at HXk
                      clear e1 e2
                      go_wp2
                      refine wp_region_quiet (C := fun wx => Below w3.heap.size w3 wx) (by kernel_rfl) (by kernel_rfl) (HBr.out.drew) ?_
                      simp only []
                      refine q_value ?_ (by rfl) (fun w hw => ?_) ?_
                      rotate_left
                      · go_simp
                        with_reducible rfl
                      simp only [Act.put, List.setIfInBounds_toArray, List.set_cons_zero, List.set_cons_succ]
                      refine q_value ?_ (by rfl) (fun w hw => ?_) ?_
                      rotate_left
                      · go_simp
                        with_reducible rfl
                      simp only [Act.put, List.setIfInBounds_toArray, List.set_cons_zero, List.set_cons_succ]
                      refine q_value ?_ (by rfl) (fun w hw => ?_) ?_
                      rotate_left
                      · go_simp
                        with_reducible rfl
                      simp only [Act.put, List.setIfInBounds_toArray, List.set_cons_zero, List.set_cons_succ]
                      refine q_value ?_ (by rfl) (fun w hw => ?_) ?_
                      rotate_left
                      · have hc := HLk.out w hw
                        go_simp
                        with_reducible rfl
                      simp only [Act.put, List.setIfInBounds_toArray, List.set_cons_zero, List.set_cons_succ]
                      refine q_value ?_ (by rfl) (fun w hw => ?_) ?_
                      rotate_left
                      · go_simp
                        with_reducible rfl
                      simp only [Act.put, List.setIfInBounds_toArray, List.set_cons_zero, List.set_cons_succ]
                      refine q_value ?_ (by rfl) (fun w hw => ?_) ?_
                      rotate_left
                      · go_simp
                        with_reducible rfl
                      simp only [Act.put, List.setIfInBounds_toArray, List.set_cons_zero, List.set_cons_succ]
                      refine q_value ?_ (by rfl) (fun w hw => ?_) ?_
                      rotate_left
                      · go_simp
                        with_reducible rfl
                      simp only [Act.put, List.setIfInBounds_toArray, List.set_cons_zero, List.set_cons_succ]
                      refine q_value ?_ (by rfl) (fun w hw => ?_) ?_
                      rotate_left
                      · have hc := HXi.out w hw
                        go_simp
                        with_reducible rfl
                      simp only [Act.put, List.setIfInBounds_toArray, List.set_cons_zero, List.set_cons_succ]
                      refine q_value (.bool true) (by rfl) (fun w hw => ?_) ?_
                      · go_simp
                      simp only [Act.put, List.setIfInBounds_toArray, List.set_cons_zero, List.set_cons_succ]
                      refine wpQuiet_nil ?_
                      intro wz hw2
                      simp only [Exit.then]
                      have Hwz : Hid (Below w3.heap.size w3 wz) := hw2
                      clear hw2 HBr
                      go_wp2
                      refine wp_region_quiet (C := fun wx => Below w3.heap.size w3 wx) (by kernel_rfl) (by kernel_rfl) (Hwz.out.drew) ?_
                      simp only []
                      refine q_value ?_ (by rfl) (fun w hw => ?_) ?_
                      rotate_left
                      · go_simp
                        with_reducible rfl
                      simp only [Act.put, List.setIfInBounds_toArray, List.set_cons_zero, List.set_cons_succ]
                      refine q_value ?_ (by rfl) (fun w hw => ?_) ?_
                      rotate_left
                      · go_simp
                        with_reducible rfl
                      simp only [Act.put, List.setIfInBounds_toArray, List.set_cons_zero, List.set_cons_succ]
                      refine q_value ?_ (by rfl) (fun w hw => ?_) ?_
                      rotate_left
                      · go_simp
                        with_reducible rfl
                      simp only [Act.put, List.setIfInBounds_toArray, List.set_cons_zero, List.set_cons_succ]
                      refine q_value ?_ (by rfl) (fun w hw => ?_) ?_
                      rotate_left
                      · have hc := HXk.out w hw
                        go_simp
                        with_reducible rfl
                      simp only [Act.put, List.setIfInBounds_toArray, List.set_cons_zero, List.set_cons_succ]
                      refine q_value ?_ (by rfl) (fun w hw => ?_) ?_
                      rotate_left
                      · go_simp
                        with_reducible rfl
                      simp only [Act.put, List.setIfInBounds_toArray, List.set_cons_zero, List.set_cons_succ]
                      refine q_value ?_ (by rfl) (fun w hw => ?_) ?_
                      rotate_left
                      · go_simp
                        with_reducible rfl
                      simp only [Act.put, List.setIfInBounds_toArray, List.set_cons_zero, List.set_cons_succ]
                      refine q_value ?_ (by rfl) (fun w hw => ?_) ?_
                      rotate_left
                      · go_simp
                        with_reducible rfl
                      simp only [Act.put, List.setIfInBounds_toArray, List.set_cons_zero, List.set_cons_succ]
                      refine q_value ?_ (by rfl) (fun w hw => ?_) ?_
                      rotate_left
                      · have hc := HXi.out w hw
                        go_simp
                        with_reducible rfl
                      simp only [Act.put, List.setIfInBounds_toArray, List.set_cons_zero, List.set_cons_succ]
                      refine q_value (.bool true) (by rfl) (fun w hw => ?_) ?_
                      · go_simp
                      simp only [Act.put, List.setIfInBounds_toArray, List.set_cons_zero, List.set_cons_succ]
                      refine wpQuiet_nil ?_
                      intro wy hw2
                      simp only [Exit.then]
                      have Hwy : Hid (Below w3.heap.size w3 wy) := hw2
                      clear hw2 Hwz
                      go_wp2
                      go_roundw
                      case rel => exact ⟨k + 1, by omega, by go_num, by rw [HNx.out], Hwy.out⟩
                      case measure => simp [intOf]; omega
                    · rw [if_neg e2] at hm2
                      have HNx : Hid (Value.int .i64 (((L.take (k + 1)).count y : Int) - ((X.take (k + 1)).count y : Int)) = .int .i64 ((p : Int) - (q : Int) + 1)) := by show _ = _; rw [hm1, hm2]; congr 1; omega
                      clear hm1 hm2
                      rw [e1] at HLk
                      obtain ⟨n3, n4⟩ := eq_bytes e2
                      clear e1 e2
                      go_wp2
                      refine wp_region_quiet (C := fun wx => Below w3.heap.size w3 wx) (by kernel_rfl) (by kernel_rfl) (HBr.out.drew) ?_
                      simp only []
                      refine q_value ?_ (by rfl) (fun w hw => ?_) ?_
                      rotate_left
                      · go_simp
                        with_reducible rfl
                      simp only [Act.put, List.setIfInBounds_toArray, List.set_cons_zero, List.set_cons_succ]
                      refine q_value ?_ (by rfl) (fun w hw => ?_) ?_
                      rotate_left
                      · go_simp
                        with_reducible rfl
                      simp only [Act.put, List.setIfInBounds_toArray, List.set_cons_zero, List.set_cons_succ]
                      refine q_value ?_ (by rfl) (fun w hw => ?_) ?_
                      rotate_left
                      · go_simp
                        with_reducible rfl
                      simp only [Act.put, List.setIfInBounds_toArray, List.set_cons_zero, List.set_cons_succ]
                      refine q_value ?_ (by rfl) (fun w hw => ?_) ?_
                      rotate_left
                      · have hc := HLk.out w hw
                        go_simp
                        with_reducible rfl
                      simp only [Act.put, List.setIfInBounds_toArray, List.set_cons_zero, List.set_cons_succ]
                      refine q_value ?_ (by rfl) (fun w hw => ?_) ?_
                      rotate_left
                      · go_simp
                        with_reducible rfl
                      simp only [Act.put, List.setIfInBounds_toArray, List.set_cons_zero, List.set_cons_succ]
                      refine q_value ?_ (by rfl) (fun w hw => ?_) ?_
                      rotate_left
                      · go_simp
                        with_reducible rfl
                      simp only [Act.put, List.setIfInBounds_toArray, List.set_cons_zero, List.set_cons_succ]
                      refine q_value ?_ (by rfl) (fun w hw => ?_) ?_
                      rotate_left
                      · go_simp
                        with_reducible rfl
                      simp only [Act.put, List.setIfInBounds_toArray, List.set_cons_zero, List.set_cons_succ]
                      refine q_value ?_ (by rfl) (fun w hw => ?_) ?_
                      rotate_left
                      · have hc := HXi.out w hw
                        go_simp
                        with_reducible rfl
                      simp only [Act.put, List.setIfInBounds_toArray, List.set_cons_zero, List.set_cons_succ]
                      refine q_value (.bool true) (by rfl) (fun w hw => ?_) ?_
                      · go_simp
                      simp only [Act.put, List.setIfInBounds_toArray, List.set_cons_zero, List.set_cons_succ]
                      refine wpQuiet_nil ?_
                      intro wz hw2
                      simp only [Exit.then]
                      have Hwz : Hid (Below w3.heap.size w3 wz) := hw2
                      clear hw2 HBr
                      go_wp2
                      refine wp_region_quiet (C := fun wx => Below w3.heap.size w3 wx) (by kernel_rfl) (by kernel_rfl) (Hwz.out.drew) ?_
                      simp only []
                      refine q_value ?_ (by rfl) (fun w hw => ?_) ?_
                      rotate_left
                      · go_simp
                        with_reducible rfl
                      simp only [Act.put, List.setIfInBounds_toArray, List.set_cons_zero, List.set_cons_succ]
                      refine q_value ?_ (by rfl) (fun w hw => ?_) ?_
                      rotate_left
                      · go_simp
                        with_reducible rfl
                      simp only [Act.put, List.setIfInBounds_toArray, List.set_cons_zero, List.set_cons_succ]
                      refine q_value ?_ (by rfl) (fun w hw => ?_) ?_
                      rotate_left
                      · go_simp
                        with_reducible rfl
                      simp only [Act.put, List.setIfInBounds_toArray, List.set_cons_zero, List.set_cons_succ]
                      refine q_value ?_ (by rfl) (fun w hw => ?_) ?_
                      rotate_left
                      · have hc := HXk.out w hw
                        go_simp
                        with_reducible rfl
                      simp only [Act.put, List.setIfInBounds_toArray, List.set_cons_zero, List.set_cons_succ]
                      refine q_value ?_ (by rfl) (fun w hw => ?_) ?_
                      rotate_left
                      · go_simp
                        with_reducible rfl
                      simp only [Act.put, List.setIfInBounds_toArray, List.set_cons_zero, List.set_cons_succ]
                      refine q_value ?_ (by rfl) (fun w hw => ?_) ?_
                      rotate_left
                      · go_simp
                        with_reducible rfl
                      simp only [Act.put, List.setIfInBounds_toArray, List.set_cons_zero, List.set_cons_succ]
                      refine q_value ?_ (by rfl) (fun w hw => ?_) ?_
                      rotate_left
                      · go_simp
                        with_reducible rfl
                      simp only [Act.put, List.setIfInBounds_toArray, List.set_cons_zero, List.set_cons_succ]
                      refine q_value ?_ (by rfl) (fun w hw => ?_) ?_
                      rotate_left
                      · have hc := HXi.out w hw
                        go_simp
                        with_reducible rfl
                      simp only [Act.put, List.setIfInBounds_toArray, List.set_cons_zero, List.set_cons_succ]
                      refine q_value (.bool false) (by rfl) (fun w hw => ?_) ?_
                      · go_simp
                      simp only [Act.put, List.setIfInBounds_toArray, List.set_cons_zero, List.set_cons_succ]
                      refine wpQuiet_nil ?_
                      intro wy hw2
                      simp only [Exit.then]
                      have Hwy : Hid (Below w3.heap.size w3 wy) := hw2
                      clear hw2 Hwz
                      go_wp2
                      go_roundw
                      case rel => exact ⟨k + 1, by omega, by go_num, by rw [HNx.out], Hwy.out⟩
                      case measure => simp [intOf]; omega
                  · rw [if_neg e1] at hm1
                    by_cases e2 : xx = y
                    · rw [if_pos e2] at hm2
                      have HNx : Hid (Value.int .i64 (((L.take (k + 1)).count y : Int) - ((X.take (k + 1)).count y : Int)) = .int .i64 ((p : Int) - (q : Int) - 1)) := by show _ = _; rw [hm1, hm2]; congr 1; omega
                      clear hm1 hm2
                      obtain ⟨n1, n2⟩ := eq_bytes e1
                      rw [e2] at HXk
                      clear e1 e2
                      go_wp2
                      refine wp_region_quiet (C := fun wx => Below w3.heap.size w3 wx) (by kernel_rfl) (by kernel_rfl) (HBr.out.drew) ?_
                      simp only []
                      refine q_value ?_ (by rfl) (fun w hw => ?_) ?_
                      rotate_left
                      · go_simp
                        with_reducible rfl
                      simp only [Act.put, List.setIfInBounds_toArray, List.set_cons_zero, List.set_cons_succ]
                      refine q_value ?_ (by rfl) (fun w hw => ?_) ?_
                      rotate_left
                      · go_simp
                        with_reducible rfl
                      simp only [Act.put, List.setIfInBounds_toArray, List.set_cons_zero, List.set_cons_succ]
                      refine q_value ?_ (by rfl) (fun w hw => ?_) ?_
                      rotate_left
                      · go_simp
                        with_reducible rfl
                      simp only [Act.put, List.setIfInBounds_toArray, List.set_cons_zero, List.set_cons_succ]
                      refine q_value ?_ (by rfl) (fun w hw => ?_) ?_
                      rotate_left
                      · have hc := HLk.out w hw
                        go_simp
                        with_reducible rfl
                      simp only [Act.put, List.setIfInBounds_toArray, List.set_cons_zero, List.set_cons_succ]
                      refine q_value ?_ (by rfl) (fun w hw => ?_) ?_
                      rotate_left
                      · go_simp
                        with_reducible rfl
                      simp only [Act.put, List.setIfInBounds_toArray, List.set_cons_zero, List.set_cons_succ]
                      refine q_value ?_ (by rfl) (fun w hw => ?_) ?_
                      rotate_left
                      · go_simp
                        with_reducible rfl
                      simp only [Act.put, List.setIfInBounds_toArray, List.set_cons_zero, List.set_cons_succ]
                      refine q_value ?_ (by rfl) (fun w hw => ?_) ?_
                      rotate_left
                      · go_simp
                        with_reducible rfl
                      simp only [Act.put, List.setIfInBounds_toArray, List.set_cons_zero, List.set_cons_succ]
                      refine q_value ?_ (by rfl) (fun w hw => ?_) ?_
                      rotate_left
                      · have hc := HXi.out w hw
                        go_simp
                        with_reducible rfl
                      simp only [Act.put, List.setIfInBounds_toArray, List.set_cons_zero, List.set_cons_succ]
                      refine q_value (.bool false) (by rfl) (fun w hw => ?_) ?_
                      · go_simp
                      simp only [Act.put, List.setIfInBounds_toArray, List.set_cons_zero, List.set_cons_succ]
                      refine wpQuiet_nil ?_
                      intro wz hw2
                      simp only [Exit.then]
                      have Hwz : Hid (Below w3.heap.size w3 wz) := hw2
                      clear hw2 HBr
                      go_wp2
                      refine wp_region_quiet (C := fun wx => Below w3.heap.size w3 wx) (by kernel_rfl) (by kernel_rfl) (Hwz.out.drew) ?_
                      simp only []
                      refine q_value ?_ (by rfl) (fun w hw => ?_) ?_
                      rotate_left
                      · go_simp
                        with_reducible rfl
                      simp only [Act.put, List.setIfInBounds_toArray, List.set_cons_zero, List.set_cons_succ]
                      refine q_value ?_ (by rfl) (fun w hw => ?_) ?_
                      rotate_left
                      · go_simp
                        with_reducible rfl
                      simp only [Act.put, List.setIfInBounds_toArray, List.set_cons_zero, List.set_cons_succ]
                      refine q_value ?_ (by rfl) (fun w hw => ?_) ?_
                      rotate_left
                      · go_simp
                        with_reducible rfl
                      simp only [Act.put, List.setIfInBounds_toArray, List.set_cons_zero, List.set_cons_succ]
                      refine q_value ?_ (by rfl) (fun w hw => ?_) ?_
                      rotate_left
                      · have hc := HXk.out w hw
                        go_simp
                        with_reducible rfl
                      simp only [Act.put, List.setIfInBounds_toArray, List.set_cons_zero, List.set_cons_succ]
                      refine q_value ?_ (by rfl) (fun w hw => ?_) ?_
                      rotate_left
                      · go_simp
                        with_reducible rfl
                      simp only [Act.put, List.setIfInBounds_toArray, List.set_cons_zero, List.set_cons_succ]
                      refine q_value ?_ (by rfl) (fun w hw => ?_) ?_
                      rotate_left
                      · go_simp
                        with_reducible rfl
                      simp only [Act.put, List.setIfInBounds_toArray, List.set_cons_zero, List.set_cons_succ]
                      refine q_value ?_ (by rfl) (fun w hw => ?_) ?_
                      rotate_left
                      · go_simp
                        with_reducible rfl
                      simp only [Act.put, List.setIfInBounds_toArray, List.set_cons_zero, List.set_cons_succ]
                      refine q_value ?_ (by rfl) (fun w hw => ?_) ?_
                      rotate_left
                      · have hc := HXi.out w hw
                        go_simp
                        with_reducible rfl
                      simp only [Act.put, List.setIfInBounds_toArray, List.set_cons_zero, List.set_cons_succ]
                      refine q_value (.bool true) (by rfl) (fun w hw => ?_) ?_
                      · go_simp
                      simp only [Act.put, List.setIfInBounds_toArray, List.set_cons_zero, List.set_cons_succ]
                      refine wpQuiet_nil ?_
                      intro wy hw2
                      simp only [Exit.then]
                      have Hwy : Hid (Below w3.heap.size w3 wy) := hw2
                      clear hw2 Hwz
                      go_wp2
                      go_roundw
                      case rel => exact ⟨k + 1, by omega, by go_num, by rw [HNx.out], Hwy.out⟩
                      case measure => simp [intOf]; omega
                    · rw [if_neg e2] at hm2
                      have HNx : Hid (Value.int .i64 (((L.take (k + 1)).count y : Int) - ((X.take (k + 1)).count y : Int)) = .int .i64 ((p : Int) - (q : Int))) := by show _ = _; rw [hm1, hm2]; congr 1
                      clear hm1 hm2
                      obtain ⟨n1, n2⟩ := eq_bytes e1
                      obtain ⟨n3, n4⟩ := eq_bytes e2
                      clear e1 e2
                      go_wp2
                      refine wp_region_quiet (C := fun wx => Below w3.heap.size w3 wx) (by kernel_rfl) (by kernel_rfl) (HBr.out.drew) ?_
                      simp only []
                      refine q_value ?_ (by rfl) (fun w hw => ?_) ?_
                      rotate_left
                      · go_simp
                        with_reducible rfl
                      simp only [Act.put, List.setIfInBounds_toArray, List.set_cons_zero, List.set_cons_succ]
                      refine q_value ?_ (by rfl) (fun w hw => ?_) ?_
                      rotate_left
                      · go_simp
                        with_reducible rfl
                      simp only [Act.put, List.setIfInBounds_toArray, List.set_cons_zero, List.set_cons_succ]
                      refine q_value ?_ (by rfl) (fun w hw => ?_) ?_
                      rotate_left
                      · go_simp
                        with_reducible rfl
                      simp only [Act.put, List.setIfInBounds_toArray, List.set_cons_zero, List.set_cons_succ]
                      refine q_value ?_ (by rfl) (fun w hw => ?_) ?_
                      rotate_left
                      · have hc := HLk.out w hw
                        go_simp
                        with_reducible rfl
                      simp only [Act.put, List.setIfInBounds_toArray, List.set_cons_zero, List.set_cons_succ]
                      refine q_value ?_ (by rfl) (fun w hw => ?_) ?_
                      rotate_left
                      · go_simp
                        with_reducible rfl
                      simp only [Act.put, List.setIfInBounds_toArray, List.set_cons_zero, List.set_cons_succ]
                      refine q_value ?_ (by rfl) (fun w hw => ?_) ?_
                      rotate_left
                      · go_simp
                        with_reducible rfl
                      simp only [Act.put, List.setIfInBounds_toArray, List.set_cons_zero, List.set_cons_succ]
                      refine q_value ?_ (by rfl) (fun w hw => ?_) ?_
                      rotate_left
                      · go_simp
                        with_reducible rfl
                      simp only [Act.put, List.setIfInBounds_toArray, List.set_cons_zero, List.set_cons_succ]
                      refine q_value ?_ (by rfl) (fun w hw => ?_) ?_
                      rotate_left
                      · have hc := HXi.out w hw
                        go_simp
                        with_reducible rfl
                      simp only [Act.put, List.setIfInBounds_toArray, List.set_cons_zero, List.set_cons_succ]
                      refine q_value (.bool false) (by rfl) (fun w hw => ?_) ?_
                      · go_simp
                      simp only [Act.put, List.setIfInBounds_toArray, List.set_cons_zero, List.set_cons_succ]
                      refine wpQuiet_nil ?_
                      intro wz hw2
                      simp only [Exit.then]
                      have Hwz : Hid (Below w3.heap.size w3 wz) := hw2
                      clear hw2 HBr
                      go_wp2
                      refine wp_region_quiet (C := fun wx => Below w3.heap.size w3 wx) (by kernel_rfl) (by kernel_rfl) (Hwz.out.drew) ?_
                      simp only []
                      refine q_value ?_ (by rfl) (fun w hw => ?_) ?_
                      rotate_left
                      · go_simp
                        with_reducible rfl
                      simp only [Act.put, List.setIfInBounds_toArray, List.set_cons_zero, List.set_cons_succ]
                      refine q_value ?_ (by rfl) (fun w hw => ?_) ?_
                      rotate_left
                      · go_simp
                        with_reducible rfl
                      simp only [Act.put, List.setIfInBounds_toArray, List.set_cons_zero, List.set_cons_succ]
                      refine q_value ?_ (by rfl) (fun w hw => ?_) ?_
                      rotate_left
                      · go_simp
                        with_reducible rfl
                      simp only [Act.put, List.setIfInBounds_toArray, List.set_cons_zero, List.set_cons_succ]
                      refine q_value ?_ (by rfl) (fun w hw => ?_) ?_
                      rotate_left
                      · have hc := HXk.out w hw
                        go_simp
                        with_reducible rfl
                      simp only [Act.put, List.setIfInBounds_toArray, List.set_cons_zero, List.set_cons_succ]
                      refine q_value ?_ (by rfl) (fun w hw => ?_) ?_
                      rotate_left
                      · go_simp
                        with_reducible rfl
                      simp only [Act.put, List.setIfInBounds_toArray, List.set_cons_zero, List.set_cons_succ]
                      refine q_value ?_ (by rfl) (fun w hw => ?_) ?_
                      rotate_left
                      · go_simp
                        with_reducible rfl
                      simp only [Act.put, List.setIfInBounds_toArray, List.set_cons_zero, List.set_cons_succ]
                      refine q_value ?_ (by rfl) (fun w hw => ?_) ?_
                      rotate_left
                      · go_simp
                        with_reducible rfl
                      simp only [Act.put, List.setIfInBounds_toArray, List.set_cons_zero, List.set_cons_succ]
                      refine q_value ?_ (by rfl) (fun w hw => ?_) ?_
                      rotate_left
                      · have hc := HXi.out w hw
                        go_simp
                        with_reducible rfl
                      simp only [Act.put, List.setIfInBounds_toArray, List.set_cons_zero, List.set_cons_succ]
                      refine q_value (.bool false) (by rfl) (fun w hw => ?_) ?_
                      · go_simp
                      simp only [Act.put, List.setIfInBounds_toArray, List.set_cons_zero, List.set_cons_succ]
                      refine wpQuiet_nil ?_
                      intro wy hw2
                      simp only [Exit.then]
                      have Hwy : Hid (Below w3.heap.size w3 wy) := hw2
                      clear hw2 Hwz
                      go_wp2
                      go_roundw
                      case rel => exact ⟨k + 1, by omega, by go_num, by rw [HNx.out], Hwy.out⟩
                      case measure => simp [intOf]; omega
                · have hkn' : ¬ (k : Int) < (n : Int) := by omega
                  have hz : (((L.take k).count y : Int) - ((X.take k).count y : Int)) = 0 := by
                    rw [List.take_of_length_le (by have := HN.out; omega : L.length ≤ k), List.take_of_length_le (by have := HXL.out; omega : X.length ≤ k), HPM.out.count_eq y]
                    omega
                  rw [hz]
                  clear hz hp1 hp2 hBr
                  go_wp2
                  go_roundw
                  case rel => exact ⟨i + 1, by omega, by go_num, by rw [HD2.out], HBr.out⟩
                  case measure => simp [intOf]; omega
            · have hd : decide (m < i) = false := decide_eq_false (by omega)
              rw [hd]
              have HD2 : Hid (decide (m < i + 1) = true) := decide_eq_true (by omega)
              have hi0' : ¬ (0 : Int) < (i : Int) := by omega
              clear hd hie
              go_wp2_with fail
              refine hpi.mono ?_
              rintro e wA ⟨rfl, hbA⟩
              have HBB : Hid (Below w3.heap.size w3 (wA.alloc (.cells zeroC 24))) := HBq.out.trans ((hbA.alloc hbA.size _).mono HBq.out.size)
              clear hpi hbA xi0
              go_wp2_with (refine wpList_store_new rfl 24 _ _ rfl wA zeroC zeroC 24 rfl wA.heap.size rfl rfl rfl infoVs rfl zeroC_one ?_)
              obtain ⟨wB, hwB⟩ : ∃ x, x = wA.alloc (.cells zeroC 24) := ⟨_, rfl⟩
              rw [← hwB] at HBB
              rw [← hwB]
              clear hwB
              obtain ⟨wO, hwO⟩ : ∃ x, x = wB := ⟨_, rfl⟩
              go_loopw [10, 11] (fun s10 s11 wz => ∃ k : Nat, k ≤ n ∧ s11 = .int .i64 k ∧ s10 = .int .i64 (((L.take k).count y : Int) - ((X.take k).count y : Int)) ∧ Below w3.heap.size w3 wz) (fun _ s11 _ => n - (intOf s11).toNat)
              case atStart => exact ⟨0, Nat.zero_le _, rfl, by simp, HBB.out⟩
              case round =>
                obtain ⟨k, hk, rfl, rfl, hBr⟩ := hrel
                have HBr : Hid (Below w3.heap.size w3 wr) := hBr
                have hp1 := cnt_le L y k
                have hp2 := cnt_le X y k
                by_cases hkn : k < n
                · have hkL : k < L.length := by have := HN.out; omega
                  have hkX : k < X.length := by have := HXL.out; omega
                  have hkn' : (k : Int) < (n : Int) := by omega
                  have hm1 := cnt_more L y k hkL
                  have hm2 := cnt_more X y k hkX
                  have lk := HLX.out wr hBr k hkL
                  have xk := HXC.out wr hBr k hkX
                  have xi := HXC.out wr hBr i hiX
                  rw [HYI.out] at xi
                  obtain ⟨lx, hlx⟩ : ∃ x, x = L[k] := ⟨_, rfl⟩
                  obtain ⟨xx, hxx⟩ : ∃ x, x = X[k] := ⟨_, rfl⟩
                  rw [← hlx] at lk hm1
                  rw [← hxx] at xk hm2
                  obtain ⟨p, hp⟩ : ∃ p, p = (L.take k).count y := ⟨_, rfl⟩
                  obtain ⟨q, hq⟩ : ∃ q, q = (X.take k).count y := ⟨_, rfl⟩
                  rw [← hp] at hm1 hp1
                  rw [← hq] at hm2 hp2
                  rw [← hp, ← hq]
                  have HLk : Hid (∀ wx, Below w3.heap.size w3 wx → wx.cell? ⟨b, off + k, none⟩ = some (.string lx)) := fun wx hx => by rw [hlx]; exact HLX.out wx hx k hkL
                  have HXk : Hid (∀ wx, Below w3.heap.size w3 wx → wx.cell? ⟨xg, xoff + k, none⟩ = some (.string xx)) := fun wx hx => by rw [hxx]; exact HXC.out wx hx k hkX
                  have HXi : Hid (∀ wx, Below w3.heap.size w3 wx → wx.cell? ⟨xg, xoff + i, none⟩ = some (.string y)) := fun wx hx => by rw [← HYI.out]; exact HXC.out wx hx i hiX
                  clear hlx hxx hp hq hBr lk xk xi
                  have hwa : IntKind.i64.wrap ((p : Int) - (q : Int) + 1) = (p : Int) - (q : Int) + 1 := by rw [IntKind.wrap_i64]; omega
                  have hwb : IntKind.i64.wrap ((p : Int) - (q : Int) + 1 - 1) = (p : Int) - (q : Int) + 1 - 1 := by rw [IntKind.wrap_i64]; omega
                  have hwc : IntKind.i64.wrap ((p : Int) - (q : Int) - 1) = (p : Int) - (q : Int) - 1 := by rw [IntKind.wrap_i64]; omega
                  by_cases e1 : lx = y
                  · rw [if_pos e1] at hm1
                    by_cases e2 : xx = y
                    · rw [if_pos e2] at hm2
                      have HNx : Hid (Value.int .i64 (((L.take (k + 1)).count y : Int) - ((X.take (k + 1)).count y : Int)) = .int .i64 ((p : Int) - (q : Int))) := by show _ = _; rw [hm1, hm2]; congr 1; omega
                      clear hm1 hm2
                      rw [e1] at HLk
                      rw [e2] at HXk
                      clear e1 e2
                      go_wp2
                      refine wp_region_quiet (C := fun wx => Below w3.heap.size w3 wx) (by kernel_rfl) (by kernel_rfl) (HBr.out.drew) ?_
                      simp only []
                      refine q_value ?_ (by rfl) (fun w hw => ?_) ?_
                      rotate_left
                      · go_simp
                        with_reducible rfl
                      simp only [Act.put, List.setIfInBounds_toArray, List.set_cons_zero, List.set_cons_succ]
                      refine q_value ?_ (by rfl) (fun w hw => ?_) ?_
                      rotate_left
                      · go_simp
                        with_reducible rfl
                      simp only [Act.put, List.setIfInBounds_toArray, List.set_cons_zero, List.set_cons_succ]
                      refine q_value ?_ (by rfl) (fun w hw => ?_) ?_
                      rotate_left
                      · go_simp
                        with_reducible rfl
                      simp only [Act.put, List.setIfInBounds_toArray, List.set_cons_zero, List.set_cons_succ]
                      refine q_value ?_ (by rfl) (fun w hw => ?_) ?_
                      rotate_left
                      · have hc := HLk.out w hw
                        go_simp
                        with_reducible rfl
                      simp only [Act.put, List.setIfInBounds_toArray, List.set_cons_zero, List.set_cons_succ]
                      refine q_value ?_ (by rfl) (fun w hw => ?_) ?_
                      rotate_left
                      · go_simp
                        with_reducible rfl
                      simp only [Act.put, List.setIfInBounds_toArray, List.set_cons_zero, List.set_cons_succ]
                      refine q_value ?_ (by rfl) (fun w hw => ?_) ?_
                      rotate_left
                      · go_simp
                        with_reducible rfl
                      simp only [Act.put, List.setIfInBounds_toArray, List.set_cons_zero, List.set_cons_succ]
                      refine q_value ?_ (by rfl) (fun w hw => ?_) ?_
                      rotate_left
                      · go_simp
                        with_reducible rfl
                      simp only [Act.put, List.setIfInBounds_toArray, List.set_cons_zero, List.set_cons_succ]
                      refine q_value ?_ (by rfl) (fun w hw => ?_) ?_
                      rotate_left
                      · have hc := HXi.out w hw
                        go_simp
                        with_reducible rfl
                      simp only [Act.put, List.setIfInBounds_toArray, List.set_cons_zero, List.set_cons_succ]
                      refine q_value (.bool true) (by rfl) (fun w hw => ?_) ?_
                      · go_simp
                      simp only [Act.put, List.setIfInBounds_toArray, List.set_cons_zero, List.set_cons_succ]
                      refine wpQuiet_nil ?_
                      intro wz hw2
                      simp only [Exit.then]
                      have Hwz : Hid (Below w3.heap.size w3 wz) := hw2
                      clear hw2 HBr
                      go_wp2
                      refine wp_region_quiet (C := fun wx => Below w3.heap.size w3 wx) (by kernel_rfl) (by kernel_rfl) (Hwz.out.drew) ?_
                      simp only []
                      refine q_value ?_ (by rfl) (fun w hw => ?_) ?_
                      rotate_left
                      · go_simp
                        with_reducible rfl
                      simp only [Act.put, List.setIfInBounds_toArray, List.set_cons_zero, List.set_cons_succ]
                      refine q_value ?_ (by rfl) (fun w hw => ?_) ?_
                      rotate_left
                      · go_simp
                        with_reducible rfl
                      simp only [Act.put, List.setIfInBounds_toArray, List.set_cons_zero, List.set_cons_succ]
                      refine q_value ?_ (by rfl) (fun w hw => ?_) ?_
                      rotate_left
                      · go_simp
                        with_reducible rfl
                      simp only [Act.put, List.setIfInBounds_toArray, List.set_cons_zero, List.set_cons_succ]
                      refine q_value ?_ (by rfl) (fun w hw => ?_) ?_
                      rotate_left
                      · have hc := HXk.out w hw
                        go_simp
                        with_reducible rfl
                      simp only [Act.put, List.setIfInBounds_toArray, List.set_cons_zero, List.set_cons_succ]
                      refine q_value ?_ (by rfl) (fun w hw => ?_) ?_
                      rotate_left
                      · go_simp
                        with_reducible rfl
                      simp only [Act.put, List.setIfInBounds_toArray, List.set_cons_zero, List.set_cons_succ]
                      refine q_value ?_ (by rfl) (fun w hw => ?_) ?_
                      rotate_left
                      · go_simp
                        with_reducible rfl
                      simp only [Act.put, List.setIfInBounds_toArray, List.set_cons_zero, List.set_cons_succ]
                      refine q_value ?_ (by rfl) (fun w hw => ?_) ?_
                      rotate_left
                      · go_simp
                        with_reducible rfl
                      simp only [Act.put, List.setIfInBounds_toArray, List.set_cons_zero, List.set_cons_succ]
                      refine q_value ?_ (by rfl) (fun w hw => ?_) ?_
                      rotate_left
                      · have hc := HXi.out w hw
                        go_simp
                        with_reducible rfl
                      simp only [Act.put, List.setIfInBounds_toArray, List.set_cons_zero, List.set_cons_succ]
                      refine q_value (.bool true) (by rfl) (fun w hw => ?_) ?_
                      · go_simp
                      simp only [Act.put, List.setIfInBounds_toArray, List.set_cons_zero, List.set_cons_succ]
                      refine wpQuiet_nil ?_
                      intro wy hw2
                      simp only [Exit.then]
                      have Hwy : Hid (Below w3.heap.size w3 wy) := hw2
                      clear hw2 Hwz
                      go_wp2
                      go_roundw
                      case rel => exact ⟨k + 1, by omega, by go_num, by rw [HNx.out], Hwy.out⟩
                      case measure => simp [intOf]; omega
                    · rw [if_neg e2] at hm2
                      have HNx : Hid (Value.int .i64 (((L.take (k + 1)).count y : Int) - ((X.take (k + 1)).count y : Int)) = .int .i64 ((p : Int) - (q : Int) + 1)) := by show _ = _; rw [hm1, hm2]; congr 1; omega
                      clear hm1 hm2
                      rw [e1] at HLk
                      obtain ⟨n3, n4⟩ := eq_bytes e2
                      clear e1 e2
                      go_wp2
                      refine wp_region_quiet (C := fun wx => Below w3.heap.size w3 wx) (by kernel_rfl) (by kernel_rfl) (HBr.out.drew) ?_
                      simp only []
                      refine q_value ?_ (by rfl) (fun w hw => ?_) ?_
                      rotate_left
                      · go_simp
                        with_reducible rfl
                      simp only [Act.put, List.setIfInBounds_toArray, List.set_cons_zero, List.set_cons_succ]
                      refine q_value ?_ (by rfl) (fun w hw => ?_) ?_
                      rotate_left
                      · go_simp
                        with_reducible rfl
                      simp only [Act.put, List.setIfInBounds_toArray, List.set_cons_zero, List.set_cons_succ]
                      refine q_value ?_ (by rfl) (fun w hw => ?_) ?_
                      rotate_left
                      · go_simp
                        with_reducible rfl
                      simp only [Act.put, List.setIfInBounds_toArray, List.set_cons_zero, List.set_cons_succ]
                      refine q_value ?_ (by rfl) (fun w hw => ?_) ?_
                      rotate_left
                      · have hc := HLk.out w hw
                        go_simp
                        with_reducible rfl
                      simp only [Act.put, List.setIfInBounds_toArray, List.set_cons_zero, List.set_cons_succ]
                      refine q_value ?_ (by rfl) (fun w hw => ?_) ?_
                      rotate_left
                      · go_simp
                        with_reducible rfl
                      simp only [Act.put, List.setIfInBounds_toArray, List.set_cons_zero, List.set_cons_succ]
                      refine q_value ?_ (by rfl) (fun w hw => ?_) ?_
                      rotate_left
                      · go_simp
                        with_reducible rfl
                      simp only [Act.put, List.setIfInBounds_toArray, List.set_cons_zero, List.set_cons_succ]
                      refine q_value ?_ (by rfl) (fun w hw => ?_) ?_
                      rotate_left
                      · go_simp
                        with_reducible rfl
                      simp only [Act.put, List.setIfInBounds_toArray, List.set_cons_zero, List.set_cons_succ]
                      refine q_value ?_ (by rfl) (fun w hw => ?_) ?_
                      rotate_left
                      · have hc := HXi.out w hw
                        go_simp
                        with_reducible rfl
                      simp only [Act.put, List.setIfInBounds_toArray, List.set_cons_zero, List.set_cons_succ]
                      refine q_value (.bool true) (by rfl) (fun w hw => ?_) ?_
                      · go_simp
                      simp only [Act.put, List.setIfInBounds_toArray, List.set_cons_zero, List.set_cons_succ]
                      refine wpQuiet_nil ?_
                      intro wz hw2
                      simp only [Exit.then]
                      have Hwz : Hid (Below w3.heap.size w3 wz) := hw2
                      clear hw2 HBr
                      go_wp2
                      refine wp_region_quiet (C := fun wx => Below w3.heap.size w3 wx) (by kernel_rfl) (by kernel_rfl) (Hwz.out.drew) ?_
                      simp only []
                      refine q_value ?_ (by rfl) (fun w hw => ?_) ?_
                      rotate_left
                      · go_simp
                        with_reducible rfl
                      simp only [Act.put, List.setIfInBounds_toArray, List.set_cons_zero, List.set_cons_succ]
                      refine q_value ?_ (by rfl) (fun w hw => ?_) ?_
                      rotate_left
                      · go_simp
                        with_reducible rfl
                      simp only [Act.put, List.setIfInBounds_toArray, List.set_cons_zero, List.set_cons_succ]
                      refine q_value ?_ (by rfl) (fun w hw => ?_) ?_
                      rotate_left
                      · go_simp
                        with_reducible rfl
                      simp only [Act.put, List.setIfInBounds_toArray, List.set_cons_zero, List.set_cons_succ]
                      refine q_value ?_ (by rfl) (fun w hw => ?_) ?_
                      rotate_left
                      · have hc := HXk.out w hw
                        go_simp
                        with_reducible rfl
                      simp only [Act.put, List.setIfInBounds_toArray, List.set_cons_zero, List.set_cons_succ]
                      refine q_value ?_ (by rfl) (fun w hw => ?_) ?_
                      rotate_left
                      · go_simp
                        with_reducible rfl
                      simp only [Act.put, List.setIfInBounds_toArray, List.set_cons_zero, List.set_cons_succ]
                      refine q_value ?_ (by rfl) (fun w hw => ?_) ?_
                      rotate_left
                      · go_simp
                        with_reducible rfl
                      simp only [Act.put, List.setIfInBounds_toArray, List.set_cons_zero, List.set_cons_succ]
                      refine q_value ?_ (by rfl) (fun w hw => ?_) ?_
                      rotate_left
                      · go_simp
                        with_reducible rfl
                      simp only [Act.put, List.setIfInBounds_toArray, List.set_cons_zero, List.set_cons_succ]
                      refine q_value ?_ (by rfl) (fun w hw => ?_) ?_
                      rotate_left
                      · have hc := HXi.out w hw
                        go_simp
                        with_reducible rfl
                      simp only [Act.put, List.setIfInBounds_toArray, List.set_cons_zero, List.set_cons_succ]
                      refine q_value (.bool false) (by rfl) (fun w hw => ?_) ?_
                      · go_simp
                      simp only [Act.put, List.setIfInBounds_toArray, List.set_cons_zero, List.set_cons_succ]
                      refine wpQuiet_nil ?_
                      intro wy hw2
                      simp only [Exit.then]
                      have Hwy : Hid (Below w3.heap.size w3 wy) := hw2
                      clear hw2 Hwz
                      go_wp2
                      go_roundw
                      case rel => exact ⟨k + 1, by omega, by go_num, by rw [HNx.out], Hwy.out⟩
                      case measure => simp [intOf]; omega
                  · rw [if_neg e1] at hm1
                    by_cases e2 : xx = y
                    · rw [if_pos e2] at hm2
                      have HNx : Hid (Value.int .i64 (((L.take (k + 1)).count y : Int) - ((X.take (k + 1)).count y : Int)) = .int .i64 ((p : Int) - (q : Int) - 1)) := by show _ = _; rw [hm1, hm2]; congr 1; omega
                      clear hm1 hm2
                      obtain ⟨n1, n2⟩ := eq_bytes e1
                      rw [e2] at HXk
                      clear e1 e2
                      go_wp2
                      refine wp_region_quiet (C := fun wx => Below w3.heap.size w3 wx) (by kernel_rfl) (by kernel_rfl) (HBr.out.drew) ?_
                      simp only []
                      refine q_value ?_ (by rfl) (fun w hw => ?_) ?_
                      rotate_left
                      · go_simp
                        with_reducible rfl
                      simp only [Act.put, List.setIfInBounds_toArray, List.set_cons_zero, List.set_cons_succ]
                      refine q_value ?_ (by rfl) (fun w hw => ?_) ?_
                      rotate_left
                      · go_simp
                        with_reducible rfl
                      simp only [Act.put, List.setIfInBounds_toArray, List.set_cons_zero, List.set_cons_succ]
                      refine q_value ?_ (by rfl) (fun w hw => ?_) ?_
                      rotate_left
                      · go_simp
                        with_reducible rfl
                      simp only [Act.put, List.setIfInBounds_toArray, List.set_cons_zero, List.set_cons_succ]
                      refine q_value ?_ (by rfl) (fun w hw => ?_) ?_
                      rotate_left
                      · have hc := HLk.out w hw
                        go_simp
                        with_reducible rfl
                      simp only [Act.put, List.setIfInBounds_toArray, List.set_cons_zero, List.set_cons_succ]
                      refine q_value ?_ (by rfl) (fun w hw => ?_) ?_
                      rotate_left
                      · go_simp
                        with_reducible rfl
                      simp only [Act.put, List.setIfInBounds_toArray, List.set_cons_zero, List.set_cons_succ]
                      refine q_value ?_ (by rfl) (fun w hw => ?_) ?_
                      rotate_left
                      · go_simp
                        with_reducible rfl
                      simp only [Act.put, List.setIfInBounds_toArray, List.set_cons_zero, List.set_cons_succ]
                      refine q_value ?_ (by rfl) (fun w hw => ?_) ?_
                      rotate_left
                      · go_simp
                        with_reducible rfl
                      simp only [Act.put, List.setIfInBounds_toArray, List.set_cons_zero, List.set_cons_succ]
                      refine q_value ?_ (by rfl) (fun w hw => ?_) ?_
                      rotate_left
                      · have hc := HXi.out w hw
                        go_simp
                        with_reducible rfl
                      simp only [Act.put, List.setIfInBounds_toArray, List.set_cons_zero, List.set_cons_succ]
                      refine q_value (.bool false) (by rfl) (fun w hw => ?_) ?_
                      · go_simp
                      simp only [Act.put, List.setIfInBounds_toArray, List.set_cons_zero, List.set_cons_succ]
                      refine wpQuiet_nil ?_
                      intro wz hw2
                      simp only [Exit.then]
                      have Hwz : Hid (Below w3.heap.size w3 wz) := hw2
                      clear hw2 HBr
                      go_wp2
                      refine wp_region_quiet (C := fun wx => Below w3.heap.size w3 wx) (by kernel_rfl) (by kernel_rfl) (Hwz.out.drew) ?_
                      simp only []
                      refine q_value ?_ (by rfl) (fun w hw => ?_) ?_
                      rotate_left
                      · go_simp
                        with_reducible rfl
                      simp only [Act.put, List.setIfInBounds_toArray, List.set_cons_zero, List.set_cons_succ]
                      refine q_value ?_ (by rfl) (fun w hw => ?_) ?_
                      rotate_left
                      · go_simp
                        with_reducible rfl
                      simp only [Act.put, List.setIfInBounds_toArray, List.set_cons_zero, List.set_cons_succ]
                      refine q_value ?_ (by rfl) (fun w hw => ?_) ?_
                      rotate_left
                      · go_simp
                        with_reducible rfl
                      simp only [Act.put, List.setIfInBounds_toArray, List.set_cons_zero, List.set_cons_succ]
                      refine q_value ?_ (by rfl) (fun w hw => ?_) ?_
                      rotate_left
                      · have hc := HXk.out w hw
                        go_simp
                        with_reducible rfl
                      simp only [Act.put, List.setIfInBounds_toArray, List.set_cons_zero, List.set_cons_succ]
                      refine q_value ?_ (by rfl) (fun w hw => ?_) ?_
                      rotate_left
                      · go_simp
                        with_reducible rfl
                      simp only [Act.put, List.setIfInBounds_toArray, List.set_cons_zero, List.set_cons_succ]
                      refine q_value ?_ (by rfl) (fun w hw => ?_) ?_
                      rotate_left
                      · go_simp
                        with_reducible rfl
                      simp only [Act.put, List.setIfInBounds_toArray, List.set_cons_zero, List.set_cons_succ]
                      refine q_value ?_ (by rfl) (fun w hw => ?_) ?_
                      rotate_left
                      · go_simp
                        with_reducible rfl
                      simp only [Act.put, List.setIfInBounds_toArray, List.set_cons_zero, List.set_cons_succ]
                      refine q_value ?_ (by rfl) (fun w hw => ?_) ?_
                      rotate_left
                      · have hc := HXi.out w hw
                        go_simp
                        with_reducible rfl
                      simp only [Act.put, List.setIfInBounds_toArray, List.set_cons_zero, List.set_cons_succ]
                      refine q_value (.bool true) (by rfl) (fun w hw => ?_) ?_
                      · go_simp
                      simp only [Act.put, List.setIfInBounds_toArray, List.set_cons_zero, List.set_cons_succ]
                      refine wpQuiet_nil ?_
                      intro wy hw2
                      simp only [Exit.then]
                      have Hwy : Hid (Below w3.heap.size w3 wy) := hw2
                      clear hw2 Hwz
                      go_wp2
                      go_roundw
                      case rel => exact ⟨k + 1, by omega, by go_num, by rw [HNx.out], Hwy.out⟩
                      case measure => simp [intOf]; omega
                    · rw [if_neg e2] at hm2
                      have HNx : Hid (Value.int .i64 (((L.take (k + 1)).count y : Int) - ((X.take (k + 1)).count y : Int)) = .int .i64 ((p : Int) - (q : Int))) := by show _ = _; rw [hm1, hm2]; congr 1
                      clear hm1 hm2
                      obtain ⟨n1, n2⟩ := eq_bytes e1
                      obtain ⟨n3, n4⟩ := eq_bytes e2
                      clear e1 e2
                      go_wp2
                      refine wp_region_quiet (C := fun wx => Below w3.heap.size w3 wx) (by kernel_rfl) (by kernel_rfl) (HBr.out.drew) ?_
                      simp only []
                      refine q_value ?_ (by rfl) (fun w hw => ?_) ?_
                      rotate_left
                      · go_simp
                        with_reducible rfl
                      simp only [Act.put, List.setIfInBounds_toArray, List.set_cons_zero, List.set_cons_succ]
                      refine q_value ?_ (by rfl) (fun w hw => ?_) ?_
                      rotate_left
                      · go_simp
                        with_reducible rfl
                      simp only [Act.put, List.setIfInBounds_toArray, List.set_cons_zero, List.set_cons_succ]
                      refine q_value ?_ (by rfl) (fun w hw => ?_) ?_
                      rotate_left
                      · go_simp
                        with_reducible rfl
                      simp only [Act.put, List.setIfInBounds_toArray, List.set_cons_zero, List.set_cons_succ]
                      refine q_value ?_ (by rfl) (fun w hw => ?_) ?_
                      rotate_left
                      · have hc := HLk.out w hw
                        go_simp
                        with_reducible rfl
                      simp only [Act.put, List.setIfInBounds_toArray, List.set_cons_zero, List.set_cons_succ]
                      refine q_value ?_ (by rfl) (fun w hw => ?_) ?_
                      rotate_left
                      · go_simp
                        with_reducible rfl
                      simp only [Act.put, List.setIfInBounds_toArray, List.set_cons_zero, List.set_cons_succ]
                      refine q_value ?_ (by rfl) (fun w hw => ?_) ?_
                      rotate_left
                      · go_simp
                        with_reducible rfl
                      simp only [Act.put, List.setIfInBounds_toArray, List.set_cons_zero, List.set_cons_succ]
                      refine q_value ?_ (by rfl) (fun w hw => ?_) ?_
                      rotate_left
                      · go_simp
                        with_reducible rfl
                      simp only [Act.put, List.setIfInBounds_toArray, List.set_cons_zero, List.set_cons_succ]
                      refine q_value ?_ (by rfl) (fun w hw => ?_) ?_
                      rotate_left
                      · have hc := HXi.out w hw
                        go_simp
                        with_reducible rfl
                      simp only [Act.put, List.setIfInBounds_toArray, List.set_cons_zero, List.set_cons_succ]
                      refine q_value (.bool false) (by rfl) (fun w hw => ?_) ?_
                      · go_simp
                      simp only [Act.put, List.setIfInBounds_toArray, List.set_cons_zero, List.set_cons_succ]
                      refine wpQuiet_nil ?_
                      intro wz hw2
                      simp only [Exit.then]
                      have Hwz : Hid (Below w3.heap.size w3 wz) := hw2
                      clear hw2 HBr
                      go_wp2
                      refine wp_region_quiet (C := fun wx => Below w3.heap.size w3 wx) (by kernel_rfl) (by kernel_rfl) (Hwz.out.drew) ?_
                      simp only []
                      refine q_value ?_ (by rfl) (fun w hw => ?_) ?_
                      rotate_left
                      · go_simp
                        with_reducible rfl
                      simp only [Act.put, List.setIfInBounds_toArray, List.set_cons_zero, List.set_cons_succ]
                      refine q_value ?_ (by rfl) (fun w hw => ?_) ?_
                      rotate_left
                      · go_simp
                        with_reducible rfl
                      simp only [Act.put, List.setIfInBounds_toArray, List.set_cons_zero, List.set_cons_succ]
                      refine q_value ?_ (by rfl) (fun w hw => ?_) ?_
                      rotate_left
                      · go_simp
                        with_reducible rfl
                      simp only [Act.put, List.setIfInBounds_toArray, List.set_cons_zero, List.set_cons_succ]
                      refine q_value ?_ (by rfl) (fun w hw => ?_) ?_
                      rotate_left
                      · have hc := HXk.out w hw
                        go_simp
                        with_reducible rfl
                      simp only [Act.put, List.setIfInBounds_toArray, List.set_cons_zero, List.set_cons_succ]
                      refine q_value ?_ (by rfl) (fun w hw => ?_) ?_
                      rotate_left
                      · go_simp
                        with_reducible rfl
                      simp only [Act.put, List.setIfInBounds_toArray, List.set_cons_zero, List.set_cons_succ]
                      refine q_value ?_ (by rfl) (fun w hw => ?_) ?_
                      rotate_left
                      · go_simp
                        with_reducible rfl
                      simp only [Act.put, List.setIfInBounds_toArray, List.set_cons_zero, List.set_cons_succ]
                      refine q_value ?_ (by rfl) (fun w hw => ?_) ?_
                      rotate_left
                      · go_simp
                        with_reducible rfl
                      simp only [Act.put, List.setIfInBounds_toArray, List.set_cons_zero, List.set_cons_succ]
                      refine q_value ?_ (by rfl) (fun w hw => ?_) ?_
                      rotate_left
                      · have hc := HXi.out w hw
                        go_simp
                        with_reducible rfl
                      simp only [Act.put, List.setIfInBounds_toArray, List.set_cons_zero, List.set_cons_succ]
                      refine q_value (.bool false) (by rfl) (fun w hw => ?_) ?_
                      · go_simp
                      simp only [Act.put, List.setIfInBounds_toArray, List.set_cons_zero, List.set_cons_succ]
                      refine wpQuiet_nil ?_
                      intro wy hw2
                      simp only [Exit.then]
                      have Hwy : Hid (Below w3.heap.size w3 wy) := hw2
                      clear hw2 Hwz
                      go_wp2
                      go_roundw
                      case rel => exact ⟨k + 1, by omega, by go_num, by rw [HNx.out], Hwy.out⟩
                      case measure => simp [intOf]; omega
                · have hkn' : ¬ (k : Int) < (n : Int) := by omega
                  have hz : (((L.take k).count y : Int) - ((X.take k).count y : Int)) = 0 := by
                    rw [List.take_of_length_le (by have := HN.out; omega : L.length ≤ k), List.take_of_length_le (by have := HXL.out; omega : X.length ≤ k), HPM.out.count_eq y]
                    omega
                  rw [hz]
                  clear hz hp1 hp2 hBr
                  go_wp2
                  go_roundw
                  case rel => exact ⟨i + 1, by omega, by go_num, by rw [HD2.out], HBr.out⟩
                  case measure => simp [intOf]; omega
          · have hd : decide (m < i) = true := decide_eq_true (by omega)
            rw [hd]
            have HD2 : Hid (decide (m < i + 1) = true) := decide_eq_true (by omega)
            have hi0' : (0 : Int) < (i : Int) := by omega
            clear hd hie
            go_wp2_with fail
            refine hpi.mono ?_
            rintro e wA ⟨rfl, hbA⟩
            have HBB : Hid (Below w3.heap.size w3 (wA.alloc (.cells zeroC 24))) := HBq.out.trans ((hbA.alloc hbA.size _).mono HBq.out.size)
            clear hpi hbA xi0
            go_wp2_with (refine wpList_store_new rfl 24 _ _ rfl wA zeroC zeroC 24 rfl wA.heap.size rfl rfl rfl infoVs rfl zeroC_one ?_)
            obtain ⟨wB, hwB⟩ : ∃ x, x = wA.alloc (.cells zeroC 24) := ⟨_, rfl⟩
            rw [← hwB] at HBB
            rw [← hwB]
            clear hwB
            obtain ⟨wO, hwO⟩ : ∃ x, x = wB := ⟨_, rfl⟩
            go_loopw [10, 11] (fun s10 s11 wz => ∃ k : Nat, k ≤ n ∧ s11 = .int .i64 k ∧ s10 = .int .i64 (((L.take k).count y : Int) - ((X.take k).count y : Int)) ∧ Below w3.heap.size w3 wz) (fun _ s11 _ => n - (intOf s11).toNat)
            case atStart => exact ⟨0, Nat.zero_le _, rfl, by simp, HBB.out⟩
            case round =>
              obtain ⟨k, hk, rfl, rfl, hBr⟩ := hrel
              have HBr : Hid (Below w3.heap.size w3 wr) := hBr
              have hp1 := cnt_le L y k
              have hp2 := cnt_le X y k
              by_cases hkn : k < n
              · have hkL : k < L.length := by have := HN.out; omega
                have hkX : k < X.length := by have := HXL.out; omega
                have hkn' : (k : Int) < (n : Int) := by omega
                have hm1 := cnt_more L y k hkL
                have hm2 := cnt_more X y k hkX
                have lk := HLX.out wr hBr k hkL
                have xk := HXC.out wr hBr k hkX
                have xi := HXC.out wr hBr i hiX
                rw [HYI.out] at xi
                obtain ⟨lx, hlx⟩ : ∃ x, x = L[k] := ⟨_, rfl⟩
                obtain ⟨xx, hxx⟩ : ∃ x, x = X[k] := ⟨_, rfl⟩
                rw [← hlx] at lk hm1
                rw [← hxx] at xk hm2
                obtain ⟨p, hp⟩ : ∃ p, p = (L.take k).count y := ⟨_, rfl⟩
                obtain ⟨q, hq⟩ : ∃ q, q = (X.take k).count y := ⟨_, rfl⟩
                rw [← hp] at hm1 hp1
                rw [← hq] at hm2 hp2
                rw [← hp, ← hq]
                have HLk : Hid (∀ wx, Below w3.heap.size w3 wx → wx.cell? ⟨b, off + k, none⟩ = some (.string lx)) := fun wx hx => by rw [hlx]; exact HLX.out wx hx k hkL
                have HXk : Hid (∀ wx, Below w3.heap.size w3 wx → wx.cell? ⟨xg, xoff + k, none⟩ = some (.string xx)) := fun wx hx => by rw [hxx]; exact HXC.out wx hx k hkX
                have HXi : Hid (∀ wx, Below w3.heap.size w3 wx → wx.cell? ⟨xg, xoff + i, none⟩ = some (.string y)) := fun wx hx => by rw [← HYI.out]; exact HXC.out wx hx i hiX
                clear hlx hxx hp hq hBr lk xk xi
                have hwa : IntKind.i64.wrap ((p : Int) - (q : Int) + 1) = (p : Int) - (q : Int) + 1 := by rw [IntKind.wrap_i64]; omega
                have hwb : IntKind.i64.wrap ((p : Int) - (q : Int) + 1 - 1) = (p : Int) - (q : Int) + 1 - 1 := by rw [IntKind.wrap_i64]; omega
                have hwc : IntKind.i64.wrap ((p : Int) - (q : Int) - 1) = (p : Int) - (q : Int) - 1 := by rw [IntKind.wrap_i64]; omega
                by_cases e1 : lx = y
                · rw [if_pos e1] at hm1
                  by_cases e2 : xx = y
                  · rw [if_pos e2] at hm2
                    have HNx : Hid (Value.int .i64 (((L.take (k + 1)).count y : Int) - ((X.take (k + 1)).count y : Int)) = .int .i64 ((p : Int) - (q : Int))) := by show _ = _; rw [hm1, hm2]; congr 1; omega
                    clear hm1 hm2
                    rw [e1] at HLk
                    rw [e2] at HXk
                    clear e1 e2
                    go_wp2
                    refine wp_region_quiet (C := fun wx => Below w3.heap.size w3 wx) (by kernel_rfl) (by kernel_rfl) (HBr.out.drew) ?_
                    simp only []
                    refine q_value ?_ (by rfl) (fun w hw => ?_) ?_
                    rotate_left
                    · go_simp
                      with_reducible rfl
                    simp only [Act.put, List.setIfInBounds_toArray, List.set_cons_zero, List.set_cons_succ]
                    refine q_value ?_ (by rfl) (fun w hw => ?_) ?_
                    rotate_left
                    · go_simp
                      with_reducible rfl
                    simp only [Act.put, List.setIfInBounds_toArray, List.set_cons_zero, List.set_cons_succ]
                    refine q_value ?_ (by rfl) (fun w hw => ?_) ?_
                    rotate_left
                    · go_simp
                      with_reducible rfl
                    simp only [Act.put, List.setIfInBounds_toArray, List.set_cons_zero, List.set_cons_succ]
                    refine q_value ?_ (by rfl) (fun w hw => ?_) ?_
                    rotate_left
                    · have hc := HLk.out w hw
                      go_simp
                      with_reducible rfl
                    simp only [Act.put, List.setIfInBounds_toArray, List.set_cons_zero, List.set_cons_succ]
                    refine q_value ?_ (by rfl) (fun w hw => ?_) ?_
                    rotate_left
                    · go_simp
                      with_reducible rfl
                    simp only [Act.put, List.setIfInBounds_toArray, List.set_cons_zero, List.set_cons_succ]
                    refine q_value ?_ (by rfl) (fun w hw => ?_) ?_
                    rotate_left
                    · go_simp
                      with_reducible rfl
                    simp only [Act.put, List.setIfInBounds_toArray, List.set_cons_zero, List.set_cons_succ]
                    refine q_value ?_ (by rfl) (fun w hw => ?_) ?_
                    rotate_left
                    · go_simp
                      with_reducible rfl
                    simp only [Act.put, List.setIfInBounds_toArray, List.set_cons_zero, List.set_cons_succ]
                    refine q_value ?_ (by rfl) (fun w hw => ?_) ?_
                    rotate_left
                    · have hc := HXi.out w hw
                      go_simp
                      with_reducible rfl
                    simp only [Act.put, List.setIfInBounds_toArray, List.set_cons_zero, List.set_cons_succ]
                    refine q_value (.bool true) (by rfl) (fun w hw => ?_) ?_
                    · go_simp
                    simp only [Act.put, List.setIfInBounds_toArray, List.set_cons_zero, List.set_cons_succ]
                    refine wpQuiet_nil ?_
                    intro wz hw2
                    simp only [Exit.then]
                    have Hwz : Hid (Below w3.heap.size w3 wz) := hw2
                    clear hw2 HBr
                    go_wp2
                    refine wp_region_quiet (C := fun wx => Below w3.heap.size w3 wx) (by kernel_rfl) (by kernel_rfl) (Hwz.out.drew) ?_
                    simp only []
                    refine q_value ?_ (by rfl) (fun w hw => ?_) ?_
                    rotate_left
                    · go_simp
                      with_reducible rfl
                    simp only [Act.put, List.setIfInBounds_toArray, List.set_cons_zero, List.set_cons_succ]
                    refine q_value ?_ (by rfl) (fun w hw => ?_) ?_
                    rotate_left
                    · go_simp
                      with_reducible rfl
                    simp only [Act.put, List.setIfInBounds_toArray, List.set_cons_zero, List.set_cons_succ]
                    refine q_value ?_ (by rfl) (fun w hw => ?_) ?_
                    rotate_left
                    · go_simp
                      with_reducible rfl
                    simp only [Act.put, List.setIfInBounds_toArray, List.set_cons_zero, List.set_cons_succ]
                    refine q_value ?_ (by rfl) (fun w hw => ?_) ?_
                    rotate_left
                    · have hc := HXk.out w hw
                      go_simp
                      with_reducible rfl
                    simp only [Act.put, List.setIfInBounds_toArray, List.set_cons_zero, List.set_cons_succ]
                    refine q_value ?_ (by rfl) (fun w hw => ?_) ?_
                    rotate_left
                    · go_simp
                      with_reducible rfl
                    simp only [Act.put, List.setIfInBounds_toArray, List.set_cons_zero, List.set_cons_succ]
                    refine q_value ?_ (by rfl) (fun w hw => ?_) ?_
                    rotate_left
                    · go_simp
                      with_reducible rfl
                    simp only [Act.put, List.setIfInBounds_toArray, List.set_cons_zero, List.set_cons_succ]
                    refine q_value ?_ (by rfl) (fun w hw => ?_) ?_
                    rotate_left
                    · go_simp
                      with_reducible rfl
                    simp only [Act.put, List.setIfInBounds_toArray, List.set_cons_zero, List.set_cons_succ]
                    refine q_value ?_ (by rfl) (fun w hw => ?_) ?_
                    rotate_left
                    · have hc := HXi.out w hw
                      go_simp
                      with_reducible rfl
                    simp only [Act.put, List.setIfInBounds_toArray, List.set_cons_zero, List.set_cons_succ]
                    refine q_value (.bool true) (by rfl) (fun w hw => ?_) ?_
                    · go_simp
                    simp only [Act.put, List.setIfInBounds_toArray, List.set_cons_zero, List.set_cons_succ]
                    refine wpQuiet_nil ?_
                    intro wy hw2
                    simp only [Exit.then]
                    have Hwy : Hid (Below w3.heap.size w3 wy) := hw2
                    clear hw2 Hwz
                    go_wp2
                    go_roundw
                    case rel => exact ⟨k + 1, by omega, by go_num, by rw [HNx.out], Hwy.out⟩
                    case measure => simp [intOf]; omega
                  · rw [if_neg e2] at hm2
                    have HNx : Hid (Value.int .i64 (((L.take (k + 1)).count y : Int) - ((X.take (k + 1)).count y : Int)) = .int .i64 ((p : Int) - (q : Int) + 1)) := by show _ = _; rw [hm1, hm2]; congr 1; omega
                    clear hm1 hm2
                    rw [e1] at HLk
                    obtain ⟨n3, n4⟩ := eq_bytes e2
                    clear e1 e2
                    go_wp2
                    refine wp_region_quiet (C := fun wx => Below w3.heap.size w3 wx) (by kernel_rfl) (by kernel_rfl) (HBr.out.drew) ?_
                    simp only []
                    refine q_value ?_ (by rfl) (fun w hw => ?_) ?_
                    rotate_left
                    · go_simp
                      with_reducible rfl
                    simp only [Act.put, List.setIfInBounds_toArray, List.set_cons_zero, List.set_cons_succ]
                    refine q_value ?_ (by rfl) (fun w hw => ?_) ?_
                    rotate_left
                    · go_simp
                      with_reducible rfl
                    simp only [Act.put, List.setIfInBounds_toArray, List.set_cons_zero, List.set_cons_succ]
                    refine q_value ?_ (by rfl) (fun w hw => ?_) ?_
                    rotate_left
                    · go_simp
                      with_reducible rfl
                    simp only [Act.put, List.setIfInBounds_toArray, List.set_cons_zero, List.set_cons_succ]
                    refine q_value ?_ (by rfl) (fun w hw => ?_) ?_
                    rotate_left
                    · have hc := HLk.out w hw
                      go_simp
                      with_reducible rfl
                    simp only [Act.put, List.setIfInBounds_toArray, List.set_cons_zero, List.set_cons_succ]
                    refine q_value ?_ (by rfl) (fun w hw => ?_) ?_
                    rotate_left
                    · go_simp
                      with_reducible rfl
                    simp only [Act.put, List.setIfInBounds_toArray, List.set_cons_zero, List.set_cons_succ]
                    refine q_value ?_ (by rfl) (fun w hw => ?_) ?_
                    rotate_left
                    · go_simp
                      with_reducible rfl
                    simp only [Act.put, List.setIfInBounds_toArray, List.set_cons_zero, List.set_cons_succ]
                    refine q_value ?_ (by rfl) (fun w hw => ?_) ?_
                    rotate_left
                    · go_simp
                      with_reducible rfl
                    simp only [Act.put, List.setIfInBounds_toArray, List.set_cons_zero, List.set_cons_succ]
                    refine q_value ?_ (by rfl) (fun w hw => ?_) ?_
                    rotate_left
                    · have hc := HXi.out w hw
                      go_simp
                      with_reducible rfl
                    simp only [Act.put, List.setIfInBounds_toArray, List.set_cons_zero, List.set_cons_succ]
                    refine q_value (.bool true) (by rfl) (fun w hw => ?_) ?_
                    · go_simp
                    simp only [Act.put, List.setIfInBounds_toArray, List.set_cons_zero, List.set_cons_succ]
                    refine wpQuiet_nil ?_
                    intro wz hw2
                    simp only [Exit.then]
                    have Hwz : Hid (Below w3.heap.size w3 wz) := hw2
                    clear hw2 HBr
                    go_wp2
                    refine wp_region_quiet (C := fun wx => Below w3.heap.size w3 wx) (by kernel_rfl) (by kernel_rfl) (Hwz.out.drew) ?_
                    simp only []
                    refine q_value ?_ (by rfl) (fun w hw => ?_) ?_
                    rotate_left
                    · go_simp
                      with_reducible rfl
                    simp only [Act.put, List.setIfInBounds_toArray, List.set_cons_zero, List.set_cons_succ]
                    refine q_value ?_ (by rfl) (fun w hw => ?_) ?_
                    rotate_left
                    · go_simp
                      with_reducible rfl
                    simp only [Act.put, List.setIfInBounds_toArray, List.set_cons_zero, List.set_cons_succ]
                    refine q_value ?_ (by rfl) (fun w hw => ?_) ?_
                    rotate_left
                    · go_simp
                      with_reducible rfl
                    simp only [Act.put, List.setIfInBounds_toArray, List.set_cons_zero, List.set_cons_succ]
                    refine q_value ?_ (by rfl) (fun w hw => ?_) ?_
                    rotate_left
                    · have hc := HXk.out w hw
                      go_simp
                      with_reducible rfl
                    simp only [Act.put, List.setIfInBounds_toArray, List.set_cons_zero, List.set_cons_succ]
                    refine q_value ?_ (by rfl) (fun w hw => ?_) ?_
                    rotate_left
                    · go_simp
                      with_reducible rfl
                    simp only [Act.put, List.setIfInBounds_toArray, List.set_cons_zero, List.set_cons_succ]
                    refine q_value ?_ (by rfl) (fun w hw => ?_) ?_
                    rotate_left
                    · go_simp
                      with_reducible rfl
                    simp only [Act.put, List.setIfInBounds_toArray, List.set_cons_zero, List.set_cons_succ]
                    refine q_value ?_ (by rfl) (fun w hw => ?_) ?_
                    rotate_left
                    · go_simp
                      with_reducible rfl
                    simp only [Act.put, List.setIfInBounds_toArray, List.set_cons_zero, List.set_cons_succ]
                    refine q_value ?_ (by rfl) (fun w hw => ?_) ?_
                    rotate_left
                    · have hc := HXi.out w hw
                      go_simp
                      with_reducible rfl
                    simp only [Act.put, List.setIfInBounds_toArray, List.set_cons_zero, List.set_cons_succ]
                    refine q_value (.bool false) (by rfl) (fun w hw => ?_) ?_
                    · go_simp
                    simp only [Act.put, List.setIfInBounds_toArray, List.set_cons_zero, List.set_cons_succ]
                    refine wpQuiet_nil ?_
                    intro wy hw2
                    simp only [Exit.then]
                    have Hwy : Hid (Below w3.heap.size w3 wy) := hw2
                    clear hw2 Hwz
                    go_wp2
                    go_roundw
                    case rel => exact ⟨k + 1, by omega, by go_num, by rw [HNx.out], Hwy.out⟩
                    case measure => simp [intOf]; omega
                · rw [if_neg e1] at hm1
                  by_cases e2 : xx = y
                  · rw [if_pos e2] at hm2
                    have HNx : Hid (Value.int .i64 (((L.take (k + 1)).count y : Int) - ((X.take (k + 1)).count y : Int)) = .int .i64 ((p : Int) - (q : Int) - 1)) := by show _ = _; rw [hm1, hm2]; congr 1; omega
                    clear hm1 hm2
                    obtain ⟨n1, n2⟩ := eq_bytes e1
                    rw [e2] at HXk
                    clear e1 e2
                    go_wp2
                    refine wp_region_quiet (C := fun wx => Below w3.heap.size w3 wx) (by kernel_rfl) (by kernel_rfl) (HBr.out.drew) ?_
                    simp only []
                    refine q_value ?_ (by rfl) (fun w hw => ?_) ?_
                    rotate_left
                    · go_simp
                      with_reducible rfl
                    simp only [Act.put, List.setIfInBounds_toArray, List.set_cons_zero, List.set_cons_succ]
                    refine q_value ?_ (by rfl) (fun w hw => ?_) ?_
                    rotate_left
                    · go_simp
                      with_reducible rfl
                    simp only [Act.put, List.setIfInBounds_toArray, List.set_cons_zero, List.set_cons_succ]
                    refine q_value ?_ (by rfl) (fun w hw => ?_) ?_
                    rotate_left
                    · go_simp
                      with_reducible rfl
                    simp only [Act.put, List.setIfInBounds_toArray, List.set_cons_zero, List.set_cons_succ]
                    refine q_value ?_ (by rfl) (fun w hw => ?_) ?_
                    rotate_left
                    · have hc := HLk.out w hw
                      go_simp
                      with_reducible rfl
                    simp only [Act.put, List.setIfInBounds_toArray, List.set_cons_zero, List.set_cons_succ]
                    refine q_value ?_ (by rfl) (fun w hw => ?_) ?_
                    rotate_left
                    · go_simp
                      with_reducible rfl
                    simp only [Act.put, List.setIfInBounds_toArray, List.set_cons_zero, List.set_cons_succ]
                    refine q_value ?_ (by rfl) (fun w hw => ?_) ?_
                    rotate_left
                    · go_simp
                      with_reducible rfl
                    simp only [Act.put, List.setIfInBounds_toArray, List.set_cons_zero, List.set_cons_succ]
                    refine q_value ?_ (by rfl) (fun w hw => ?_) ?_
                    rotate_left
                    · go_simp
                      with_reducible rfl
                    simp only [Act.put, List.setIfInBounds_toArray, List.set_cons_zero, List.set_cons_succ]
                    refine q_value ?_ (by rfl) (fun w hw => ?_) ?_
                    rotate_left
                    · have hc := HXi.out w hw
                      go_simp
                      with_reducible rfl
                    simp only [Act.put, List.setIfInBounds_toArray, List.set_cons_zero, List.set_cons_succ]
                    refine q_value (.bool false) (by rfl) (fun w hw => ?_) ?_
                    · go_simp
                    simp only [Act.put, List.setIfInBounds_toArray, List.set_cons_zero, List.set_cons_succ]
                    refine wpQuiet_nil ?_
                    intro wz hw2
                    simp only [Exit.then]
                    have Hwz : Hid (Below w3.heap.size w3 wz) := hw2
                    clear hw2 HBr
                    go_wp2
                    refine wp_region_quiet (C := fun wx => Below w3.heap.size w3 wx) (by kernel_rfl) (by kernel_rfl) (Hwz.out.drew) ?_
                    simp only []
                    refine q_value ?_ (by rfl) (fun w hw => ?_) ?_
                    rotate_left
                    · go_simp
                      with_reducible rfl
                    simp only [Act.put, List.setIfInBounds_toArray, List.set_cons_zero, List.set_cons_succ]
                    refine q_value ?_ (by rfl) (fun w hw => ?_) ?_
                    rotate_left
                    · go_simp
                      with_reducible rfl
                    simp only [Act.put, List.setIfInBounds_toArray, List.set_cons_zero, List.set_cons_succ]
                    refine q_value ?_ (by rfl) (fun w hw => ?_) ?_
                    rotate_left
                    · go_simp
                      with_reducible rfl
                    simp only [Act.put, List.setIfInBounds_toArray, List.set_cons_zero, List.set_cons_succ]
                    refine q_value ?_ (by rfl) (fun w hw => ?_) ?_
                    rotate_left
                    · have hc := HXk.out w hw
                      go_simp
                      with_reducible rfl
                    simp only [Act.put, List.setIfInBounds_toArray, List.set_cons_zero, List.set_cons_succ]
                    refine q_value ?_ (by rfl) (fun w hw => ?_) ?_
                    rotate_left
                    · go_simp
                      with_reducible rfl
                    simp only [Act.put, List.setIfInBounds_toArray, List.set_cons_zero, List.set_cons_succ]
                    refine q_value ?_ (by rfl) (fun w hw => ?_) ?_
                    rotate_left
                    · go_simp
                      with_reducible rfl
                    simp only [Act.put, List.setIfInBounds_toArray, List.set_cons_zero, List.set_cons_succ]
                    refine q_value ?_ (by rfl) (fun w hw => ?_) ?_
                    rotate_left
                    · go_simp
                      with_reducible rfl
                    simp only [Act.put, List.setIfInBounds_toArray, List.set_cons_zero, List.set_cons_succ]
                    refine q_value ?_ (by rfl) (fun w hw => ?_) ?_
                    rotate_left
                    · have hc := HXi.out w hw
                      go_simp
                      with_reducible rfl
                    simp only [Act.put, List.setIfInBounds_toArray, List.set_cons_zero, List.set_cons_succ]
                    refine q_value (.bool true) (by rfl) (fun w hw => ?_) ?_
                    · go_simp
                    simp only [Act.put, List.setIfInBounds_toArray, List.set_cons_zero, List.set_cons_succ]
                    refine wpQuiet_nil ?_
                    intro wy hw2
                    simp only [Exit.then]
                    have Hwy : Hid (Below w3.heap.size w3 wy) := hw2
                    clear hw2 Hwz
                    go_wp2
                    go_roundw
                    case rel => exact ⟨k + 1, by omega, by go_num, by rw [HNx.out], Hwy.out⟩
                    case measure => simp [intOf]; omega
                  · rw [if_neg e2] at hm2
                    have HNx : Hid (Value.int .i64 (((L.take (k + 1)).count y : Int) - ((X.take (k + 1)).count y : Int)) = .int .i64 ((p : Int) - (q : Int))) := by show _ = _; rw [hm1, hm2]; congr 1
                    clear hm1 hm2
                    obtain ⟨n1, n2⟩ := eq_bytes e1
                    obtain ⟨n3, n4⟩ := eq_bytes e2
                    clear e1 e2
                    go_wp2
                    refine wp_region_quiet (C := fun wx => Below w3.heap.size w3 wx) (by kernel_rfl) (by kernel_rfl) (HBr.out.drew) ?_
                    simp only []
                    refine q_value ?_ (by rfl) (fun w hw => ?_) ?_
                    rotate_left
                    · go_simp
                      with_reducible rfl
                    simp only [Act.put, List.setIfInBounds_toArray, List.set_cons_zero, List.set_cons_succ]
                    refine q_value ?_ (by rfl) (fun w hw => ?_) ?_
                    rotate_left
                    · go_simp
                      with_reducible rfl
                    simp only [Act.put, List.setIfInBounds_toArray, List.set_cons_zero, List.set_cons_succ]
                    refine q_value ?_ (by rfl) (fun w hw => ?_) ?_
                    rotate_left
                    · go_simp
                      with_reducible rfl
                    simp only [Act.put, List.setIfInBounds_toArray, List.set_cons_zero, List.set_cons_succ]
                    refine q_value ?_ (by rfl) (fun w hw => ?_) ?_
                    rotate_left
                    · have hc := HLk.out w hw
                      go_simp
                      with_reducible rfl
                    simp only [Act.put, List.setIfInBounds_toArray, List.set_cons_zero, List.set_cons_succ]
                    refine q_value ?_ (by rfl) (fun w hw => ?_) ?_
                    rotate_left
                    · go_simp
                      with_reducible rfl
                    simp only [Act.put, List.setIfInBounds_toArray, List.set_cons_zero, List.set_cons_succ]
                    refine q_value ?_ (by rfl) (fun w hw => ?_) ?_
                    rotate_left
                    · go_simp
                      with_reducible rfl
                    simp only [Act.put, List.setIfInBounds_toArray, List.set_cons_zero, List.set_cons_succ]
                    refine q_value ?_ (by rfl) (fun w hw => ?_) ?_
                    rotate_left
                    · go_simp
                      with_reducible rfl
                    simp only [Act.put, List.setIfInBounds_toArray, List.set_cons_zero, List.set_cons_succ]
                    refine q_value ?_ (by rfl) (fun w hw => ?_) ?_
                    rotate_left
                    · have hc := HXi.out w hw
                      go_simp
                      with_reducible rfl
                    simp only [Act.put, List.setIfInBounds_toArray, List.set_cons_zero, List.set_cons_succ]
                    refine q_value (.bool false) (by rfl) (fun w hw => ?_) ?_
                    · go_simp
                    simp only [Act.put, List.setIfInBounds_toArray, List.set_cons_zero, List.set_cons_succ]
                    refine wpQuiet_nil ?_
                    intro wz hw2
                    simp only [Exit.then]
                    have Hwz : Hid (Below w3.heap.size w3 wz) := hw2
                    clear hw2 HBr
                    go_wp2
                    refine wp_region_quiet (C := fun wx => Below w3.heap.size w3 wx) (by kernel_rfl) (by kernel_rfl) (Hwz.out.drew) ?_
                    simp only []
                    refine q_value ?_ (by rfl) (fun w hw => ?_) ?_
                    rotate_left
                    · go_simp
                      with_reducible rfl
                    simp only [Act.put, List.setIfInBounds_toArray, List.set_cons_zero, List.set_cons_succ]
                    refine q_value ?_ (by rfl) (fun w hw => ?_) ?_
                    rotate_left
                    · go_simp
                      with_reducible rfl
                    simp only [Act.put, List.setIfInBounds_toArray, List.set_cons_zero, List.set_cons_succ]
                    refine q_value ?_ (by rfl) (fun w hw => ?_) ?_
                    rotate_left
                    · go_simp
                      with_reducible rfl
                    simp only [Act.put, List.setIfInBounds_toArray, List.set_cons_zero, List.set_cons_succ]
                    refine q_value ?_ (by rfl) (fun w hw => ?_) ?_
                    rotate_left
                    · have hc := HXk.out w hw
                      go_simp
                      with_reducible rfl
                    simp only [Act.put, List.setIfInBounds_toArray, List.set_cons_zero, List.set_cons_succ]
                    refine q_value ?_ (by rfl) (fun w hw => ?_) ?_
                    rotate_left
                    · go_simp
                      with_reducible rfl
                    simp only [Act.put, List.setIfInBounds_toArray, List.set_cons_zero, List.set_cons_succ]
                    refine q_value ?_ (by rfl) (fun w hw => ?_) ?_
                    rotate_left
                    · go_simp
                      with_reducible rfl
                    simp only [Act.put, List.setIfInBounds_toArray, List.set_cons_zero, List.set_cons_succ]
                    refine q_value ?_ (by rfl) (fun w hw => ?_) ?_
                    rotate_left
                    · go_simp
                      with_reducible rfl
                    simp only [Act.put, List.setIfInBounds_toArray, List.set_cons_zero, List.set_cons_succ]
                    refine q_value ?_ (by rfl) (fun w hw => ?_) ?_
                    rotate_left
                    · have hc := HXi.out w hw
                      go_simp
                      with_reducible rfl
                    simp only [Act.put, List.setIfInBounds_toArray, List.set_cons_zero, List.set_cons_succ]
                    refine q_value (.bool false) (by rfl) (fun w hw => ?_) ?_
                    · go_simp
                    simp only [Act.put, List.setIfInBounds_toArray, List.set_cons_zero, List.set_cons_succ]
                    refine wpQuiet_nil ?_
                    intro wy hw2
                    simp only [Exit.then]
                    have Hwy : Hid (Below w3.heap.size w3 wy) := hw2
                    clear hw2 Hwz
                    go_wp2
                    go_roundw
                    case rel => exact ⟨k + 1, by omega, by go_num, by rw [HNx.out], Hwy.out⟩
                    case measure => simp [intOf]; omega
              · have hkn' : ¬ (k : Int) < (n : Int) := by omega
                have hz : (((L.take k).count y : Int) - ((X.take k).count y : Int)) = 0 := by
                  rw [List.take_of_length_le (by have := HN.out; omega : L.length ≤ k), List.take_of_length_le (by have := HXL.out; omega : X.length ≤ k), HPM.out.count_eq y]
                  omega
                rw [hz]
                clear hz hp1 hp2 hBr
                go_wp2
                go_roundw
                case rel => exact ⟨i + 1, by omega, by go_num, by rw [HD2.out], HBr.out⟩
                case measure => simp [intOf]; omega
      · have hin' : ¬ (i : Int) < (n : Int) := by omega
        have hb1 : Below w3.heap.size w3 (wr.alloc (.cells #[] 9)) := HBq.out.alloc HBq.out.size _
        have hown1 := copy_own wr
        have hs1 : wr.heap.size ≤ (wr.alloc (.cells #[] 9)).heap.size := by simp
        have hcl1 : ∀ t u, (X.map Value.string)[t]? = some u → (wr.alloc (.cells #[] 9)).cell? ⟨xg, xoff + t, none⟩ = some u := fun t u ht => by
          have htl : t < X.length := by simpa using (List.getElem?_eq_some_iff.1 ht).1
          rw [HXC.out _ hb1 t htl]
          rw [List.getElem?_map, List.getElem?_eq_getElem htl] at ht
          exact ht
        have hT1 : Pw (wr.alloc (.cells #[] 9)) := Pw.keep HT3.out hb1 (Pw.lt HT3.out)
        obtain ⟨w4, hw4⟩ : ∃ x, x = wr.alloc (.cells #[] 9) := ⟨_, rfl⟩
        rw [← hw4] at hb1 hown1 hs1 hcl1 hT1
        have hw4' := hw4.symm
        have HB4 : Hid (Below w3.heap.size w3 w4) := hb1
        have HS3 : Hid (w3.heap.size ≤ wr.heap.size) := HBq.out.size
        have hxat := HXA.out
        have hxnn := HXN.out
        have hXn : X.length = n := HXL.out
        have HXS : Hid (∀ x ∈ X, x.size ≤ 140737488355328) := fun x hx => HE.out x (HPM.out.mem_iff.2 hx)
        clear hw4 hb1
        go_wp2_with (at_builtin; refine wpList_ap_allO rfl (some 103) rfl _ _ rfl wr.heap.size (.slice (some ⟨wr.heap.size, 0, none⟩) 0 0) 0 [] rfl hown1 xa xg xoff n xc X hXn rfl hxat hxnn hcl1 hs1 (by omega) ?_; intro v5 w5 ho5 hg5)
        have hb5 : Below wr.heap.size w4 w5 := below_own hg5 hs1 (fun j hj => by simp only [Value.ownBlock, Option.some.injEq] at hj; omega)
        have HB5 : Hid (Below w3.heap.size w3 w5) := HB4.out.trans (hb5.mono HS3.out)
        rw [Nat.zero_add, List.nil_append] at ho5
        have hT5 : Pw w5 := Pw.keep HT3.out HB5.out (Pw.lt HT3.out)
        have hso := sort_own (X := X) (by rw [hXn]; exact ho5) (by omega) HXS.out hT5
        clear ho5 hg5 hown1 hcl1 hs1 hT1 hb5 hw4' hxat hxnn hXn
        refine hso.mono ?_
        rintro e w6 ⟨us, yv, rfl, hup, huf, hown6, hb6⟩
        clear hso
        have hYX : sortedT us X = X := by
          have hx := HXE.out
          rw [hx] at hup ⊢
          exact sorted_once HPV.out HFA.out hup huf
        have hown7 : w6.ownsRow w5.heap.size 9 1 yv n (X.map Value.string) := by
          have h : w6.ownsRow w5.heap.size 9 1 yv X.length ((sortedT us X).map Value.string) := hown6
          rw [hYX, HXL.out] at h
          exact h
        obtain ⟨ya, yg, yoff, yc, hy1, hy2, hy3, hy5, hy4⟩ := (own_tx HXL.out hown7).ex
        have HB6 : Hid (Below w3.heap.size w3 w6) := HB5.out.trans (hb6.mono HB5.out.size)
        have HYC : Hid (∀ wx, Below w6.heap.size w6 wx → ∀ i (h : i < X.length), wx.cell? ⟨yg, yoff + i, none⟩ = some (.string X[i])) := fun wx hx i h => (hx.cell (p := ⟨yg, yoff + i, none⟩) (hy2 (by omega)).2).trans (hy4 i h)
        have HXC6 : Hid (∀ wx, Below w6.heap.size w6 wx → ∀ i (h : i < X.length), wx.cell? ⟨xg, xoff + i, none⟩ = some (.string X[i])) := fun wx hx i h => HXC.out wx (HB6.out.trans (hx.mono HB6.out.size)) i h
        have HYA : Hid (0 < n → ya = some ⟨yg, yoff, none⟩) := fun h => (hy2 (by have := HXL.out; omega)).1
        rw [HXL.out] at hy1
        have hyc : n ≤ yc := by have := HXL.out; omega
        subst hy1
        have HBW : Hid (∀ wx, Below w6.heap.size w6 wx → Below w.heap.size w wx) := fun wx hx => HB3.out.trans ((HB6.out.trans (hx.mono HB6.out.size)).mono HB3.out.size)
        clear hown6 hown7 hup huf hYX hy2 hy3 hy4 hy5 hb6 hT5
        go_wp2
        go_loopw [13] (fun s13 wz => ∃ k : Nat, k ≤ n ∧ s13 = .int .i64 k ∧ Below w6.heap.size w6 wz) (fun s13 _ => n - (intOf s13).toNat)
        case atStart => exact ⟨0, Nat.zero_le _, rfl, Below.refl _ _⟩
        case round =>
          obtain ⟨k, hk, rfl, hBr⟩ := hrel
          have HBr : Hid (Below w6.heap.size w6 wr) := hBr
          clear hBr
          by_cases hkn : k < n
          · have hkn' : (k : Int) < (n : Int) := by omega
            have hkX : k < X.length := by have := HXL.out; omega
            obtain rfl := HYA.out (by omega)
            obtain rfl := HXA.out (by omega)
            have HYk : Hid (∀ wx, Below w6.heap.size w6 wx → wx.cell? ⟨yg, yoff + k, none⟩ = some (.string X[k])) := fun wx hx => HYC.out wx hx k hkX
            have HXk : Hid (∀ wx, Below w6.heap.size w6 wx → wx.cell? ⟨xg, xoff + k, none⟩ = some (.string X[k])) := fun wx hx => HXC6.out wx hx k hkX
            obtain ⟨y, hy⟩ : ∃ y, y = X[k] := ⟨_, rfl⟩
            rw [← hy] at HYk HXk
            clear hy
            go_wp2
            refine wp_region_quiet (C := fun wx => Below w6.heap.size w6 wx) (by kernel_rfl) (by kernel_rfl) (HBr.out.drew) ?_
            simp only []
            refine q_value ?_ (by rfl) (fun w hw => ?_) ?_
            rotate_left
            · go_simp
              with_reducible rfl
            simp only [Act.put, List.setIfInBounds_toArray, List.set_cons_zero, List.set_cons_succ]
            refine q_value ?_ (by rfl) (fun w hw => ?_) ?_
            rotate_left
            · go_simp
              with_reducible rfl
            simp only [Act.put, List.setIfInBounds_toArray, List.set_cons_zero, List.set_cons_succ]
            refine q_value ?_ (by rfl) (fun w hw => ?_) ?_
            rotate_left
            · go_simp
              with_reducible rfl
            simp only [Act.put, List.setIfInBounds_toArray, List.set_cons_zero, List.set_cons_succ]
            refine q_value ?_ (by rfl) (fun w hw => ?_) ?_
            rotate_left
            · have hc := HYk.out w hw
              go_simp
              with_reducible rfl
            simp only [Act.put, List.setIfInBounds_toArray, List.set_cons_zero, List.set_cons_succ]
            refine q_value ?_ (by rfl) (fun w hw => ?_) ?_
            rotate_left
            · go_simp
              with_reducible rfl
            simp only [Act.put, List.setIfInBounds_toArray, List.set_cons_zero, List.set_cons_succ]
            refine q_value ?_ (by rfl) (fun w hw => ?_) ?_
            rotate_left
            · go_simp
              with_reducible rfl
            simp only [Act.put, List.setIfInBounds_toArray, List.set_cons_zero, List.set_cons_succ]
            refine q_value ?_ (by rfl) (fun w hw => ?_) ?_
            rotate_left
            · go_simp
              with_reducible rfl
            simp only [Act.put, List.setIfInBounds_toArray, List.set_cons_zero, List.set_cons_succ]
            refine q_value ?_ (by rfl) (fun w hw => ?_) ?_
            rotate_left
            · have hc := HXk.out w hw
              go_simp
              with_reducible rfl
            simp only [Act.put, List.setIfInBounds_toArray, List.set_cons_zero, List.set_cons_succ]
            refine q_value (.bool false) (by rfl) (fun w hw => ?_) ?_
            · go_simp
            simp only [Act.put, List.setIfInBounds_toArray, List.set_cons_zero, List.set_cons_succ]
            refine wpQuiet_nil ?_
            intro wz hw2
            simp only [Exit.then]
            have Hwz : Hid (Below w6.heap.size w6 wz) := hw2
            clear hw2 HBr
            go_wp2
            go_roundw
            case rel => exact ⟨k + 1, by omega, by go_num, Hwz.out⟩
            case measure => simp [intOf]; omega
          · have hkn' : ¬ (k : Int) < (n : Int) := by omega
            have hp := parse_ok ⟨#[49, 46, 48]⟩ wr (by decide)
            rw [parse_10] at hp
            go_wp2_with fail
            refine hp.mono ?_
            rintro e wA ⟨rfl, hbA⟩
            have hc4 : (wA.alloc (.cells (verC twoV) 24)).cell? ⟨wA.heap.size, 4, none⟩ = some (.int .i64 2) := ((Row.new wA (verC twoV) 24).cell 4).trans rfl
            have HBA : Hid (Below w.heap.size w (wA.alloc (.cells (verC twoV) 24))) := HBW.out _ (HBr.out.trans ((hbA.alloc hbA.size _).mono HBr.out.size))
            obtain ⟨wC, hwC⟩ : ∃ x, x = wA.alloc (.cells (verC twoV) 24) := ⟨_, rfl⟩
            have hwC' := hwC.symm
            rw [← hwC] at hc4 HBA
            clear hp hbA hwC
            go_wp2_with (refine wpList_store_new rfl 24 _ _ rfl wA zeroC (verC twoV) 24 rfl wA.heap.size rfl rfl rfl infoVs rfl (verC_one _) ?_; rw [hwC'])
            go_ret
            exact ⟨rfl, HBA.out⟩
end Go.Proofs.YtecbagiionhpjaaDoor
