/- My own work: the document's Sort by contract. -/
import Derived.Test.YtecbagiionhpjaaDoorRS0
import Derived.Test.YtecbagiionhpjaaDoorR4
namespace Go.Proofs.YtecbagiionhpjaaDoor
open Go.RowKit

theorem slice_form {w : World} {B n : Nat} {v : Value} {xs : List Value} (h : w.ownsRow B 9 1 v n xs) : ∃ (a : Option Addr) (g c : Nat), v = .slice a n c ∧ n ≤ c ∧ (0 < n → a = some ⟨g, 0, none⟩) ∧ (a = none → c = 0) ∧ (∀ g', a = some g' → g' = ⟨g, 0, none⟩) ∧ ∀ j, j < n → w.cell? ⟨g, j, none⟩ = xs[j]? := by
  have h' := h
  obtain ⟨hl, ⟨rfl, h0⟩ | ⟨g, cap, cur, rfl, _, hrow, hnc, _, _, _⟩⟩ := h
  · exact ⟨none, 0, 0, by rw [h0], by omega, fun h => absurd h (by omega), fun _ => rfl, (fun _ h => by cases h), fun j hj => absurd hj (by omega)⟩
  · exact ⟨some ⟨g, 0, none⟩, g, cap, rfl, hnc, fun _ => rfl, (fun h => by cases h), (fun _ h => (Option.some.inj h).symm), fun j hj => h'.cellAt j (by omega)⟩
set_option maxRecDepth 40000 in
set_option maxHeartbeats 16000000 in
theorem refSort_ok (L : List ByteArray) (la : Option Addr) (lc : Nat) (w : World) (hL : TxB w (.slice la L.length lc) L w.heap.size) (he : ∀ x ∈ L, x.size ≤ 140737488355328) (hll : L.length ≤ 1000) : Calls Tryd.prog 10 #[.slice la L.length lc] w (SortPost L w) := by
  obtain ⟨a0, b, off, c0, hL1, hL2, hL3, hL5, hL4⟩ := hL.ex
  simp only [Value.slice.injEq] at hL1
  obtain ⟨rfl, _, rfl⟩ := hL1
  have HLA : Hid (0 < L.length → la = some ⟨b, off, none⟩) := fun h => (hL2 h).1
  have HLC : Hid (∀ wx, Below w.heap.size w wx → ∀ i (h : i < L.length), wx.cell? ⟨b, off + i, none⟩ = some (.string L[i])) := fun wx hx i h => (hx.cell (p := ⟨b, off + i, none⟩) (hL2 (by omega)).2).trans (hL4 i h)
  have HE : Hid (∀ x ∈ L, x.size ≤ 140737488355328) := he
  obtain ⟨n, hn⟩ : ∃ n, n = L.length := ⟨_, rfl⟩
  have HN : Hid (n = L.length) := hn
  have hnl : L.length = n := hn.symm
  rw [hnl] at hL3 hll ⊢
  have HW0 : Hid (RsW w w L 0 [] (.slice none 0 0) (.slice none 0 0)) := ⟨by rw [List.take_zero]; exact List.Perm.refl _, List.Pairwise.nil, World.ownsRow_nil _ _ _ _, by rw [List.take_zero]; exact World.ownsRow_nil _ _ _ _, (fun _ h => by cases h), Below.refl _ _⟩
  clear hL hL2 hL4 hL5 hn hnl he
  go_enter Tryd.func10, Tryd.ntmps10
  go_wp2
  go_loopw [3, 4, 5] (fun s3 s4 s5 wq => ∃ (i : Nat) (us : List Ver), i ≤ n ∧ s5 = .int .i64 i ∧ RsW w wq L i us s3 s4) (fun _ _ s5 _ => n - (intOf s5).toNat)
  case atStart => exact ⟨0, [], Nat.zero_le _, rfl, HW0.out⟩
  case round =>
    obtain ⟨i, us, hi, rfl, hR⟩ := hrel
    have HR : Hid (RsW w wr L i us u3 u4) := hR
    clear hR HW0
    by_cases hin : i < n
    · have hin' : (i : Int) < (n : Int) := by omega
      have hiL : i < L.length := by have := HN.out; omega
      obtain rfl := HLA.out (by omega)
      have hli := HLC.out wr HR.out.old i hiL
      have hsz := HE.out L[i] (List.getElem_mem hiL)
      have HTk : Hid (L.take (i + 1) = L.take i ++ [L[i]]) := by show _ = _; rw [List.take_add_one, List.getElem?_eq_getElem hiL]; rfl
      obtain ⟨s, hs⟩ : ∃ s, s = L[i] := ⟨_, rfl⟩
      have HSI : Hid (L[i] = s) := hs.symm
      rw [← hs] at hli hsz HTk
      have hpa := refParse_ok s wr hsz
      clear hs
      cases hp : parseV (vb s) with
      | none =>
        rw [parseE_no hp] at hpa
        obtain ⟨hv0, hr0⟩ := restOf_snoc (L.take i) s hp
        rw [← HTk.out] at hv0 hr0
        have HV0 : Hid (versOf (L.take (i + 1)) = versOf (L.take i)) := hv0
        have HR0 : Hid (restOf (L.take (i + 1)) = restOf (L.take i) ++ [s]) := hr0
        clear hp hv0 hr0
        go_wp2_with fail
        refine hpa.mono ?_
        rintro e w1 ⟨rfl, hb1⟩
        have hR1 : RsW w (w1.alloc (.cells zeroC 29)) L i us u3 u4 := (HR.out.next hb1).next ((Below.refl _ _).alloc (Nat.le_refl _) _)
        have HR1 : Hid (RsW w (w1.alloc (.cells zeroC 29)) L i us u3 u4) := hR1
        have hli1 := HLC.out _ hR1.old i hiL
        rw [HSI.out] at hli1
        clear hpa hb1 hR1 hli
        go_upto_region 7 with (refine wpList_store_new rfl 29 _ _ rfl w1 zeroC (verC zeroV) 29 rfl w1.heap.size rfl rfl rfl infoRs rfl (verC_one _) ?_)
        obtain ⟨w2, hw2⟩ : ∃ x, x = w1.alloc (.cells zeroC 29) := ⟨_, rfl⟩
        rw [← hw2] at HR1 hli1
        rw [show w1.alloc (.cells (verC zeroV) 29) = w2 from hw2.symm]
        have hown : (w2.alloc (.cells #[.string s] 9)).ownsRow w.heap.size 9 1 u4 (restOf (L.take i)).length ((restOf (L.take i)).map Value.string) := own_belowS (RsW.rest HR1.out) ((Below.refl _ _).alloc (Nat.le_refl _) _)
        have hout3 : (w2.alloc (.cells #[.string s] 9)).ownsRow w.heap.size 9 1 u3 us.length (txV us) := own_belowS (RsW.out HR1.out) ((Below.refl _ _).alloc (Nat.le_refl _) _)
        have HO3 : Hid ((w2.alloc (.cells #[.string s] 9)).ownsRow w.heap.size 9 1 u3 us.length (txV us)) := hout3
        have hlow : w.heap.size ≤ w2.heap.size := (RsW.old HR1.out).size
        have hrl : ((restOf (L.take i)).length + 1) * 16 ≤ 140737488355328 := by
          have h1 := versOf_len (L.take i)
          rw [List.length_take] at h1
          omega
        clear hw2 hout3
        go_wp2_with (at_builtin; refine wpList_ap_oneS rfl (some 34) rfl _ _ rfl w.heap.size u4 (restOf (L.take i)).length ((restOf (L.take i)).map Value.string) rfl s rfl w2.heap.size rfl hown rfl hlow hrl ?_; intro v5 w5 ho5 hg5 hb5)
        have HN5 : Hid (RsW w w5 L (i + 1) us u3 v5) := by
          refine ⟨by rw [HV0.out]; exact (RsW.perm HR1.out), RsW.falls HR1.out, own_keepG HO3.out hg5 (fun k hk e => (RsW.sep HR1.out) k hk e), ?_, fun k hk e => ?_, ?_⟩
          · rw [HR0.out, List.length_append, List.map_append]
            exact ho5
          · have h3 := (own_lt HO3.out k hk).2
            rcases hb5 with h | h
            · exact (RsW.sep HR1.out) k hk (h ▸ e)
            · rw [h] at e
              have := Option.some.inj e
              omega
          · have h1 : Below w.heap.size w (w2.alloc (.cells #[.string s] 9)) := (RsW.old HR1.out).alloc hlow _
            exact h1.trans (below_own hg5 h1.size (fun k hk => (own_lt (RsW.rest HR1.out) k hk).1))
        clear ho5 hg5 hb5
        go_roundw
        case rel => exact ⟨i + 1, us, by omega, by go_num, HN5.out⟩
        case measure => simp [intOf]; omega
      | some v =>
        rw [parseE_yes hp] at hpa
        obtain ⟨hv0, hr0⟩ := versOf_snoc (L.take i) s hp
        rw [← HTk.out] at hv0 hr0
        have HV0 : Hid (versOf (L.take (i + 1)) = versOf (L.take i) ++ [v]) := hv0
        have HR0 : Hid (restOf (L.take (i + 1)) = restOf (L.take i)) := hr0
        have HTX : Hid (tx (textV v) = s) := text_of hp
        have HMU : Hid (∀ u ∈ us, parseV (textV u) = some u ∧ (textV u).length ≤ 140737488355328) := fun u hu => by
          have h1 : u ∈ versOf (L.take i) := HR.out.perm.mem_iff.1 hu
          have h2 := parse_vers h1
          have h3 := (mayV_iff u).1 (vers_may h1)
          have h4 := join_small h3
          refine ⟨h2, ?_⟩
          unfold textV
          rw [List.length_append]
          have h5 : (tagT (vb u.tag)).length ≤ 13 := by
            unfold tagT
            split
            · simp
            · rename_i hne
              have h6 := h3.tag.resolve_left hne
              unfold tagB at h6
              simp only [Bool.and_eq_true, decide_eq_true_eq] at h6
              rw [List.length_cons]
              omega
          omega
        clear hp hv0 hr0
        go_wp2_with fail
        refine hpa.mono ?_
        rintro e w1 ⟨rfl, hb1⟩
        have hR2 : RsW w (w1.alloc (.cells (verC v) 29)) L i us u3 u4 := (HR.out.next hb1).next ((Below.refl _ _).alloc (Nat.le_refl _) _)
        have hV2 : Row (w1.alloc (.cells (verC v) 29)) w1.heap.size (verC v) 29 := Row.new _ _ _
        clear hpa hb1 hli
        go_upto_region 8 with (refine wpList_store_new rfl 29 _ _ rfl w1 zeroC (verC v) 29 rfl w1.heap.size rfl rfl rfl infoRs rfl (verC_one _) ?_)
        obtain ⟨w2, hw2⟩ : ∃ x, x = w1.alloc (.cells (verC v) 29) := ⟨_, rfl⟩
        rw [← hw2] at hR2 hV2
        rw [← hw2]
        obtain ⟨k0, hk0⟩ : ∃ k, k = w1.heap.size := ⟨_, rfl⟩
        rw [← hk0] at hV2
        rw [← hk0]
        clear hw2 hk0
        have HR2 : Hid (RsW w w2 L i us u3 u4) := hR2
        have HVB : Hid (∀ wx, Below w2.heap.size w2 wx → Row wx k0 (verC v) 29) := fun wx hx => hV2.below hx hV2.lt
        obtain ⟨oa, og, oc, hu3, hoc, hoa, hon, hoz, hocell⟩ := slice_form hR2.out
        have hogl : 0 < us.length → og < w2.heap.size := fun h => (own_lt hR2.out og (by rw [hu3, hoa h]; rfl)).2
        have HOC : Hid (∀ wx, Below w2.heap.size w2 wx → ∀ j (h : j < us.length), wx.cell? ⟨og, j, none⟩ = some (.string (tx (textV us[j])))) := fun wx hx j h => by
          rw [hx.cell (p := ⟨og, j, none⟩) (hogl (by omega)), hocell j h, List.getElem?_map, List.getElem?_eq_getElem h]
          rfl
        have HOA : Hid (0 < us.length → oa = some ⟨og, 0, none⟩) := hoa
        have HON : Hid (oa = none → oc = 0) := hon
        have HOZ : Hid (∀ g', oa = some g' → g' = ⟨og, 0, none⟩) := hoz
        subst hu3
        obtain ⟨m, hm⟩ : ∃ m, m = us.length := ⟨_, rfl⟩
        have HM : Hid (m = us.length) := hm
        have hmm : us.length = m := hm.symm
        have hml : m ≤ n := by
          have h1 := versOf_len (L.take i)
          have h2 := hR2.perm.length_eq
          rw [List.length_take] at h1
          omega
        rw [hmm] at hoc HR2 ⊢
        clear hR2 hV2 hoa hon hoz hocell hogl hm hmm HR
        go_wp2
        go_loopw [8] (fun s8 wq => ∃ k : Nat, k ≤ m ∧ s8 = .int .i64 k ∧ (∀ j (hj : j < us.length), j < k → 0 ≤ cmpV us[j] v) ∧ Below w2.heap.size w2 wq) (fun s8 _ => m - (intOf s8).toNat)
        case atStart => exact ⟨0, Nat.zero_le _, rfl, fun j _ hj => absurd hj (by omega), Below.refl _ _⟩
        case round =>
          obtain ⟨k, hk, rfl, hge, hB⟩ := hrel
          have HGE : Hid (∀ j (hj : j < us.length), j < k → 0 ≤ cmpV us[j] v) := hge
          have HB : Hid (Below w2.heap.size w2 wr) := hB
          clear hge hB
          by_cases hkm : k < m
          · have hkm' : (k : Int) < (m : Int) := by omega
            have hkU : k < us.length := by have := HM.out; omega
            obtain rfl := HOA.out (by omega)
            have hck := HOC.out wr HB.out k hkU
            obtain ⟨hpu, hpl⟩ := HMU.out us[k] (List.getElem_mem hkU)
            have HUK : Hid (∀ c : Ver, c = us[k] → (¬ cmpV c v < 0 → ∀ j (hj : j < us.length), j < k + 1 → 0 ≤ cmpV us[j] v) ∧ (cmpV c v < 0 → ∀ hk : k < us.length, cmpV us[k] v < 0)) := fun c hc => by
              subst hc
              refine ⟨fun h j hj hjk => ?_, fun h _ => h⟩
              by_cases e : j = k
              · subst e; omega
              · exact HGE.out j hj (by omega)
            obtain ⟨u, hu⟩ : ∃ u, u = us[k] := ⟨_, rfl⟩
            have HU := HUK.out u hu
            rw [← hu] at hck hpu hpl
            have hpk := refParse_ok (tx (textV u)) wr (by rw [tx_size]; exact hpl)
            rw [parseE_yes (by rw [vb_tx]; exact hpu)] at hpk
            obtain ⟨t, ht⟩ : ∃ t, t = tx (textV u) := ⟨_, rfl⟩
            rw [← ht] at hck hpk
            clear hu hpu hpl ht HUK
            have HUH : Hid _ := HU
            clear HU
            go_wp2_with fail
            refine hpk.mono ?_
            rintro e w3 ⟨rfl, hb3⟩
            have hq3 : Below wr.heap.size wr (w3.alloc (.cells (verC u) 29)) := hb3.alloc hb3.size _
            have hB3 : Below w2.heap.size w2 (w3.alloc (.cells (verC u) 29)) := HB.out.trans (hq3.mono HB.out.size)
            have hvb := HVB.out _ hB3
            have hub : Row (w3.alloc (.cells (verC u) 29)) w3.heap.size (verC u) 29 := Row.new _ _ _
            have HB3 : Hid (Below w2.heap.size w2 (w3.alloc (.cells (verC u) 29))) := hB3
            clear hpk hb3 hq3 hck hB3
            go_upto_region 11 with (refine wpList_store_new rfl 29 _ _ rfl w3 zeroC (verC u) 29 rfl w3.heap.size rfl rfl rfl infoRs rfl (verC_one _) ?_)
            obtain ⟨w4, hw4⟩ : ∃ x, x = w3.alloc (.cells (verC u) 29) := ⟨_, rfl⟩
            rw [← hw4] at hvb hub HB3
            rw [← hw4]
            clear hw4
            have hcm := refCompare_ok u v w4
            obtain ⟨cz, hcz⟩ : ∃ c, c = cmpV u v := ⟨_, rfl⟩
            rw [← hcz] at hcm HUH
            clear hcz
            by_cases hc0 : cz < 0
            · have HK2 : Hid (∀ hk : k < us.length, cmpV us[k] v < 0) := HUH.out.2 hc0
              go_upto_region 13 with (first | refine wpList_load_row rfl 29 _ rfl w3.heap.size rfl 29 (verC u) (0, 0) _ hub Tryd.underlying29 rfl infoRs ?_ | refine wpList_load_row rfl 29 _ rfl k0 rfl 29 (verC v) (0, 0) _ hvb Tryd.underlying29 rfl infoRs ?_ | (go_at_call 12; refine hcm.mono ?_; rintro e wz ⟨rfl, hbz⟩))
              have HZ : Hid (Below w2.heap.size w2 wz) := HB3.out.trans (hbz.mono HB3.out.size)
              clear hbz hcm hub hvb
              by_cases hok : oc = k
              · omega
              · have HRz : Hid (RsW w wz L i us (.slice (some ⟨og, 0, none⟩) m oc) u4) := RsW.next HR2.out HZ.out
                have hownz : wz.ownsRow w.heap.size 9 1 (.slice (some ⟨og, 0, none⟩) m oc) m (txV us) := by
                  have h := RsW.out HRz.out
                  rw [← HM.out] at h
                  exact h
                have hown1 := copy_own wz
                have hs1 : wz.heap.size ≤ (wz.alloc (.cells #[] 9)).heap.size := by simp
                have hXl : ((us.drop k).map fun v => tx (textV v)).length = m - k := by rw [List.length_map, List.length_drop, ← HM.out]
                have hcl : ∀ t u, (((us.drop k).map fun v => tx (textV v)).map Value.string)[t]? = some u → (wz.alloc (.cells #[] 9)).cell? ⟨og, k + t, none⟩ = some u := fun t u ht => by
                  have htl : t < m - k := by
                    have := (List.getElem?_eq_some_iff.1 ht).1
                    rw [List.length_map, hXl] at this
                    exact this
                  have hkt : k + t < us.length := by have := HM.out; omega
                  rw [HOC.out _ (HZ.out.alloc HZ.out.size _) (k + t) hkt]
                  rw [List.getElem?_map, List.getElem?_map, List.getElem?_drop, List.getElem?_eq_getElem hkt] at ht
                  exact ht
                have hat : 0 < m - k → ((some ⟨og, k, none⟩) : Option Addr) = some ⟨og, k, none⟩ := fun _ => rfl
                have hnn : ((some ⟨og, k, none⟩) : Option Addr) = none → m - k = 0 ∧ oc - k = 0 := fun h => by cases h
                have HLZ : Hid (Below w.heap.size w wz) := RsW.old HRz.out
                have hkoc : ¬ oc = k := hok
                have hkoc2 : (k : Int) ≤ (oc : Int) := by omega
                have hkoc3 : (k : Int) ≤ (m : Int) := by omega
                go_upto_region 13 with fail
                go_wp2_with (at_builtin; refine wpList_ap_allO rfl (some 57) rfl _ _ rfl wz.heap.size (.slice (some ⟨wz.heap.size, 0, none⟩) 0 0) 0 [] rfl hown1 (some ⟨og, k, none⟩) og k (m - k) (oc - k) ((us.drop k).map fun v => tx (textV v)) hXl rfl hat hnn hcl hs1 (by omega) ?_; intro v6 w6 ho6 hg6)
                have hq6 : Below wz.heap.size wz w6 := ((Below.refl wz.heap.size wz).alloc (Nat.le_refl _) (.cells #[] 9)).trans (below_own hg6 hs1 (fun j hj => by simp only [Value.ownBlock, Option.some.injEq] at hj; omega))
                rw [Nat.zero_add, List.nil_append] at ho6
                have HR6 : Hid (RsW w w6 L i us (.slice (some ⟨og, 0, none⟩) m oc) u4) := RsW.next HRz.out hq6
                have hown6 : w6.ownsRow w.heap.size 9 1 (.slice (some ⟨og, 0, none⟩) m oc) m (txV us) := own_belowS hownz hq6
                obtain ⟨ta, tg, tc, hv6, htc, hta, htn, _, htcell⟩ := slice_form ho6
                have htg : 0 < m - k → wz.heap.size ≤ tg ∧ tg < w6.heap.size := fun h => own_lt ho6 tg (by rw [hv6, hta h]; rfl)
                have hownk := own_take hown6 hk
                have HOGZ : Hid (∀ g, (Value.slice (some ⟨og, 0, none⟩) k oc).ownBlock = some g → g < wz.heap.size) := fun g hg => (own_lt (own_take hownz hk) g hg).2
                subst hv6
                have HB6 : Hid (Below w.heap.size w w6) := RsW.old HR6.out
                have hs67 : Below w6.heap.size w6 (w6.drew.alloc (.cells #[.string s] 9)) := ((Below.refl _ _).drew).alloc (Nat.le_refl _) _
                have hown7 : (w6.drew.alloc (.cells #[.string s] 9)).ownsRow w.heap.size 9 1 (.slice (some ⟨og, 0, none⟩) k oc) k ((txV us).take k) := own_belowS hownk hs67
                have hrest7 : (w6.drew.alloc (.cells #[.string s] 9)).ownsRow w.heap.size 9 1 u4 (restOf (L.take i)).length ((restOf (L.take i)).map Value.string) := own_belowS (RsW.rest HR6.out) hs67
                have HRest : Hid (∀ g, u4.ownBlock = some g → g < w6.heap.size) := fun g hg => (own_lt (RsW.rest HR6.out) g hg).2
                have hsz7 : (w6.drew.alloc (.cells #[.string s] 9)).heap.size = w6.heap.size + 1 := by simp
                have HTC : Hid (∀ j, j < m - k → (w6.drew.alloc (.cells #[.string s] 9)).cell? ⟨tg, j, none⟩ = (((us.drop k).map fun v => tx (textV v)).map Value.string)[j]?) := fun j hj => (hs67.cell (p := ⟨tg, j, none⟩) (htg (by omega)).2).trans (htcell j hj)
                have hkc : (k : Int) ≤ (oc : Int) := by omega
                have HLS6 : Hid (∀ wx, Below w.heap.size w wx → wx.cell? ⟨b, off + i, none⟩ = some (.string s)) := fun wx hx => by rw [← HSI.out]; exact HLC.out wx hx i hiL
                have hlow6 : w.heap.size ≤ w6.heap.size := HB6.out.size
                clear hown1 hcl hs1 hXl hg6 hownz
                refine wp_region_permA [(false, 0), (false, 1), (false, 2), (false, 3), (false, 4), (false, 5), (false, 6), (false, 9), (true, 7), (true, 8), (true, 10), (true, 11)] (fun wx => Below w.heap.size w wx) (by kernel_rfl) (by kernel_rfl) (HB6.out.drew) ?_
                refine a_value (some 58) ?_ rfl rfl (by rfl) (fun w hw => ?_) ?_
                rotate_left
                · go_simp
                  with_reducible rfl
                simp only [Act.put, List.setIfInBounds_toArray, List.set_cons_zero, List.set_cons_succ]
                refine a_value (some 59) ?_ rfl rfl (by rfl) (fun w hw => ?_) ?_
                rotate_left
                · go_simp
                  with_reducible rfl
                simp only [Act.put, List.setIfInBounds_toArray, List.set_cons_zero, List.set_cons_succ]
                refine a_value (some 60) (.slice (some ⟨og, 0, none⟩) k oc) rfl rfl (by rfl) (fun w hw => ?_) ?_
                · go_simp
                simp only [Act.put, List.setIfInBounds_toArray, List.set_cons_zero, List.set_cons_succ]
                refine a_value (some 61) ?_ rfl rfl (by rfl) (fun w hw => ?_) ?_
                rotate_left
                · go_simp
                  with_reducible rfl
                simp only [Act.put, List.setIfInBounds_toArray, List.set_cons_zero, List.set_cons_succ]
                refine a_value (some 62) ?_ rfl rfl (by rfl) (fun w hw => ?_) ?_
                rotate_left
                · go_simp
                  with_reducible rfl
                simp only [Act.put, List.setIfInBounds_toArray, List.set_cons_zero, List.set_cons_succ]
                refine a_value (some 63) ?_ rfl rfl (by rfl) (fun w hw => ?_) ?_
                rotate_left
                · go_simp
                  with_reducible rfl
                simp only [Act.put, List.setIfInBounds_toArray, List.set_cons_zero, List.set_cons_succ]
                refine a_value (some 64) ?_ rfl rfl (by rfl) (fun w hw => ?_) ?_
                rotate_left
                · have hc := HLS6.out w hw
                  go_simp
                  with_reducible rfl
                simp only [Act.put, List.setIfInBounds_toArray, List.set_cons_zero, List.set_cons_succ]
                refine a_value (some 67) ?_ rfl rfl (by rfl) (fun w hw => ?_) ?_
                rotate_left
                · go_simp
                  with_reducible rfl
                simp only [Act.put, List.setIfInBounds_toArray, List.set_cons_zero, List.set_cons_succ]
                obtain ⟨w7, hw7⟩ : ∃ x, x = w6.drew.alloc (.cells #[.string s] 9) := ⟨_, rfl⟩
                have hS7 : Below w.heap.size w w7 := by rw [hw7]; exact (HB6.out.drew).alloc hlow6 _
                refine a_alone (some 65) (.slice (some ⟨w6.heap.size, 0, none⟩) 1 1) w7 rfl rfl (by rfl) (by rw [hw7]; go_simp) hS7 ?_
                simp only [Act.put, List.setIfInBounds_toArray, List.set_cons_zero, List.set_cons_succ]
                have hnew : ∀ j u, [Value.string s][j]? = some u → w7.cell? ⟨w6.heap.size, 0 + j, none⟩ = some u := fun j u hj => by
                  rw [hw7, Nat.zero_add]
                  have hr : Row (w6.drew.alloc (.cells #[.string s] 9)) w6.heap.size #[.string s] 9 := Row.new w6.drew _ _
                  rw [hr.cell j]
                  show ([Value.string s].toArray)[j]? = _
                  rw [List.getElem?_toArray]
                  exact hj
                rw [← hw7] at hown7 hrest7 hsz7 HTC
                refine a_wp rfl (by rfl) ?_
                refine wp_append_any (some 66) rfl (.tmp 60) (.tmp 65) 25 9 (.string ⟨#[]⟩) 1 16 Tryd.underlying25 info9 rfl (by decide) rfl w.heap.size (.slice (some ⟨og, 0, none⟩) k oc) k ((txV us).take k) rfl hown7 (some ⟨w6.heap.size, 0, none⟩) w6.heap.size 0 1 1 [.string s] rfl rfl (fun _ => rfl) hnew (fun u hu => by rw [List.mem_singleton.1 hu]; rfl) (fun h => nomatch h) (by unfold maxLen; omega) (by omega) (by omega) ?_
                intro v8 w8 ho8 hg8 hd8
                have hS8 : Below w.heap.size w w8 := hS7.trans (below_own hg8 hS7.size (fun g hg => (own_lt hown7 g hg).1))
                refine ⟨hS8, ?_⟩
                have htcl : ∀ j u, (((us.drop k).map fun v => tx (textV v)).map Value.string)[j]? = some u → w8.cell? ⟨tg, 0 + j, none⟩ = some u := fun j u hj => by
                  have hjl : j < m - k := by
                    have := (List.getElem?_eq_some_iff.1 hj).1
                    rw [List.length_map, List.length_map, List.length_drop, ← HM.out] at this
                    exact this
                  rw [Nat.zero_add]
                  refine hg8.cell (a := ⟨tg, j, none⟩) ((HTC.out j hjl).trans hj) (fun e => ?_)
                  have h1 := HOGZ.out tg e.symm
                  have := (htg (by omega)).1
                  omega
                have hrest8 : w8.ownsRow w.heap.size 9 1 u4 (restOf (L.take i)).length ((restOf (L.take i)).map Value.string) := own_keepG hrest7 hg8 (fun g hg e => RsW.sep HR6.out g e hg)
                have hd8' : ∀ g, u4.ownBlock = some g → v8.ownBlock ≠ some g := fun g hg e => by
                  have h1 := HRest.out g hg
                  rcases hd8 with h | h
                  · rw [h] at e
                    exact RsW.sep HR6.out g e hg
                  · rw [h] at e
                    have := Option.some.inj e
                    omega
                have hlen8 : (((us.drop k).map fun v => tx (textV v)).map Value.string).length = (m - k) * 1 := by rw [List.length_map, List.length_map, List.length_drop, ← HM.out, Nat.mul_one]
                have htn' : ta = none → m - k = 0 ∧ tc = 0 := fun h => ⟨by have := htn h; omega, htn h⟩
                simp only [Act.put, List.setIfInBounds_toArray, List.set_cons_zero, List.set_cons_succ]
                refine a_wp rfl (by rfl) ?_
                refine wp_append_any (some 68) rfl (.tmp 66) (.tmp 67) 25 9 (.string ⟨#[]⟩) 1 16 Tryd.underlying25 info9 rfl (by decide) rfl w.heap.size v8 (k + 1) ((txV us).take k ++ [.string s]) rfl ho8 ta tg 0 (m - k) tc (((us.drop k).map fun v => tx (textV v)).map Value.string) hlen8 rfl hta htcl (fun u hu => by obtain ⟨z, _, rfl⟩ := List.mem_map.1 hu; rfl) htn' (by unfold maxLen; omega) (by omega) hS8.size ?_
                intro v10 w10 ho10 hg10 hd10
                have hS10 : Below w.heap.size w w10 := hS8.trans (below_own hg10 hS8.size (fun g hg => (own_lt ho8 g hg).1))
                refine ⟨hS10, ?_⟩
                have HFin : Hid (RsW w w10 L (i + 1) (insV us k v) v10 u4) := by
                  refine ⟨by rw [HV0.out]; exact insV_perm k v (RsW.perm HR6.out), insV_falls (RsW.falls HR6.out) HGE.out HK2.out, ?_, ?_, fun g hg e => ?_, hS10⟩
                  · rw [insV_len us k v (by have := HM.out; omega)]
                    have h1 := ho10
                    rw [show k + 1 + (m - k) = us.length + 1 by have := HM.out; omega] at h1
                    rw [show txV (insV us k v) = (txV us).take k ++ [.string s] ++ ((us.drop k).map fun v => tx (textV v)).map Value.string by
                      unfold txV insV
                      rw [List.map_append, List.map_cons, HTX.out, List.map_take, List.map_map, List.append_assoc]
                      rfl]
                    exact h1
                  · rw [HR0.out]
                    exact own_keepG hrest8 hg10 hd8'
                  · have h1 := HRest.out g e
                    rcases hd10 with h | h
                    · rw [h] at hg
                      exact hd8' g e hg
                    · rw [h] at hg
                      have := Option.some.inj hg
                      have := hg8.size
                      omega
                simp only [Act.put, List.setIfInBounds_toArray, List.set_cons_zero, List.set_cons_succ]
                refine a_alone (some 3) v10 w10 rfl rfl (by rfl) (by go_simp) hS10 ?_
                simp only [Act.put, List.setIfInBounds_toArray, List.set_cons_zero, List.set_cons_succ]
                refine a_done ?_
                try simp only [Exit.then]
                clear ho10 hg10 hd10 ho8 hg8 hd8 htcl hrest8 hd8' hlen8 htn' hnew hown7 hrest7 htcell hta htn htg hownk hown6 hq6 ho6 hs67 hS7 hS8 hS10
                go_wp2
                go_roundw
                case rel => exact ⟨i + 1, insV us k v, by omega, by go_num, HFin.out⟩
                case measure => simp [intOf]; omega
            · have HG2 : Hid (∀ j (hj : j < us.length), j < k + 1 → 0 ≤ cmpV us[j] v) := HUH.out.1 (by omega)
              go_wp2_with (first | refine wpList_load_row rfl 29 _ rfl w3.heap.size rfl 29 (verC u) (0, 0) _ hub Tryd.underlying29 rfl infoRs ?_ | refine wpList_load_row rfl 29 _ rfl k0 rfl 29 (verC v) (0, 0) _ hvb Tryd.underlying29 rfl infoRs ?_ | (go_at_call 12; refine hcm.mono ?_; rintro e wz ⟨rfl, hbz⟩))
              go_roundw
              case rel => exact ⟨k + 1, by omega, by go_num, HG2.out, HB3.out.trans (hbz.mono HB3.out.size)⟩
              case measure => simp [intOf]; omega
          · have hkm' : ¬ (k : Int) < (m : Int) := by omega
            have HK2 : Hid (∀ hk : k < us.length, cmpV us[k] v < 0) := fun h => by have := HM.out; omega
            have HZ : Hid (Below w2.heap.size w2 wr) := HB.out
            cases oa with
            | none =>
              have hoc0 : oc = 0 := HON.out rfl
              have hm0 : m = 0 := by
                by_cases h0 : 0 < us.length
                · cases HOA.out h0
                · have := HM.out
                  omega
              obtain rfl : k = 0 := by omega
              subst hoc0 hm0
              have HRz : Hid (RsW w wr L i us (.slice none 0 0) u4) := RsW.next HR2.out HZ.out
              have hownz : wr.ownsRow w.heap.size 9 1 (.slice none 0 0) 0 (txV us) := by
                have h := RsW.out HRz.out
                rw [← HM.out] at h
                exact h
              have hown1 := copy_own wr
              have hs1 : wr.heap.size ≤ (wr.alloc (.cells #[] 9)).heap.size := by simp
              have hXl : ([] : List ByteArray).length = 0 := rfl
              have hcl : ∀ t u, (([] : List ByteArray).map Value.string)[t]? = some u → (wr.alloc (.cells #[] 9)).cell? ⟨og, 0 + t, none⟩ = some u := fun t u ht => by simp at ht
              have HDN : Hid (us.drop 0 = []) := List.drop_of_length_le (by have := HM.out; omega)
              have hat : 0 < 0 → (none : Option Addr) = some ⟨og, 0, none⟩ := fun h => absurd h (by omega)
              have hnn : (none : Option Addr) = none → 0 = 0 ∧ 0 = 0 := fun _ => by omega
              have HLZ : Hid (Below w.heap.size w wr) := RsW.old HRz.out

              go_upto_region 13 with fail
              go_wp2_with (at_builtin; refine wpList_ap_allO rfl (some 57) rfl _ _ rfl wr.heap.size (.slice (some ⟨wr.heap.size, 0, none⟩) 0 0) 0 [] rfl hown1 none og 0 (0) (0) ([] : List ByteArray) hXl rfl hat hnn hcl hs1 (by omega) ?_; intro v6 w6 ho6 hg6)
              have hq6 : Below wr.heap.size wr w6 := ((Below.refl wr.heap.size wr).alloc (Nat.le_refl _) (.cells #[] 9)).trans (below_own hg6 hs1 (fun j hj => by simp only [Value.ownBlock, Option.some.injEq] at hj; omega))
              rw [Nat.zero_add, List.nil_append] at ho6
              have HR6 : Hid (RsW w w6 L i us (.slice none 0 0) u4) := RsW.next HRz.out hq6
              have hown6 : w6.ownsRow w.heap.size 9 1 (.slice none 0 0) 0 (txV us) := own_belowS hownz hq6
              obtain ⟨ta, tg, tc, hv6, htc, hta, htn, _, htcell⟩ := slice_form ho6
              have htg : 0 < 0 → wr.heap.size ≤ tg ∧ tg < w6.heap.size := fun h => own_lt ho6 tg (by rw [hv6, hta h]; rfl)
              have hownk := own_take hown6 hk
              have HOGZ : Hid (∀ g, (Value.slice none 0 0).ownBlock = some g → g < wr.heap.size) := fun g hg => (own_lt (own_take hownz hk) g hg).2
              subst hv6
              have HB6 : Hid (Below w.heap.size w w6) := RsW.old HR6.out
              have hs67 : Below w6.heap.size w6 (w6.drew.alloc (.cells #[.string s] 9)) := ((Below.refl _ _).drew).alloc (Nat.le_refl _) _
              have hown7 : (w6.drew.alloc (.cells #[.string s] 9)).ownsRow w.heap.size 9 1 (.slice none 0 0) 0 ((txV us).take 0) := own_belowS hownk hs67
              have hrest7 : (w6.drew.alloc (.cells #[.string s] 9)).ownsRow w.heap.size 9 1 u4 (restOf (L.take i)).length ((restOf (L.take i)).map Value.string) := own_belowS (RsW.rest HR6.out) hs67
              have HRest : Hid (∀ g, u4.ownBlock = some g → g < w6.heap.size) := fun g hg => (own_lt (RsW.rest HR6.out) g hg).2
              have hsz7 : (w6.drew.alloc (.cells #[.string s] 9)).heap.size = w6.heap.size + 1 := by simp
              have hkc : (0 : Int) ≤ (0 : Int) := by omega
              have HLS6 : Hid (∀ wx, Below w.heap.size w wx → wx.cell? ⟨b, off + i, none⟩ = some (.string s)) := fun wx hx => by rw [← HSI.out]; exact HLC.out wx hx i hiL
              have hlow6 : w.heap.size ≤ w6.heap.size := HB6.out.size
              clear hown1 hcl hs1 hXl hg6 hownz
              refine wp_region_permA [(false, 0), (false, 1), (false, 2), (false, 3), (false, 4), (false, 5), (false, 6), (false, 9), (true, 7), (true, 8), (true, 10), (true, 11)] (fun wx => Below w.heap.size w wx) (by kernel_rfl) (by kernel_rfl) (HB6.out.drew) ?_
              refine a_value (some 58) ?_ rfl rfl (by rfl) (fun w hw => ?_) ?_
              rotate_left
              · go_simp
                with_reducible rfl
              simp only [Act.put, List.setIfInBounds_toArray, List.set_cons_zero, List.set_cons_succ]
              refine a_value (some 59) ?_ rfl rfl (by rfl) (fun w hw => ?_) ?_
              rotate_left
              · go_simp
                with_reducible rfl
              simp only [Act.put, List.setIfInBounds_toArray, List.set_cons_zero, List.set_cons_succ]
              refine a_value (some 60) (.slice none 0 0) rfl rfl (by rfl) (fun w hw => ?_) ?_
              · go_simp
              simp only [Act.put, List.setIfInBounds_toArray, List.set_cons_zero, List.set_cons_succ]
              refine a_value (some 61) ?_ rfl rfl (by rfl) (fun w hw => ?_) ?_
              rotate_left
              · go_simp
                with_reducible rfl
              simp only [Act.put, List.setIfInBounds_toArray, List.set_cons_zero, List.set_cons_succ]
              refine a_value (some 62) ?_ rfl rfl (by rfl) (fun w hw => ?_) ?_
              rotate_left
              · go_simp
                with_reducible rfl
              simp only [Act.put, List.setIfInBounds_toArray, List.set_cons_zero, List.set_cons_succ]
              refine a_value (some 63) ?_ rfl rfl (by rfl) (fun w hw => ?_) ?_
              rotate_left
              · go_simp
                with_reducible rfl
              simp only [Act.put, List.setIfInBounds_toArray, List.set_cons_zero, List.set_cons_succ]
              refine a_value (some 64) ?_ rfl rfl (by rfl) (fun w hw => ?_) ?_
              rotate_left
              · have hc := HLS6.out w hw
                go_simp
                with_reducible rfl
              simp only [Act.put, List.setIfInBounds_toArray, List.set_cons_zero, List.set_cons_succ]
              refine a_value (some 67) ?_ rfl rfl (by rfl) (fun w hw => ?_) ?_
              rotate_left
              · go_simp
                with_reducible rfl
              simp only [Act.put, List.setIfInBounds_toArray, List.set_cons_zero, List.set_cons_succ]
              obtain ⟨w7, hw7⟩ : ∃ x, x = w6.drew.alloc (.cells #[.string s] 9) := ⟨_, rfl⟩
              have hS7 : Below w.heap.size w w7 := by rw [hw7]; exact (HB6.out.drew).alloc hlow6 _
              refine a_alone (some 65) (.slice (some ⟨w6.heap.size, 0, none⟩) 1 1) w7 rfl rfl (by rfl) (by rw [hw7]; go_simp) hS7 ?_
              simp only [Act.put, List.setIfInBounds_toArray, List.set_cons_zero, List.set_cons_succ]
              have hnew : ∀ j u, [Value.string s][j]? = some u → w7.cell? ⟨w6.heap.size, 0 + j, none⟩ = some u := fun j u hj => by
                rw [hw7, Nat.zero_add]
                have hr : Row (w6.drew.alloc (.cells #[.string s] 9)) w6.heap.size #[.string s] 9 := Row.new w6.drew _ _
                rw [hr.cell j]
                show ([Value.string s].toArray)[j]? = _
                rw [List.getElem?_toArray]
                exact hj
              rw [← hw7] at hown7 hrest7 hsz7
              refine a_wp rfl (by rfl) ?_
              refine wp_append_any (some 66) rfl (.tmp 60) (.tmp 65) 25 9 (.string ⟨#[]⟩) 1 16 Tryd.underlying25 info9 rfl (by decide) rfl w.heap.size (.slice none 0 0) 0 ((txV us).take 0) rfl hown7 (some ⟨w6.heap.size, 0, none⟩) w6.heap.size 0 1 1 [.string s] rfl rfl (fun _ => rfl) hnew (fun u hu => by rw [List.mem_singleton.1 hu]; rfl) (fun h => nomatch h) (by unfold maxLen; omega) (by omega) (by omega) ?_
              intro v8 w8 ho8 hg8 hd8
              have hS8 : Below w.heap.size w w8 := hS7.trans (below_own hg8 hS7.size (fun g hg => (own_lt hown7 g hg).1))
              refine ⟨hS8, ?_⟩
              have htcl : ∀ j u, (([] : List ByteArray).map Value.string)[j]? = some u → w8.cell? ⟨tg, 0 + j, none⟩ = some u := fun j u hj => by simp at hj
              have hrest8 : w8.ownsRow w.heap.size 9 1 u4 (restOf (L.take i)).length ((restOf (L.take i)).map Value.string) := own_keepG hrest7 hg8 (fun g hg e => by cases e)
              have hd8' : ∀ g, u4.ownBlock = some g → v8.ownBlock ≠ some g := fun g hg e => by
                have h1 := HRest.out g hg
                rcases hd8 with h | h
                · rw [h] at e
                  exact by cases e
                · rw [h] at e
                  have := Option.some.inj e
                  omega
              have hlen8 : (([] : List ByteArray).map Value.string).length = 0 * 1 := rfl
              have htn' : ta = none → 0 = 0 ∧ tc = 0 := fun h => ⟨by have := htn h; omega, htn h⟩
              simp only [Act.put, List.setIfInBounds_toArray, List.set_cons_zero, List.set_cons_succ]
              refine a_wp rfl (by rfl) ?_
              refine wp_append_any (some 68) rfl (.tmp 66) (.tmp 67) 25 9 (.string ⟨#[]⟩) 1 16 Tryd.underlying25 info9 rfl (by decide) rfl w.heap.size v8 (0 + 1) ((txV us).take 0 ++ [.string s]) rfl ho8 ta tg 0 (0) tc (([] : List ByteArray).map Value.string) hlen8 rfl hta htcl (fun u hu => by obtain ⟨z, _, rfl⟩ := List.mem_map.1 hu; rfl) htn' (by unfold maxLen; omega) (by omega) hS8.size ?_
              intro v10 w10 ho10 hg10 hd10
              have hS10 : Below w.heap.size w w10 := hS8.trans (below_own hg10 hS8.size (fun g hg => (own_lt ho8 g hg).1))
              refine ⟨hS10, ?_⟩
              have HFin : Hid (RsW w w10 L (i + 1) (insV us 0 v) v10 u4) := by
                refine ⟨by rw [HV0.out]; exact insV_perm 0 v (RsW.perm HR6.out), insV_falls (RsW.falls HR6.out) HGE.out HK2.out, ?_, ?_, fun g hg e => ?_, hS10⟩
                · rw [insV_len us 0 v (by have := HM.out; omega)]
                  have h1 := ho10
                  rw [show 0 + 1 + (0) = us.length + 1 by have := HM.out; omega] at h1
                  rw [show txV (insV us 0 v) = (txV us).take 0 ++ [.string s] ++ ([] : List ByteArray).map Value.string by
                    unfold txV insV
                    rw [HDN.out, List.map_append, List.map_cons, HTX.out, List.map_take, List.append_assoc]
                    rfl]
                  exact h1
                · rw [HR0.out]
                  exact own_keepG hrest8 hg10 hd8'
                · have h1 := HRest.out g e
                  rcases hd10 with h | h
                  · rw [h] at hg
                    exact hd8' g e hg
                  · rw [h] at hg
                    have := Option.some.inj hg
                    have := hg8.size
                    omega
              simp only [Act.put, List.setIfInBounds_toArray, List.set_cons_zero, List.set_cons_succ]
              refine a_alone (some 3) v10 w10 rfl rfl (by rfl) (by go_simp) hS10 ?_
              simp only [Act.put, List.setIfInBounds_toArray, List.set_cons_zero, List.set_cons_succ]
              refine a_done ?_
              try simp only [Exit.then]
              clear ho10 hg10 hd10 ho8 hg8 hd8 htcl hrest8 hd8' hlen8 htn' hnew hown7 hrest7 htcell hta htn htg hownk hown6 hq6 ho6 hs67 hS7 hS8 hS10
              go_wp2
              go_roundw
              case rel => exact ⟨i + 1, insV us 0 v, by omega, by go_num, HFin.out⟩
              case measure => simp [intOf]; omega
            | some g0 =>
              obtain rfl := HOZ.out g0 rfl
              by_cases hok : oc = k
              · obtain rfl : m = k := by omega
                subst hok
                have HRz : Hid (RsW w wr L i us (.slice (some ⟨og, 0, none⟩) oc oc) u4) := RsW.next HR2.out HZ.out
                have hownz : wr.ownsRow w.heap.size 9 1 (.slice (some ⟨og, 0, none⟩) oc oc) oc (txV us) := by
                  have h := RsW.out HRz.out
                  rw [← HM.out] at h
                  exact h
                have hown1 := copy_own wr
                have hs1 : wr.heap.size ≤ (wr.alloc (.cells #[] 9)).heap.size := by simp
                have hXl : ([] : List ByteArray).length = 0 := rfl
                have hcl : ∀ t u, (([] : List ByteArray).map Value.string)[t]? = some u → (wr.alloc (.cells #[] 9)).cell? ⟨og, oc + t, none⟩ = some u := fun t u ht => by simp at ht
                have HDN : Hid (us.drop oc = []) := List.drop_of_length_le (by have := HM.out; omega)
                have hat : 0 < 0 → ((some ⟨og, 0, none⟩) : Option Addr) = some ⟨og, oc, none⟩ := fun h => absurd h (by omega)
                have hnn : ((some ⟨og, 0, none⟩) : Option Addr) = none → 0 = 0 ∧ 0 = 0 := fun h => by cases h
                have HLZ : Hid (Below w.heap.size w wr) := RsW.old HRz.out
                have hkm2 : oc = oc := by omega
                go_upto_region 13 with fail
                go_wp2_with (at_builtin; refine wpList_ap_allO rfl (some 57) rfl _ _ rfl wr.heap.size (.slice (some ⟨wr.heap.size, 0, none⟩) 0 0) 0 [] rfl hown1 (some ⟨og, 0, none⟩) og oc (0) (0) ([] : List ByteArray) hXl rfl hat hnn hcl hs1 (by omega) ?_; intro v6 w6 ho6 hg6)
                have hq6 : Below wr.heap.size wr w6 := ((Below.refl wr.heap.size wr).alloc (Nat.le_refl _) (.cells #[] 9)).trans (below_own hg6 hs1 (fun j hj => by simp only [Value.ownBlock, Option.some.injEq] at hj; omega))
                rw [Nat.zero_add, List.nil_append] at ho6
                have HR6 : Hid (RsW w w6 L i us (.slice (some ⟨og, 0, none⟩) oc oc) u4) := RsW.next HRz.out hq6
                have hown6 : w6.ownsRow w.heap.size 9 1 (.slice (some ⟨og, 0, none⟩) oc oc) oc (txV us) := own_belowS hownz hq6
                obtain ⟨ta, tg, tc, hv6, htc, hta, htn, _, htcell⟩ := slice_form ho6
                have htg : 0 < 0 → wr.heap.size ≤ tg ∧ tg < w6.heap.size := fun h => own_lt ho6 tg (by rw [hv6, hta h]; rfl)
                have hownk := own_take hown6 hk
                have HOGZ : Hid (∀ g, (Value.slice (some ⟨og, 0, none⟩) oc oc).ownBlock = some g → g < wr.heap.size) := fun g hg => (own_lt (own_take hownz hk) g hg).2
                subst hv6
                have HB6 : Hid (Below w.heap.size w w6) := RsW.old HR6.out
                have hs67 : Below w6.heap.size w6 (w6.drew.alloc (.cells #[.string s] 9)) := ((Below.refl _ _).drew).alloc (Nat.le_refl _) _
                have hown7 : (w6.drew.alloc (.cells #[.string s] 9)).ownsRow w.heap.size 9 1 (.slice (some ⟨og, 0, none⟩) oc oc) oc ((txV us).take oc) := own_belowS hownk hs67
                have hrest7 : (w6.drew.alloc (.cells #[.string s] 9)).ownsRow w.heap.size 9 1 u4 (restOf (L.take i)).length ((restOf (L.take i)).map Value.string) := own_belowS (RsW.rest HR6.out) hs67
                have HRest : Hid (∀ g, u4.ownBlock = some g → g < w6.heap.size) := fun g hg => (own_lt (RsW.rest HR6.out) g hg).2
                have hsz7 : (w6.drew.alloc (.cells #[.string s] 9)).heap.size = w6.heap.size + 1 := by simp
                have hkc : (oc : Int) ≤ (oc : Int) := by omega
                have HLS6 : Hid (∀ wx, Below w.heap.size w wx → wx.cell? ⟨b, off + i, none⟩ = some (.string s)) := fun wx hx => by rw [← HSI.out]; exact HLC.out wx hx i hiL
                have hlow6 : w.heap.size ≤ w6.heap.size := HB6.out.size
                clear hown1 hcl hs1 hXl hg6 hownz
                refine wp_region_permA [(false, 0), (false, 1), (false, 2), (false, 3), (false, 4), (false, 5), (false, 6), (false, 9), (true, 7), (true, 8), (true, 10), (true, 11)] (fun wx => Below w.heap.size w wx) (by kernel_rfl) (by kernel_rfl) (HB6.out.drew) ?_
                refine a_value (some 58) ?_ rfl rfl (by rfl) (fun w hw => ?_) ?_
                rotate_left
                · go_simp
                  with_reducible rfl
                simp only [Act.put, List.setIfInBounds_toArray, List.set_cons_zero, List.set_cons_succ]
                refine a_value (some 59) ?_ rfl rfl (by rfl) (fun w hw => ?_) ?_
                rotate_left
                · go_simp
                  with_reducible rfl
                simp only [Act.put, List.setIfInBounds_toArray, List.set_cons_zero, List.set_cons_succ]
                refine a_value (some 60) (.slice (some ⟨og, 0, none⟩) oc oc) rfl rfl (by rfl) (fun w hw => ?_) ?_
                · go_simp
                simp only [Act.put, List.setIfInBounds_toArray, List.set_cons_zero, List.set_cons_succ]
                refine a_value (some 61) ?_ rfl rfl (by rfl) (fun w hw => ?_) ?_
                rotate_left
                · go_simp
                  with_reducible rfl
                simp only [Act.put, List.setIfInBounds_toArray, List.set_cons_zero, List.set_cons_succ]
                refine a_value (some 62) ?_ rfl rfl (by rfl) (fun w hw => ?_) ?_
                rotate_left
                · go_simp
                  with_reducible rfl
                simp only [Act.put, List.setIfInBounds_toArray, List.set_cons_zero, List.set_cons_succ]
                refine a_value (some 63) ?_ rfl rfl (by rfl) (fun w hw => ?_) ?_
                rotate_left
                · go_simp
                  with_reducible rfl
                simp only [Act.put, List.setIfInBounds_toArray, List.set_cons_zero, List.set_cons_succ]
                refine a_value (some 64) ?_ rfl rfl (by rfl) (fun w hw => ?_) ?_
                rotate_left
                · have hc := HLS6.out w hw
                  go_simp
                  with_reducible rfl
                simp only [Act.put, List.setIfInBounds_toArray, List.set_cons_zero, List.set_cons_succ]
                refine a_value (some 67) ?_ rfl rfl (by rfl) (fun w hw => ?_) ?_
                rotate_left
                · go_simp
                  with_reducible rfl
                simp only [Act.put, List.setIfInBounds_toArray, List.set_cons_zero, List.set_cons_succ]
                obtain ⟨w7, hw7⟩ : ∃ x, x = w6.drew.alloc (.cells #[.string s] 9) := ⟨_, rfl⟩
                have hS7 : Below w.heap.size w w7 := by rw [hw7]; exact (HB6.out.drew).alloc hlow6 _
                refine a_alone (some 65) (.slice (some ⟨w6.heap.size, 0, none⟩) 1 1) w7 rfl rfl (by rfl) (by rw [hw7]; go_simp) hS7 ?_
                simp only [Act.put, List.setIfInBounds_toArray, List.set_cons_zero, List.set_cons_succ]
                have hnew : ∀ j u, [Value.string s][j]? = some u → w7.cell? ⟨w6.heap.size, 0 + j, none⟩ = some u := fun j u hj => by
                  rw [hw7, Nat.zero_add]
                  have hr : Row (w6.drew.alloc (.cells #[.string s] 9)) w6.heap.size #[.string s] 9 := Row.new w6.drew _ _
                  rw [hr.cell j]
                  show ([Value.string s].toArray)[j]? = _
                  rw [List.getElem?_toArray]
                  exact hj
                rw [← hw7] at hown7 hrest7 hsz7
                refine a_wp rfl (by rfl) ?_
                refine wp_append_any (some 66) rfl (.tmp 60) (.tmp 65) 25 9 (.string ⟨#[]⟩) 1 16 Tryd.underlying25 info9 rfl (by decide) rfl w.heap.size (.slice (some ⟨og, 0, none⟩) oc oc) oc ((txV us).take oc) rfl hown7 (some ⟨w6.heap.size, 0, none⟩) w6.heap.size 0 1 1 [.string s] rfl rfl (fun _ => rfl) hnew (fun u hu => by rw [List.mem_singleton.1 hu]; rfl) (fun h => nomatch h) (by unfold maxLen; omega) (by omega) (by omega) ?_
                intro v8 w8 ho8 hg8 hd8
                have hS8 : Below w.heap.size w w8 := hS7.trans (below_own hg8 hS7.size (fun g hg => (own_lt hown7 g hg).1))
                refine ⟨hS8, ?_⟩
                have htcl : ∀ j u, (([] : List ByteArray).map Value.string)[j]? = some u → w8.cell? ⟨tg, 0 + j, none⟩ = some u := fun j u hj => by simp at hj
                have hrest8 : w8.ownsRow w.heap.size 9 1 u4 (restOf (L.take i)).length ((restOf (L.take i)).map Value.string) := own_keepG hrest7 hg8 (fun g hg e => RsW.sep HR6.out g e hg)
                have hd8' : ∀ g, u4.ownBlock = some g → v8.ownBlock ≠ some g := fun g hg e => by
                  have h1 := HRest.out g hg
                  rcases hd8 with h | h
                  · rw [h] at e
                    exact RsW.sep HR6.out g e hg
                  · rw [h] at e
                    have := Option.some.inj e
                    omega
                have hlen8 : (([] : List ByteArray).map Value.string).length = 0 * 1 := rfl
                have htn' : ta = none → 0 = 0 ∧ tc = 0 := fun h => ⟨by have := htn h; omega, htn h⟩
                simp only [Act.put, List.setIfInBounds_toArray, List.set_cons_zero, List.set_cons_succ]
                refine a_wp rfl (by rfl) ?_
                refine wp_append_any (some 68) rfl (.tmp 66) (.tmp 67) 25 9 (.string ⟨#[]⟩) 1 16 Tryd.underlying25 info9 rfl (by decide) rfl w.heap.size v8 (oc + 1) ((txV us).take oc ++ [.string s]) rfl ho8 ta tg 0 (0) tc (([] : List ByteArray).map Value.string) hlen8 rfl hta htcl (fun u hu => by obtain ⟨z, _, rfl⟩ := List.mem_map.1 hu; rfl) htn' (by unfold maxLen; omega) (by omega) hS8.size ?_
                intro v10 w10 ho10 hg10 hd10
                have hS10 : Below w.heap.size w w10 := hS8.trans (below_own hg10 hS8.size (fun g hg => (own_lt ho8 g hg).1))
                refine ⟨hS10, ?_⟩
                have HFin : Hid (RsW w w10 L (i + 1) (insV us oc v) v10 u4) := by
                  refine ⟨by rw [HV0.out]; exact insV_perm oc v (RsW.perm HR6.out), insV_falls (RsW.falls HR6.out) HGE.out HK2.out, ?_, ?_, fun g hg e => ?_, hS10⟩
                  · rw [insV_len us oc v (by have := HM.out; omega)]
                    have h1 := ho10
                    rw [show oc + 1 + (0) = us.length + 1 by have := HM.out; omega] at h1
                    rw [show txV (insV us oc v) = (txV us).take oc ++ [.string s] ++ ([] : List ByteArray).map Value.string by
                      unfold txV insV
                      rw [HDN.out, List.map_append, List.map_cons, HTX.out, List.map_take, List.append_assoc]
                      rfl]
                    exact h1
                  · rw [HR0.out]
                    exact own_keepG hrest8 hg10 hd8'
                  · have h1 := HRest.out g e
                    rcases hd10 with h | h
                    · rw [h] at hg
                      exact hd8' g e hg
                    · rw [h] at hg
                      have := Option.some.inj hg
                      have := hg8.size
                      omega
                simp only [Act.put, List.setIfInBounds_toArray, List.set_cons_zero, List.set_cons_succ]
                refine a_alone (some 3) v10 w10 rfl rfl (by rfl) (by go_simp) hS10 ?_
                simp only [Act.put, List.setIfInBounds_toArray, List.set_cons_zero, List.set_cons_succ]
                refine a_done ?_
                try simp only [Exit.then]
                clear ho10 hg10 hd10 ho8 hg8 hd8 htcl hrest8 hd8' hlen8 htn' hnew hown7 hrest7 htcell hta htn htg hownk hown6 hq6 ho6 hs67 hS7 hS8 hS10
                go_wp2
                go_roundw
                case rel => exact ⟨i + 1, insV us oc v, by omega, by go_num, HFin.out⟩
                case measure => simp [intOf]; omega
              · have HRz : Hid (RsW w wr L i us (.slice (some ⟨og, 0, none⟩) m oc) u4) := RsW.next HR2.out HZ.out
                have hownz : wr.ownsRow w.heap.size 9 1 (.slice (some ⟨og, 0, none⟩) m oc) m (txV us) := by
                  have h := RsW.out HRz.out
                  rw [← HM.out] at h
                  exact h
                have hown1 := copy_own wr
                have hs1 : wr.heap.size ≤ (wr.alloc (.cells #[] 9)).heap.size := by simp
                have hXl : ((us.drop k).map fun v => tx (textV v)).length = m - k := by rw [List.length_map, List.length_drop, ← HM.out]
                have hcl : ∀ t u, (((us.drop k).map fun v => tx (textV v)).map Value.string)[t]? = some u → (wr.alloc (.cells #[] 9)).cell? ⟨og, k + t, none⟩ = some u := fun t u ht => by
                  have htl : t < m - k := by
                    have := (List.getElem?_eq_some_iff.1 ht).1
                    rw [List.length_map, hXl] at this
                    exact this
                  have hkt : k + t < us.length := by have := HM.out; omega
                  rw [HOC.out _ (HZ.out.alloc HZ.out.size _) (k + t) hkt]
                  rw [List.getElem?_map, List.getElem?_map, List.getElem?_drop, List.getElem?_eq_getElem hkt] at ht
                  exact ht
                have hat : 0 < m - k → ((some ⟨og, k, none⟩) : Option Addr) = some ⟨og, k, none⟩ := fun _ => rfl
                have hnn : ((some ⟨og, k, none⟩) : Option Addr) = none → m - k = 0 ∧ oc - k = 0 := fun h => by cases h
                have HLZ : Hid (Below w.heap.size w wr) := RsW.old HRz.out
                have hkoc : ¬ oc = k := hok
                have hkoc2 : (k : Int) ≤ (oc : Int) := by omega
                have hkoc3 : (k : Int) ≤ (m : Int) := by omega
                go_upto_region 13 with fail
                go_wp2_with (at_builtin; refine wpList_ap_allO rfl (some 57) rfl _ _ rfl wr.heap.size (.slice (some ⟨wr.heap.size, 0, none⟩) 0 0) 0 [] rfl hown1 (some ⟨og, k, none⟩) og k (m - k) (oc - k) ((us.drop k).map fun v => tx (textV v)) hXl rfl hat hnn hcl hs1 (by omega) ?_; intro v6 w6 ho6 hg6)
                have hq6 : Below wr.heap.size wr w6 := ((Below.refl wr.heap.size wr).alloc (Nat.le_refl _) (.cells #[] 9)).trans (below_own hg6 hs1 (fun j hj => by simp only [Value.ownBlock, Option.some.injEq] at hj; omega))
                rw [Nat.zero_add, List.nil_append] at ho6
                have HR6 : Hid (RsW w w6 L i us (.slice (some ⟨og, 0, none⟩) m oc) u4) := RsW.next HRz.out hq6
                have hown6 : w6.ownsRow w.heap.size 9 1 (.slice (some ⟨og, 0, none⟩) m oc) m (txV us) := own_belowS hownz hq6
                obtain ⟨ta, tg, tc, hv6, htc, hta, htn, _, htcell⟩ := slice_form ho6
                have htg : 0 < m - k → wr.heap.size ≤ tg ∧ tg < w6.heap.size := fun h => own_lt ho6 tg (by rw [hv6, hta h]; rfl)
                have hownk := own_take hown6 hk
                have HOGZ : Hid (∀ g, (Value.slice (some ⟨og, 0, none⟩) k oc).ownBlock = some g → g < wr.heap.size) := fun g hg => (own_lt (own_take hownz hk) g hg).2
                subst hv6
                have HB6 : Hid (Below w.heap.size w w6) := RsW.old HR6.out
                have hs67 : Below w6.heap.size w6 (w6.drew.alloc (.cells #[.string s] 9)) := ((Below.refl _ _).drew).alloc (Nat.le_refl _) _
                have hown7 : (w6.drew.alloc (.cells #[.string s] 9)).ownsRow w.heap.size 9 1 (.slice (some ⟨og, 0, none⟩) k oc) k ((txV us).take k) := own_belowS hownk hs67
                have hrest7 : (w6.drew.alloc (.cells #[.string s] 9)).ownsRow w.heap.size 9 1 u4 (restOf (L.take i)).length ((restOf (L.take i)).map Value.string) := own_belowS (RsW.rest HR6.out) hs67
                have HRest : Hid (∀ g, u4.ownBlock = some g → g < w6.heap.size) := fun g hg => (own_lt (RsW.rest HR6.out) g hg).2
                have hsz7 : (w6.drew.alloc (.cells #[.string s] 9)).heap.size = w6.heap.size + 1 := by simp
                have HTC : Hid (∀ j, j < m - k → (w6.drew.alloc (.cells #[.string s] 9)).cell? ⟨tg, j, none⟩ = (((us.drop k).map fun v => tx (textV v)).map Value.string)[j]?) := fun j hj => (hs67.cell (p := ⟨tg, j, none⟩) (htg (by omega)).2).trans (htcell j hj)
                have hkc : (k : Int) ≤ (oc : Int) := by omega
                have HLS6 : Hid (∀ wx, Below w.heap.size w wx → wx.cell? ⟨b, off + i, none⟩ = some (.string s)) := fun wx hx => by rw [← HSI.out]; exact HLC.out wx hx i hiL
                have hlow6 : w.heap.size ≤ w6.heap.size := HB6.out.size
                clear hown1 hcl hs1 hXl hg6 hownz
                refine wp_region_permA [(false, 0), (false, 1), (false, 2), (false, 3), (false, 4), (false, 5), (false, 6), (false, 9), (true, 7), (true, 8), (true, 10), (true, 11)] (fun wx => Below w.heap.size w wx) (by kernel_rfl) (by kernel_rfl) (HB6.out.drew) ?_
                refine a_value (some 58) ?_ rfl rfl (by rfl) (fun w hw => ?_) ?_
                rotate_left
                · go_simp
                  with_reducible rfl
                simp only [Act.put, List.setIfInBounds_toArray, List.set_cons_zero, List.set_cons_succ]
                refine a_value (some 59) ?_ rfl rfl (by rfl) (fun w hw => ?_) ?_
                rotate_left
                · go_simp
                  with_reducible rfl
                simp only [Act.put, List.setIfInBounds_toArray, List.set_cons_zero, List.set_cons_succ]
                refine a_value (some 60) (.slice (some ⟨og, 0, none⟩) k oc) rfl rfl (by rfl) (fun w hw => ?_) ?_
                · go_simp
                simp only [Act.put, List.setIfInBounds_toArray, List.set_cons_zero, List.set_cons_succ]
                refine a_value (some 61) ?_ rfl rfl (by rfl) (fun w hw => ?_) ?_
                rotate_left
                · go_simp
                  with_reducible rfl
                simp only [Act.put, List.setIfInBounds_toArray, List.set_cons_zero, List.set_cons_succ]
                refine a_value (some 62) ?_ rfl rfl (by rfl) (fun w hw => ?_) ?_
                rotate_left
                · go_simp
                  with_reducible rfl
                simp only [Act.put, List.setIfInBounds_toArray, List.set_cons_zero, List.set_cons_succ]
                refine a_value (some 63) ?_ rfl rfl (by rfl) (fun w hw => ?_) ?_
                rotate_left
                · go_simp
                  with_reducible rfl
                simp only [Act.put, List.setIfInBounds_toArray, List.set_cons_zero, List.set_cons_succ]
                refine a_value (some 64) ?_ rfl rfl (by rfl) (fun w hw => ?_) ?_
                rotate_left
                · have hc := HLS6.out w hw
                  go_simp
                  with_reducible rfl
                simp only [Act.put, List.setIfInBounds_toArray, List.set_cons_zero, List.set_cons_succ]
                refine a_value (some 67) ?_ rfl rfl (by rfl) (fun w hw => ?_) ?_
                rotate_left
                · go_simp
                  with_reducible rfl
                simp only [Act.put, List.setIfInBounds_toArray, List.set_cons_zero, List.set_cons_succ]
                obtain ⟨w7, hw7⟩ : ∃ x, x = w6.drew.alloc (.cells #[.string s] 9) := ⟨_, rfl⟩
                have hS7 : Below w.heap.size w w7 := by rw [hw7]; exact (HB6.out.drew).alloc hlow6 _
                refine a_alone (some 65) (.slice (some ⟨w6.heap.size, 0, none⟩) 1 1) w7 rfl rfl (by rfl) (by rw [hw7]; go_simp) hS7 ?_
                simp only [Act.put, List.setIfInBounds_toArray, List.set_cons_zero, List.set_cons_succ]
                have hnew : ∀ j u, [Value.string s][j]? = some u → w7.cell? ⟨w6.heap.size, 0 + j, none⟩ = some u := fun j u hj => by
                  rw [hw7, Nat.zero_add]
                  have hr : Row (w6.drew.alloc (.cells #[.string s] 9)) w6.heap.size #[.string s] 9 := Row.new w6.drew _ _
                  rw [hr.cell j]
                  show ([Value.string s].toArray)[j]? = _
                  rw [List.getElem?_toArray]
                  exact hj
                rw [← hw7] at hown7 hrest7 hsz7 HTC
                refine a_wp rfl (by rfl) ?_
                refine wp_append_any (some 66) rfl (.tmp 60) (.tmp 65) 25 9 (.string ⟨#[]⟩) 1 16 Tryd.underlying25 info9 rfl (by decide) rfl w.heap.size (.slice (some ⟨og, 0, none⟩) k oc) k ((txV us).take k) rfl hown7 (some ⟨w6.heap.size, 0, none⟩) w6.heap.size 0 1 1 [.string s] rfl rfl (fun _ => rfl) hnew (fun u hu => by rw [List.mem_singleton.1 hu]; rfl) (fun h => nomatch h) (by unfold maxLen; omega) (by omega) (by omega) ?_
                intro v8 w8 ho8 hg8 hd8
                have hS8 : Below w.heap.size w w8 := hS7.trans (below_own hg8 hS7.size (fun g hg => (own_lt hown7 g hg).1))
                refine ⟨hS8, ?_⟩
                have htcl : ∀ j u, (((us.drop k).map fun v => tx (textV v)).map Value.string)[j]? = some u → w8.cell? ⟨tg, 0 + j, none⟩ = some u := fun j u hj => by
                  have hjl : j < m - k := by
                    have := (List.getElem?_eq_some_iff.1 hj).1
                    rw [List.length_map, List.length_map, List.length_drop, ← HM.out] at this
                    exact this
                  rw [Nat.zero_add]
                  refine hg8.cell (a := ⟨tg, j, none⟩) ((HTC.out j hjl).trans hj) (fun e => ?_)
                  have h1 := HOGZ.out tg e.symm
                  have := (htg (by omega)).1
                  omega
                have hrest8 : w8.ownsRow w.heap.size 9 1 u4 (restOf (L.take i)).length ((restOf (L.take i)).map Value.string) := own_keepG hrest7 hg8 (fun g hg e => RsW.sep HR6.out g e hg)
                have hd8' : ∀ g, u4.ownBlock = some g → v8.ownBlock ≠ some g := fun g hg e => by
                  have h1 := HRest.out g hg
                  rcases hd8 with h | h
                  · rw [h] at e
                    exact RsW.sep HR6.out g e hg
                  · rw [h] at e
                    have := Option.some.inj e
                    omega
                have hlen8 : (((us.drop k).map fun v => tx (textV v)).map Value.string).length = (m - k) * 1 := by rw [List.length_map, List.length_map, List.length_drop, ← HM.out, Nat.mul_one]
                have htn' : ta = none → m - k = 0 ∧ tc = 0 := fun h => ⟨by have := htn h; omega, htn h⟩
                simp only [Act.put, List.setIfInBounds_toArray, List.set_cons_zero, List.set_cons_succ]
                refine a_wp rfl (by rfl) ?_
                refine wp_append_any (some 68) rfl (.tmp 66) (.tmp 67) 25 9 (.string ⟨#[]⟩) 1 16 Tryd.underlying25 info9 rfl (by decide) rfl w.heap.size v8 (k + 1) ((txV us).take k ++ [.string s]) rfl ho8 ta tg 0 (m - k) tc (((us.drop k).map fun v => tx (textV v)).map Value.string) hlen8 rfl hta htcl (fun u hu => by obtain ⟨z, _, rfl⟩ := List.mem_map.1 hu; rfl) htn' (by unfold maxLen; omega) (by omega) hS8.size ?_
                intro v10 w10 ho10 hg10 hd10
                have hS10 : Below w.heap.size w w10 := hS8.trans (below_own hg10 hS8.size (fun g hg => (own_lt ho8 g hg).1))
                refine ⟨hS10, ?_⟩
                have HFin : Hid (RsW w w10 L (i + 1) (insV us k v) v10 u4) := by
                  refine ⟨by rw [HV0.out]; exact insV_perm k v (RsW.perm HR6.out), insV_falls (RsW.falls HR6.out) HGE.out HK2.out, ?_, ?_, fun g hg e => ?_, hS10⟩
                  · rw [insV_len us k v (by have := HM.out; omega)]
                    have h1 := ho10
                    rw [show k + 1 + (m - k) = us.length + 1 by have := HM.out; omega] at h1
                    rw [show txV (insV us k v) = (txV us).take k ++ [.string s] ++ ((us.drop k).map fun v => tx (textV v)).map Value.string by
                      unfold txV insV
                      rw [List.map_append, List.map_cons, HTX.out, List.map_take, List.map_map, List.append_assoc]
                      rfl]
                    exact h1
                  · rw [HR0.out]
                    exact own_keepG hrest8 hg10 hd8'
                  · have h1 := HRest.out g e
                    rcases hd10 with h | h
                    · rw [h] at hg
                      exact hd8' g e hg
                    · rw [h] at hg
                      have := Option.some.inj hg
                      have := hg8.size
                      omega
                simp only [Act.put, List.setIfInBounds_toArray, List.set_cons_zero, List.set_cons_succ]
                refine a_alone (some 3) v10 w10 rfl rfl (by rfl) (by go_simp) hS10 ?_
                simp only [Act.put, List.setIfInBounds_toArray, List.set_cons_zero, List.set_cons_succ]
                refine a_done ?_
                try simp only [Exit.then]
                clear ho10 hg10 hd10 ho8 hg8 hd8 htcl hrest8 hd8' hlen8 htn' hnew hown7 hrest7 htcell hta htn htg hownk hown6 hq6 ho6 hs67 hS7 hS8 hS10
                go_wp2
                go_roundw
                case rel => exact ⟨i + 1, insV us k v, by omega, by go_num, HFin.out⟩
                case measure => simp [intOf]; omega
    · have hin' : ¬ (i : Int) < (n : Int) := by omega
      have hall : L.take i = L := List.take_of_length_le (by have := HN.out; omega)
      have hout := HR.out.out
      have hrest := HR.out.rest
      obtain ⟨ra, rg, rc, hru4, hrc, hra, hrn, _, hrcell⟩ := slice_form hrest
      have hRl : (restOf (L.take i)).length + us.length ≤ 1000 := by
        have h1 := versOf_len (L.take i)
        have h2 := HR.out.perm.length_eq
        rw [List.length_take] at h1
        omega
      have HOLD := HR.out.old.size
      subst hru4
      have hcl : ∀ t u, ((restOf (L.take i)).map Value.string)[t]? = some u → wr.cell? ⟨rg, 0 + t, none⟩ = some u := fun t u ht => by
        have htl : t < (restOf (L.take i)).length := by simpa using (List.getElem?_eq_some_iff.1 ht).1
        rw [Nat.zero_add, hrcell t htl]
        exact ht
      have hrn' : ra = none → (restOf (L.take i)).length = 0 ∧ rc = 0 := fun h => by
        have := hrn h
        exact ⟨by omega, this⟩
      go_wp2_with (at_builtin; refine wpList_ap_allO rfl (some 71) rfl _ _ rfl w.heap.size u3 us.length (txV us) rfl hout ra rg 0 (restOf (L.take i)).length rc (restOf (L.take i)) rfl rfl hra hrn' hcl HOLD (by omega) ?_; intro v5 w5 ho5 hg5)
      go_ret
      refine ⟨us, v5, rfl, ?_, HR.out.falls, ?_, HR.out.old.trans (below_own hg5 HOLD (fun k hk => (own_lt hout k hk).1))⟩
      · have := HR.out.perm
        rw [hall] at this
        exact this
      · rw [hall] at ho5
        have h1 := versOf_len L
        have h2 := HR.out.perm.length_eq
        rw [hall] at h2
        rw [List.map_append, List.map_map, show L.length = us.length + (restOf L).length by omega]
        exact ho5
end Go.Proofs.YtecbagiionhpjaaDoor
