/- My own work: the walk of the law ArchiveHolds. -/
import Derived.Test.YtimiginpdkokiaaDoorLeaf
namespace Go.Proofs.YtimiginpdkokiaaDoor
open Go.RowKit

set_option maxRecDepth 20000 in
set_option maxHeartbeats 8000000 in
theorem law_holds_short_n (d : ByteArray) (t : Int) (a : Option Addr) (c : Nat) (w : World) (hG : GH w) (hd : BytesAt w a d c) (hs : d.size ≤ 3000) : Calls Tryd.prog 6 #[.slice a d.size c, .bool false, .int .i64 t] w fun e w' => e = .returned (.bool true) ∧ Below w.heap.size w w' := by
  have hcd : d.size ≤ c := hd.le
  have hcm : c ≤ 9223372036854775807 := by have := hd.cap; unfold maxLen at this; omega
  have hDs : d.size = d.size := rfl
  have hdD := hd
  have hgt : ¬ (3000 : Int) < (d.size : Int) := by omega
  obtain ⟨N, hN⟩ : ∃ N, N = fileN false d := ⟨_, rfl⟩
  have hN0 : rightE N = 0 := by rw [hN]; exact file_right _ _ (by omega)
  have hNl : (encA N).length = 112 + (d.size + 7) / 8 * 8 + 0 := by rw [hN, file_len, hDs]; rfl
  have hNc : N.count ≤ 16000 := by have := (rightE_cen hN0).2; omega
  have hNA : NodeAt w N (nodeV 1 false a d.size c none 0 0 none 0 0) := by
    have := file_at false hdD
    rw [hDs, ← hN] at this
    exact this
  obtain ⟨NV, hNV⟩ : ∃ NV, NV = nodeV 1 false a d.size c none 0 0 none 0 0 := ⟨_, rfl⟩
  rw [← hNV] at hNA
  have h5 := hNA.size
  have hC1 := hNA.one
  have hCi : (Tryd.prog.info? 26).map (·.size) = some NV.size := by rw [infoN, h5]
  have hba : Below w.heap.size w (w.alloc (.cells NV 26)) := (Below.refl _ _).alloc (Nat.le_refl _) _
  have hRn : Row (w.alloc (.cells NV 26)) w.heap.size NV 26 := Row.new w NV _
  have HEN : Hid (Calls Tryd.prog 8 #[.agg NV] (w.alloc (.cells NV 26)) fun e w' => EncPost N (w.alloc (.cells NV 26)) e w') := encode_ok N _ NV (hNA.keep hba) hNc
  have HBa : Hid (Below w.heap.size w (w.alloc (.cells NV 26))) := hba
  have HNA : Hid (∀ wx, Below w.heap.size w wx → NodeAt wx N NV) := fun wx hx => hNA.keep hx
  have HG : Hid (∀ wx, Below w.heap.size w wx → GH wx) := fun wx hx => hG.below hx
  have HRn : Hid (Row (w.alloc (.cells NV 26)) w.heap.size NV 26) := hRn
  obtain ⟨q, hq⟩ : ∃ q : Nat, q = (d.size + 7) / 8 := ⟨_, rfl⟩
  obtain ⟨L, hL⟩ : ∃ L, L = (encA N).length := ⟨_, rfl⟩
  rw [← hL, ← hq] at hNl
  have hqb : q ≤ 376 := by omega
  have hq2 : ((d.size : Int) + 7).tdiv 8 = (q : Int) := by
    rw [Int.tdiv_eq_ediv_of_nonneg (by omega)]
    omega
  have hLs : (96 : Int) + (q : Int) * 8 + 16 = (L : Int) := by omega
  have hLp : 0 < L := by omega
  have hLb : L ≤ 4000 := by omega
  obtain ⟨r, k, hr1, hr2, hr3, hk1, hk2⟩ := at_place t L hLp
  have hkq := int_quo k
  have hkr := int_rem k
  obtain ⟨m, hm⟩ : ∃ m, m = k / 8 := ⟨_, rfl⟩
  obtain ⟨j, hj⟩ : ∃ j, j = k % 8 := ⟨_, rfl⟩
  rw [← hm] at hkq
  rw [← hj] at hkr
  have hmL : m < L := by omega
  have hj8 : j < 8 := by omega
  have hpw := pow_tab j hj8
  have HL : Hid (L = (encA N).length) := hL
  have HN0 : Hid (rightE N = 0) := hN0
  have HNV : Hid (NV = nodeV 1 false a d.size c none 0 0 none 0 0) := hNV
  have HM : Hid (m = k / 8) := hm
  have HJ : Hid (j = k % 8) := hj
  clear hd hG hN hN0 hNA hba hL hm hj hNV hdD hNc hq hDs hNl
  go_enter Tryd.func6, Tryd.ntmps6
  go_wp2_with (first
    | refine wpList_store_new rfl 26 _ _ rfl w _ NV 26 rfl w.heap.size rfl rfl (by rw [HNV.out]; rfl) hCi h5.symm hC1 ?_
    | refine wpList_load_row rfl 26 _ rfl w.heap.size rfl 26 NV (0, 0) _ hRn Tryd.underlying26 rfl hCi ?_)
  generalize w.alloc (.cells NV 26) = wB at *
  refine Calls.mono HEN.out ?_
  clear HEN hRn HNV
  intro er w4 hp4
  obtain ⟨hb4, ⟨hne4, _⟩ | ⟨_, a4, c4, rfl, hbf4⟩⟩ := encOut hp4
  · exact absurd HN0.out hne4
  obtain ⟨b4, hin4, _⟩ := inB_buf hbf4
  have h4a := hin4.at'
  rw [← HL.out] at h4a
  obtain rfl := h4a hLp
  have hle4 := hin4.le
  have hcm4 := hin4.cm
  rw [← HL.out] at hle4 hbf4
  rw [← HL.out]
  have HB4 : Hid (Below w.heap.size w w4) := HBa.out.trans (hb4.mono HBa.out.size)
  have HR4 : Hid (Row w4 w.heap.size NV 26) := HRn.out.below hb4 HRn.out.lt
  have hb5 : Below w4.heap.size w4 (w4.alloc (.cells #[] 5)) := (Below.refl _ _).alloc (Nat.le_refl _) _
  have HB5 : Hid (Below w4.heap.size w4 (w4.alloc (.cells #[] 5))) := hb5
  have HEm : Hid (Buf (w4.alloc (.cells #[] 5)) w4.heap.size (.slice (some ⟨w4.heap.size, 0, none⟩) 0 0) []) := own_empty w4 5 1 w4.heap.size (Nat.le_refl _)
  have HC : Hid (∀ j u, (u8s (encA N))[j]? = some u → (w4.alloc (.cells #[] 5)).cell? ((⟨b4, 0, none⟩ : Addr).add j) = some u) := fun j u hj => by
    have hjl : j < (encA N).length := by have := (List.getElem?_eq_some_iff.1 hj).1; rw [u8s_length] at this; exact this
    have hc := hin4.cell j hjl
    have ha : (⟨b4, 0, none⟩ : Addr).add j = ⟨b4, 0 + j, none⟩ := by unfold Addr.add; split <;> simp_all
    rw [ha, World.cell?_of_block (w := w4) (hb5.block b4 (World.block_lt_of_cell? w4 _ hc)), hc, ← hj]
    unfold u8s fU
    rw [List.getElem?_map, List.getElem?_eq_getElem hjl]
    rfl
  have hsz : w4.heap.size ≤ (w4.alloc (.cells #[] 5)).heap.size := hb5.size
  have hY : L = (encA N).length := HL.out
  have HLN : Hid (([] : List UInt8).length + (encA N).length ≤ 140737488355328) := by show _ ≤ _; rw [← HL.out]; simp only [List.length_nil]; omega
  clear hp4 hb4 hbf4 hin4 h4a hb5 HBa HRn
  obtain ⟨Y, hYd⟩ : ∃ Y, Y = encA N := ⟨_, rfl⟩
  rw [← hYd] at HC HLN hY
  have HYD : Hid (Y = encA N) := hYd
  have HYL : Hid (Y.length = L) := hY.symm
  clear hYd HL hY
  go_wp2_with (refine ap_slice rfl _ _ rfl w4.heap.size _ [] rfl HEm.out ⟨b4, 0, none⟩ c4 Y (by rw [HYL.out]; rfl) HC.out HLN.out hsz ?_)
  intro v w6 hm6
  have hbf6 : Buf w6 w4.heap.size v Y := hm6.buf
  obtain ⟨a6, c6, rfl⟩ := own_slice hbf6
  obtain ⟨g6, hin6, hg6⟩ := inB_buf hbf6
  have h6a := hin6.at' (by rw [HYL.out]; exact hLp)
  subst h6a
  have hle6 := hin6.le
  have hcm6 := hin6.cm
  rw [HYL.out] at hle6
  have hcell := hin6.cell m (by rw [HYL.out]; exact hmL)
  rw [Nat.zero_add] at hcell
  have hxb := fU_bd Y m
  obtain ⟨x, hx⟩ : ∃ x, x = fU Y m := ⟨_, rfl⟩
  rw [← hx] at hcell hxb
  have hfl := flip_ne x hxb.1 hxb.2 j hj8
  obtain ⟨z, hz⟩ : ∃ z, z = bits .xor .u8 x (2 ^ j) := ⟨_, rfl⟩
  have hzz := hz.symm
  rw [← hz] at hfl
  obtain ⟨X', hX'l, hX'n, hin7⟩ := inB_set HYL.out hmL hfl.2.1 hfl.2.2 (by rw [← hx]; exact hfl.1) (by rw [← HYL.out]; exact hbf6)
  have HB46 : Hid (Below w4.heap.size w4 w6) := HB5.out.trans (hm6.below HEm.out hsz)
  have hge6 : w4.heap.size ≤ g6 := hg6 (by rw [HYL.out]; exact hLp)
  have hb47 : Below w4.heap.size w4 (w6.setCell ⟨g6, m, none⟩ (.int .u8 z)) := HB46.out.setCell hge6 _
  have HB7 : Hid (Below w.heap.size w (w6.setCell ⟨g6, m, none⟩ (.int .u8 z))) := HB4.out.trans (hb47.mono HB4.out.size)
  have HR7 : Hid (Row (w6.setCell ⟨g6, m, none⟩ (.int .u8 z)) w.heap.size NV 26) := HR4.out.below hb47 HR4.out.lt
  have HD7 : Hid (Calls Tryd.prog 13 #[.slice (some ⟨g6, 0, none⟩) L c6] (w6.setCell ⟨g6, m, none⟩ (.int .u8 z)) fun r w' => DecPost X' (w6.setCell ⟨g6, m, none⟩ (.int .u8 z)) r w') := by
    have := decode_ok X' (some ⟨g6, 0, none⟩) g6 0 c6 (w6.setCell ⟨g6, m, none⟩ (.int .u8 z)) (HG.out _ HB7.out) hin7
    show Calls _ _ _ _ _
    rw [← hX'l]
    exact this
  have HNE : Hid (X' ≠ encA N) := by show _ ≠ _; rw [← HYD.out]; exact hX'n
  have hfr : w6.frozen? ⟨g6, m, none⟩ = false := by
    obtain ⟨_, _, _, _, cur, hr, _⟩ := ownsRow_cells hbf6
    exact hr.frozen m
  rw [HYL.out]
  have hz1 := hfl.2.1
  have hz2 := hfl.2.2
  have hmL' : (m : Int) < (L : Int) := by omega
  have hj8' : (j : Int) < 8 := by omega
  have hk2' : (k : Int) < 8 * (L : Int) := by omega
  clear hm6 hbf6 hin6 hin7 hg6 hx hz hfl hX'l hX'n hb47 HB46 HR4 HB4 HB5 HEm HC HLN hsz HG HYD HYL hge6 hle4 hcm4
  go_wp2_with fail
  generalize w6.setCell ⟨g6, m, none⟩ (.int .u8 z) = w7 at *
  refine Calls.mono HD7.out ?_
  clear HD7 hfr hcell hzz hpw
  intro er w8 hp8
  obtain ⟨hb8, ⟨e8, he8, rfl⟩ | ⟨y, Cy, hXy, hy0, _, rfl, hy⟩⟩ := decAny hp8
  · have hba : Below w8.heap.size w8 (w8.alloc (.cells node0 26)) := (Below.refl _ _).alloc (Nat.le_refl _) _
    have HS : Hid (Below w.heap.size w (w8.alloc (.cells node0 26))) := HB7.out.trans ((hb8.trans (hba.mono hb8.size)).mono HB7.out.size)
    clear hp8 hb8 hba
    go_wp2_with (refine wpList_store_new rfl 26 _ _ rfl w8 _ node0 26 rfl w8.heap.size rfl rfl rfl info0 rfl node0_one ?_)
    go_ret
    exact ⟨rfl, HS.out⟩
  · have h5y := hy.at'.size
    have hC1y := hy.at'.one
    have hCiy : (Tryd.prog.info? 26).map (·.size) = some Cy.size := by rw [infoN, h5y]
    have hba : Below w8.heap.size w8 (w8.alloc (.cells Cy 26)) := (Below.refl _ _).alloc (Nat.le_refl _) _
    have hb78 : Below w7.heap.size w7 (w8.alloc (.cells Cy 26)) := hb8.trans (hba.mono hb8.size)
    have hS : Below w.heap.size w (w8.alloc (.cells Cy 26)) := HB7.out.trans (hb78.mono HB7.out.size)
    have HS : Hid (Below w.heap.size w (w8.alloc (.cells Cy 26))) := hS
    have hRy : Row (w8.alloc (.cells Cy 26)) w8.heap.size Cy 26 := Row.new w8 Cy _
    have hRn : Row (w8.alloc (.cells Cy 26)) w.heap.size NV 26 := HR7.out.below hb78 HR7.out.lt
    have hNe : sameN y N = false := by
      cases hsm : sameN y N with
      | false => rfl
      | true =>
        obtain rfl := (sameN_iff y N).1 hsm
        exact absurd hXy HNE.out
    have HM8 : Hid (Calls Tryd.prog 15 #[.agg Cy, .agg NV] (w8.alloc (.cells Cy 26)) fun e w' => e = .returned (.bool false) ∧ Below (w8.alloc (.cells Cy 26)).heap.size (w8.alloc (.cells Cy 26)) w') := by
      have := same_ok y N (w8.alloc (.cells Cy 26)) Cy NV (hy.at'.keep hba) (HNA.out _ hS)
      rw [hNe] at this
      exact this
    clear hp8 hb8 hba hb78 hS hy hXy hNe
    go_wp2_with (first
      | refine wpList_store_new rfl 26 _ _ rfl w8 _ Cy 26 rfl w8.heap.size rfl rfl rfl hCiy h5y.symm hC1y ?_
      | refine load_want (by rfl) 26 _ rfl w8.heap.size rfl 26 Cy _ hRy Tryd.underlying26 rfl hCiy ?_
      | refine load_want (by rfl) 26 _ rfl w.heap.size rfl 26 NV _ hRn Tryd.underlying26 rfl hCi ?_)
    generalize w8.alloc (.cells Cy 26) = w9 at *
    refine Calls.mono HM8.out ?_
    rintro er w10 ⟨rfl, hb10⟩
    have HS10 : Hid (Below w.heap.size w w10) := HS.out.trans (hb10.mono HS.out.size)
    clear HM8 hRy hRn hb10
    go_wp2
    go_ret
    exact ⟨rfl, HS10.out⟩
set_option maxRecDepth 20000 in
set_option maxHeartbeats 8000000 in
theorem law_holds_short_x (d : ByteArray) (t : Int) (a : Option Addr) (c : Nat) (w : World) (hG : GH w) (hd : BytesAt w a d c) (hs : d.size ≤ 3000) : Calls Tryd.prog 6 #[.slice a d.size c, .bool true, .int .i64 t] w fun e w' => e = .returned (.bool true) ∧ Below w.heap.size w w' := by
  have hcd : d.size ≤ c := hd.le
  have hcm : c ≤ 9223372036854775807 := by have := hd.cap; unfold maxLen at this; omega
  have hDs : d.size = d.size := rfl
  have hdD := hd
  have hgt : ¬ (3000 : Int) < (d.size : Int) := by omega
  obtain ⟨N, hN⟩ : ∃ N, N = fileN true d := ⟨_, rfl⟩
  have hN0 : rightE N = 0 := by rw [hN]; exact file_right _ _ (by omega)
  have hNl : (encA N).length = 112 + (d.size + 7) / 8 * 8 + 32 := by rw [hN, file_len, hDs]; rfl
  have hNc : N.count ≤ 16000 := by have := (rightE_cen hN0).2; omega
  have hNA : NodeAt w N (nodeV 1 true a d.size c none 0 0 none 0 0) := by
    have := file_at true hdD
    rw [hDs, ← hN] at this
    exact this
  obtain ⟨NV, hNV⟩ : ∃ NV, NV = nodeV 1 true a d.size c none 0 0 none 0 0 := ⟨_, rfl⟩
  rw [← hNV] at hNA
  have h5 := hNA.size
  have hC1 := hNA.one
  have hCi : (Tryd.prog.info? 26).map (·.size) = some NV.size := by rw [infoN, h5]
  have hba : Below w.heap.size w (w.alloc (.cells NV 26)) := (Below.refl _ _).alloc (Nat.le_refl _) _
  have hRn : Row (w.alloc (.cells NV 26)) w.heap.size NV 26 := Row.new w NV _
  have HEN : Hid (Calls Tryd.prog 8 #[.agg NV] (w.alloc (.cells NV 26)) fun e w' => EncPost N (w.alloc (.cells NV 26)) e w') := encode_ok N _ NV (hNA.keep hba) hNc
  have HBa : Hid (Below w.heap.size w (w.alloc (.cells NV 26))) := hba
  have HNA : Hid (∀ wx, Below w.heap.size w wx → NodeAt wx N NV) := fun wx hx => hNA.keep hx
  have HG : Hid (∀ wx, Below w.heap.size w wx → GH wx) := fun wx hx => hG.below hx
  have HRn : Hid (Row (w.alloc (.cells NV 26)) w.heap.size NV 26) := hRn
  obtain ⟨q, hq⟩ : ∃ q : Nat, q = (d.size + 7) / 8 := ⟨_, rfl⟩
  obtain ⟨L, hL⟩ : ∃ L, L = (encA N).length := ⟨_, rfl⟩
  rw [← hL, ← hq] at hNl
  have hqb : q ≤ 376 := by omega
  have hq2 : ((d.size : Int) + 7).tdiv 8 = (q : Int) := by
    rw [Int.tdiv_eq_ediv_of_nonneg (by omega)]
    omega
  have hLs : (96 : Int) + (q : Int) * 8 + 16 + 24 + 8 = (L : Int) := by omega
  have hLp : 0 < L := by omega
  have hLb : L ≤ 4000 := by omega
  obtain ⟨r, k, hr1, hr2, hr3, hk1, hk2⟩ := at_place t L hLp
  have hkq := int_quo k
  have hkr := int_rem k
  obtain ⟨m, hm⟩ : ∃ m, m = k / 8 := ⟨_, rfl⟩
  obtain ⟨j, hj⟩ : ∃ j, j = k % 8 := ⟨_, rfl⟩
  rw [← hm] at hkq
  rw [← hj] at hkr
  have hmL : m < L := by omega
  have hj8 : j < 8 := by omega
  have hpw := pow_tab j hj8
  have HL : Hid (L = (encA N).length) := hL
  have HN0 : Hid (rightE N = 0) := hN0
  have HNV : Hid (NV = nodeV 1 true a d.size c none 0 0 none 0 0) := hNV
  have HM : Hid (m = k / 8) := hm
  have HJ : Hid (j = k % 8) := hj
  clear hd hG hN hN0 hNA hba hL hm hj hNV hdD hNc hq hDs hNl
  go_enter Tryd.func6, Tryd.ntmps6
  go_wp2_with (first
    | refine wpList_store_new rfl 26 _ _ rfl w _ NV 26 rfl w.heap.size rfl rfl (by rw [HNV.out]; rfl) hCi h5.symm hC1 ?_
    | refine wpList_load_row rfl 26 _ rfl w.heap.size rfl 26 NV (0, 0) _ hRn Tryd.underlying26 rfl hCi ?_)
  generalize w.alloc (.cells NV 26) = wB at *
  refine Calls.mono HEN.out ?_
  clear HEN hRn HNV
  intro er w4 hp4
  obtain ⟨hb4, ⟨hne4, _⟩ | ⟨_, a4, c4, rfl, hbf4⟩⟩ := encOut hp4
  · exact absurd HN0.out hne4
  obtain ⟨b4, hin4, _⟩ := inB_buf hbf4
  have h4a := hin4.at'
  rw [← HL.out] at h4a
  obtain rfl := h4a hLp
  have hle4 := hin4.le
  have hcm4 := hin4.cm
  rw [← HL.out] at hle4 hbf4
  rw [← HL.out]
  have HB4 : Hid (Below w.heap.size w w4) := HBa.out.trans (hb4.mono HBa.out.size)
  have HR4 : Hid (Row w4 w.heap.size NV 26) := HRn.out.below hb4 HRn.out.lt
  have hb5 : Below w4.heap.size w4 (w4.alloc (.cells #[] 5)) := (Below.refl _ _).alloc (Nat.le_refl _) _
  have HB5 : Hid (Below w4.heap.size w4 (w4.alloc (.cells #[] 5))) := hb5
  have HEm : Hid (Buf (w4.alloc (.cells #[] 5)) w4.heap.size (.slice (some ⟨w4.heap.size, 0, none⟩) 0 0) []) := own_empty w4 5 1 w4.heap.size (Nat.le_refl _)
  have HC : Hid (∀ j u, (u8s (encA N))[j]? = some u → (w4.alloc (.cells #[] 5)).cell? ((⟨b4, 0, none⟩ : Addr).add j) = some u) := fun j u hj => by
    have hjl : j < (encA N).length := by have := (List.getElem?_eq_some_iff.1 hj).1; rw [u8s_length] at this; exact this
    have hc := hin4.cell j hjl
    have ha : (⟨b4, 0, none⟩ : Addr).add j = ⟨b4, 0 + j, none⟩ := by unfold Addr.add; split <;> simp_all
    rw [ha, World.cell?_of_block (w := w4) (hb5.block b4 (World.block_lt_of_cell? w4 _ hc)), hc, ← hj]
    unfold u8s fU
    rw [List.getElem?_map, List.getElem?_eq_getElem hjl]
    rfl
  have hsz : w4.heap.size ≤ (w4.alloc (.cells #[] 5)).heap.size := hb5.size
  have hY : L = (encA N).length := HL.out
  have HLN : Hid (([] : List UInt8).length + (encA N).length ≤ 140737488355328) := by show _ ≤ _; rw [← HL.out]; simp only [List.length_nil]; omega
  clear hp4 hb4 hbf4 hin4 h4a hb5 HBa HRn
  obtain ⟨Y, hYd⟩ : ∃ Y, Y = encA N := ⟨_, rfl⟩
  rw [← hYd] at HC HLN hY
  have HYD : Hid (Y = encA N) := hYd
  have HYL : Hid (Y.length = L) := hY.symm
  clear hYd HL hY
  go_wp2_with (refine ap_slice rfl _ _ rfl w4.heap.size _ [] rfl HEm.out ⟨b4, 0, none⟩ c4 Y (by rw [HYL.out]; rfl) HC.out HLN.out hsz ?_)
  intro v w6 hm6
  have hbf6 : Buf w6 w4.heap.size v Y := hm6.buf
  obtain ⟨a6, c6, rfl⟩ := own_slice hbf6
  obtain ⟨g6, hin6, hg6⟩ := inB_buf hbf6
  have h6a := hin6.at' (by rw [HYL.out]; exact hLp)
  subst h6a
  have hle6 := hin6.le
  have hcm6 := hin6.cm
  rw [HYL.out] at hle6
  have hcell := hin6.cell m (by rw [HYL.out]; exact hmL)
  rw [Nat.zero_add] at hcell
  have hxb := fU_bd Y m
  obtain ⟨x, hx⟩ : ∃ x, x = fU Y m := ⟨_, rfl⟩
  rw [← hx] at hcell hxb
  have hfl := flip_ne x hxb.1 hxb.2 j hj8
  obtain ⟨z, hz⟩ : ∃ z, z = bits .xor .u8 x (2 ^ j) := ⟨_, rfl⟩
  have hzz := hz.symm
  rw [← hz] at hfl
  obtain ⟨X', hX'l, hX'n, hin7⟩ := inB_set HYL.out hmL hfl.2.1 hfl.2.2 (by rw [← hx]; exact hfl.1) (by rw [← HYL.out]; exact hbf6)
  have HB46 : Hid (Below w4.heap.size w4 w6) := HB5.out.trans (hm6.below HEm.out hsz)
  have hge6 : w4.heap.size ≤ g6 := hg6 (by rw [HYL.out]; exact hLp)
  have hb47 : Below w4.heap.size w4 (w6.setCell ⟨g6, m, none⟩ (.int .u8 z)) := HB46.out.setCell hge6 _
  have HB7 : Hid (Below w.heap.size w (w6.setCell ⟨g6, m, none⟩ (.int .u8 z))) := HB4.out.trans (hb47.mono HB4.out.size)
  have HR7 : Hid (Row (w6.setCell ⟨g6, m, none⟩ (.int .u8 z)) w.heap.size NV 26) := HR4.out.below hb47 HR4.out.lt
  have HD7 : Hid (Calls Tryd.prog 13 #[.slice (some ⟨g6, 0, none⟩) L c6] (w6.setCell ⟨g6, m, none⟩ (.int .u8 z)) fun r w' => DecPost X' (w6.setCell ⟨g6, m, none⟩ (.int .u8 z)) r w') := by
    have := decode_ok X' (some ⟨g6, 0, none⟩) g6 0 c6 (w6.setCell ⟨g6, m, none⟩ (.int .u8 z)) (HG.out _ HB7.out) hin7
    show Calls _ _ _ _ _
    rw [← hX'l]
    exact this
  have HNE : Hid (X' ≠ encA N) := by show _ ≠ _; rw [← HYD.out]; exact hX'n
  have hfr : w6.frozen? ⟨g6, m, none⟩ = false := by
    obtain ⟨_, _, _, _, cur, hr, _⟩ := ownsRow_cells hbf6
    exact hr.frozen m
  rw [HYL.out]
  have hz1 := hfl.2.1
  have hz2 := hfl.2.2
  have hmL' : (m : Int) < (L : Int) := by omega
  have hj8' : (j : Int) < 8 := by omega
  have hk2' : (k : Int) < 8 * (L : Int) := by omega
  clear hm6 hbf6 hin6 hin7 hg6 hx hz hfl hX'l hX'n hb47 HB46 HR4 HB4 HB5 HEm HC HLN hsz HG HYD HYL hge6 hle4 hcm4
  go_wp2_with fail
  generalize w6.setCell ⟨g6, m, none⟩ (.int .u8 z) = w7 at *
  refine Calls.mono HD7.out ?_
  clear HD7 hfr hcell hzz hpw
  intro er w8 hp8
  obtain ⟨hb8, ⟨e8, he8, rfl⟩ | ⟨y, Cy, hXy, hy0, _, rfl, hy⟩⟩ := decAny hp8
  · have hba : Below w8.heap.size w8 (w8.alloc (.cells node0 26)) := (Below.refl _ _).alloc (Nat.le_refl _) _
    have HS : Hid (Below w.heap.size w (w8.alloc (.cells node0 26))) := HB7.out.trans ((hb8.trans (hba.mono hb8.size)).mono HB7.out.size)
    clear hp8 hb8 hba
    go_wp2_with (refine wpList_store_new rfl 26 _ _ rfl w8 _ node0 26 rfl w8.heap.size rfl rfl rfl info0 rfl node0_one ?_)
    go_ret
    exact ⟨rfl, HS.out⟩
  · have h5y := hy.at'.size
    have hC1y := hy.at'.one
    have hCiy : (Tryd.prog.info? 26).map (·.size) = some Cy.size := by rw [infoN, h5y]
    have hba : Below w8.heap.size w8 (w8.alloc (.cells Cy 26)) := (Below.refl _ _).alloc (Nat.le_refl _) _
    have hb78 : Below w7.heap.size w7 (w8.alloc (.cells Cy 26)) := hb8.trans (hba.mono hb8.size)
    have hS : Below w.heap.size w (w8.alloc (.cells Cy 26)) := HB7.out.trans (hb78.mono HB7.out.size)
    have HS : Hid (Below w.heap.size w (w8.alloc (.cells Cy 26))) := hS
    have hRy : Row (w8.alloc (.cells Cy 26)) w8.heap.size Cy 26 := Row.new w8 Cy _
    have hRn : Row (w8.alloc (.cells Cy 26)) w.heap.size NV 26 := HR7.out.below hb78 HR7.out.lt
    have hNe : sameN y N = false := by
      cases hsm : sameN y N with
      | false => rfl
      | true =>
        obtain rfl := (sameN_iff y N).1 hsm
        exact absurd hXy HNE.out
    have HM8 : Hid (Calls Tryd.prog 15 #[.agg Cy, .agg NV] (w8.alloc (.cells Cy 26)) fun e w' => e = .returned (.bool false) ∧ Below (w8.alloc (.cells Cy 26)).heap.size (w8.alloc (.cells Cy 26)) w') := by
      have := same_ok y N (w8.alloc (.cells Cy 26)) Cy NV (hy.at'.keep hba) (HNA.out _ hS)
      rw [hNe] at this
      exact this
    clear hp8 hb8 hba hb78 hS hy hXy hNe
    go_wp2_with (first
      | refine wpList_store_new rfl 26 _ _ rfl w8 _ Cy 26 rfl w8.heap.size rfl rfl rfl hCiy h5y.symm hC1y ?_
      | refine load_want (by rfl) 26 _ rfl w8.heap.size rfl 26 Cy _ hRy Tryd.underlying26 rfl hCiy ?_
      | refine load_want (by rfl) 26 _ rfl w.heap.size rfl 26 NV _ hRn Tryd.underlying26 rfl hCi ?_)
    generalize w8.alloc (.cells Cy 26) = w9 at *
    refine Calls.mono HM8.out ?_
    rintro er w10 ⟨rfl, hb10⟩
    have HS10 : Hid (Below w.heap.size w w10) := HS.out.trans (hb10.mono HS.out.size)
    clear HM8 hRy hRn hb10
    go_wp2
    go_ret
    exact ⟨rfl, HS10.out⟩
set_option maxRecDepth 20000 in
set_option maxHeartbeats 8000000 in
theorem law_holds_long_n (d : ByteArray) (t : Int) (a : Option Addr) (c : Nat) (w : World) (hG : GH w) (hd : BytesAt w a d c) (hs : 3000 < d.size) : Calls Tryd.prog 6 #[.slice a d.size c, .bool false, .int .i64 t] w fun e w' => e = .returned (.bool true) ∧ Below w.heap.size w w' := by
  have hcd : d.size ≤ c := hd.le
  have hcm : c ≤ 9223372036854775807 := by have := hd.cap; unfold maxLen at this; omega
  obtain ⟨hDs, hdD⟩ := bytes_cut hd hs
  obtain ⟨b0, off0, hb0, _⟩ := hd.ex
  obtain rfl := hb0 (by omega)
  have hgt : (3000 : Int) < (d.size : Int) := by omega
  obtain ⟨N, hN⟩ : ∃ N, N = fileN false ⟨d.data.extract 0 3000⟩ := ⟨_, rfl⟩
  have hN0 : rightE N = 0 := by rw [hN]; exact file_right _ _ (by omega)
  have hNl : (encA N).length = 112 + (3000 + 7) / 8 * 8 + 0 := by rw [hN, file_len, hDs]; rfl
  have hNc : N.count ≤ 16000 := by have := (rightE_cen hN0).2; omega
  have hNA : NodeAt w N (nodeV 1 false (some ⟨b0, off0, none⟩) 3000 c none 0 0 none 0 0) := by
    have := file_at false hdD
    rw [hDs, ← hN] at this
    exact this
  obtain ⟨NV, hNV⟩ : ∃ NV, NV = nodeV 1 false (some ⟨b0, off0, none⟩) 3000 c none 0 0 none 0 0 := ⟨_, rfl⟩
  rw [← hNV] at hNA
  have h5 := hNA.size
  have hC1 := hNA.one
  have hCi : (Tryd.prog.info? 26).map (·.size) = some NV.size := by rw [infoN, h5]
  have hba : Below w.heap.size w (w.alloc (.cells NV 26)) := (Below.refl _ _).alloc (Nat.le_refl _) _
  have hRn : Row (w.alloc (.cells NV 26)) w.heap.size NV 26 := Row.new w NV _
  have HEN : Hid (Calls Tryd.prog 8 #[.agg NV] (w.alloc (.cells NV 26)) fun e w' => EncPost N (w.alloc (.cells NV 26)) e w') := encode_ok N _ NV (hNA.keep hba) hNc
  have HBa : Hid (Below w.heap.size w (w.alloc (.cells NV 26))) := hba
  have HNA : Hid (∀ wx, Below w.heap.size w wx → NodeAt wx N NV) := fun wx hx => hNA.keep hx
  have HG : Hid (∀ wx, Below w.heap.size w wx → GH wx) := fun wx hx => hG.below hx
  have HRn : Hid (Row (w.alloc (.cells NV 26)) w.heap.size NV 26) := hRn
  obtain ⟨q, hq⟩ : ∃ q : Nat, q = (3000 + 7) / 8 := ⟨_, rfl⟩
  obtain ⟨L, hL⟩ : ∃ L, L = (encA N).length := ⟨_, rfl⟩
  rw [← hL, ← hq] at hNl
  have hqb : q ≤ 376 := by omega
  have hq2 : ((3000 : Int) + 7).tdiv 8 = (q : Int) := by
    rw [Int.tdiv_eq_ediv_of_nonneg (by omega)]
    omega
  have hLs : (96 : Int) + (q : Int) * 8 + 16 = (L : Int) := by omega
  have hLn : ((L : Int) != 3112) = false := bne_eq_false_iff_eq.2 (by omega)
  have hLp : 0 < L := by omega
  have hLb : L ≤ 4000 := by omega
  obtain ⟨r, k, hr1, hr2, hr3, hk1, hk2⟩ := at_place t L hLp
  have hkq := int_quo k
  have hkr := int_rem k
  obtain ⟨m, hm⟩ : ∃ m, m = k / 8 := ⟨_, rfl⟩
  obtain ⟨j, hj⟩ : ∃ j, j = k % 8 := ⟨_, rfl⟩
  rw [← hm] at hkq
  rw [← hj] at hkr
  have hmL : m < L := by omega
  have hj8 : j < 8 := by omega
  have hpw := pow_tab j hj8
  have HL : Hid (L = (encA N).length) := hL
  have HN0 : Hid (rightE N = 0) := hN0
  have HNV : Hid (NV = nodeV 1 false (some ⟨b0, off0, none⟩) 3000 c none 0 0 none 0 0) := hNV
  have HM : Hid (m = k / 8) := hm
  have HJ : Hid (j = k % 8) := hj
  clear hd hG hN hN0 hNA hba hL hm hj hNV hdD hNc hq hDs hNl
  go_enter Tryd.func6, Tryd.ntmps6
  go_wp2_with (first
    | refine wpList_store_new rfl 26 _ _ rfl w _ NV 26 rfl w.heap.size rfl rfl (by rw [HNV.out]; rfl) hCi h5.symm hC1 ?_
    | refine wpList_load_row rfl 26 _ rfl w.heap.size rfl 26 NV (0, 0) _ hRn Tryd.underlying26 rfl hCi ?_)
  generalize w.alloc (.cells NV 26) = wB at *
  refine Calls.mono HEN.out ?_
  clear HEN hRn HNV
  intro er w4 hp4
  obtain ⟨hb4, ⟨hne4, _⟩ | ⟨_, a4, c4, rfl, hbf4⟩⟩ := encOut hp4
  · exact absurd HN0.out hne4
  obtain ⟨b4, hin4, _⟩ := inB_buf hbf4
  have h4a := hin4.at'
  rw [← HL.out] at h4a
  obtain rfl := h4a hLp
  have hle4 := hin4.le
  have hcm4 := hin4.cm
  rw [← HL.out] at hle4 hbf4
  rw [← HL.out]
  have HB4 : Hid (Below w.heap.size w w4) := HBa.out.trans (hb4.mono HBa.out.size)
  have HR4 : Hid (Row w4 w.heap.size NV 26) := HRn.out.below hb4 HRn.out.lt
  have hb5 : Below w4.heap.size w4 (w4.alloc (.cells #[] 5)) := (Below.refl _ _).alloc (Nat.le_refl _) _
  have HB5 : Hid (Below w4.heap.size w4 (w4.alloc (.cells #[] 5))) := hb5
  have HEm : Hid (Buf (w4.alloc (.cells #[] 5)) w4.heap.size (.slice (some ⟨w4.heap.size, 0, none⟩) 0 0) []) := own_empty w4 5 1 w4.heap.size (Nat.le_refl _)
  have HC : Hid (∀ j u, (u8s (encA N))[j]? = some u → (w4.alloc (.cells #[] 5)).cell? ((⟨b4, 0, none⟩ : Addr).add j) = some u) := fun j u hj => by
    have hjl : j < (encA N).length := by have := (List.getElem?_eq_some_iff.1 hj).1; rw [u8s_length] at this; exact this
    have hc := hin4.cell j hjl
    have ha : (⟨b4, 0, none⟩ : Addr).add j = ⟨b4, 0 + j, none⟩ := by unfold Addr.add; split <;> simp_all
    rw [ha, World.cell?_of_block (w := w4) (hb5.block b4 (World.block_lt_of_cell? w4 _ hc)), hc, ← hj]
    unfold u8s fU
    rw [List.getElem?_map, List.getElem?_eq_getElem hjl]
    rfl
  have hsz : w4.heap.size ≤ (w4.alloc (.cells #[] 5)).heap.size := hb5.size
  have hY : L = (encA N).length := HL.out
  have HLN : Hid (([] : List UInt8).length + (encA N).length ≤ 140737488355328) := by show _ ≤ _; rw [← HL.out]; simp only [List.length_nil]; omega
  clear hp4 hb4 hbf4 hin4 h4a hb5 HBa HRn
  obtain ⟨Y, hYd⟩ : ∃ Y, Y = encA N := ⟨_, rfl⟩
  rw [← hYd] at HC HLN hY
  have HYD : Hid (Y = encA N) := hYd
  have HYL : Hid (Y.length = L) := hY.symm
  clear hYd HL hY
  go_wp2_with (refine ap_slice rfl _ _ rfl w4.heap.size _ [] rfl HEm.out ⟨b4, 0, none⟩ c4 Y (by rw [HYL.out]; rfl) HC.out HLN.out hsz ?_)
  intro v w6 hm6
  have hbf6 : Buf w6 w4.heap.size v Y := hm6.buf
  obtain ⟨a6, c6, rfl⟩ := own_slice hbf6
  obtain ⟨g6, hin6, hg6⟩ := inB_buf hbf6
  have h6a := hin6.at' (by rw [HYL.out]; exact hLp)
  subst h6a
  have hle6 := hin6.le
  have hcm6 := hin6.cm
  rw [HYL.out] at hle6
  have hcell := hin6.cell m (by rw [HYL.out]; exact hmL)
  rw [Nat.zero_add] at hcell
  have hxb := fU_bd Y m
  obtain ⟨x, hx⟩ : ∃ x, x = fU Y m := ⟨_, rfl⟩
  rw [← hx] at hcell hxb
  have hfl := flip_ne x hxb.1 hxb.2 j hj8
  obtain ⟨z, hz⟩ : ∃ z, z = bits .xor .u8 x (2 ^ j) := ⟨_, rfl⟩
  have hzz := hz.symm
  rw [← hz] at hfl
  obtain ⟨X', hX'l, hX'n, hin7⟩ := inB_set HYL.out hmL hfl.2.1 hfl.2.2 (by rw [← hx]; exact hfl.1) (by rw [← HYL.out]; exact hbf6)
  have HB46 : Hid (Below w4.heap.size w4 w6) := HB5.out.trans (hm6.below HEm.out hsz)
  have hge6 : w4.heap.size ≤ g6 := hg6 (by rw [HYL.out]; exact hLp)
  have hb47 : Below w4.heap.size w4 (w6.setCell ⟨g6, m, none⟩ (.int .u8 z)) := HB46.out.setCell hge6 _
  have HB7 : Hid (Below w.heap.size w (w6.setCell ⟨g6, m, none⟩ (.int .u8 z))) := HB4.out.trans (hb47.mono HB4.out.size)
  have HR7 : Hid (Row (w6.setCell ⟨g6, m, none⟩ (.int .u8 z)) w.heap.size NV 26) := HR4.out.below hb47 HR4.out.lt
  have HD7 : Hid (Calls Tryd.prog 13 #[.slice (some ⟨g6, 0, none⟩) L c6] (w6.setCell ⟨g6, m, none⟩ (.int .u8 z)) fun r w' => DecPost X' (w6.setCell ⟨g6, m, none⟩ (.int .u8 z)) r w') := by
    have := decode_ok X' (some ⟨g6, 0, none⟩) g6 0 c6 (w6.setCell ⟨g6, m, none⟩ (.int .u8 z)) (HG.out _ HB7.out) hin7
    show Calls _ _ _ _ _
    rw [← hX'l]
    exact this
  have HNE : Hid (X' ≠ encA N) := by show _ ≠ _; rw [← HYD.out]; exact hX'n
  have hfr : w6.frozen? ⟨g6, m, none⟩ = false := by
    obtain ⟨_, _, _, _, cur, hr, _⟩ := ownsRow_cells hbf6
    exact hr.frozen m
  rw [HYL.out]
  have hz1 := hfl.2.1
  have hz2 := hfl.2.2
  have hmL' : (m : Int) < (L : Int) := by omega
  have hj8' : (j : Int) < 8 := by omega
  have hk2' : (k : Int) < 8 * (L : Int) := by omega
  clear hm6 hbf6 hin6 hin7 hg6 hx hz hfl hX'l hX'n hb47 HB46 HR4 HB4 HB5 HEm HC HLN hsz HG HYD HYL hge6 hle4 hcm4
  go_wp2_with fail
  generalize w6.setCell ⟨g6, m, none⟩ (.int .u8 z) = w7 at *
  refine Calls.mono HD7.out ?_
  clear HD7 hfr hcell hzz hpw
  intro er w8 hp8
  obtain ⟨hb8, ⟨e8, he8, rfl⟩ | ⟨y, Cy, hXy, hy0, _, rfl, hy⟩⟩ := decAny hp8
  · have hba : Below w8.heap.size w8 (w8.alloc (.cells node0 26)) := (Below.refl _ _).alloc (Nat.le_refl _) _
    have HS : Hid (Below w.heap.size w (w8.alloc (.cells node0 26))) := HB7.out.trans ((hb8.trans (hba.mono hb8.size)).mono HB7.out.size)
    clear hp8 hb8 hba
    go_wp2_with (refine wpList_store_new rfl 26 _ _ rfl w8 _ node0 26 rfl w8.heap.size rfl rfl rfl info0 rfl node0_one ?_)
    go_ret
    exact ⟨rfl, HS.out⟩
  · have h5y := hy.at'.size
    have hC1y := hy.at'.one
    have hCiy : (Tryd.prog.info? 26).map (·.size) = some Cy.size := by rw [infoN, h5y]
    have hba : Below w8.heap.size w8 (w8.alloc (.cells Cy 26)) := (Below.refl _ _).alloc (Nat.le_refl _) _
    have hb78 : Below w7.heap.size w7 (w8.alloc (.cells Cy 26)) := hb8.trans (hba.mono hb8.size)
    have hS : Below w.heap.size w (w8.alloc (.cells Cy 26)) := HB7.out.trans (hb78.mono HB7.out.size)
    have HS : Hid (Below w.heap.size w (w8.alloc (.cells Cy 26))) := hS
    have hRy : Row (w8.alloc (.cells Cy 26)) w8.heap.size Cy 26 := Row.new w8 Cy _
    have hRn : Row (w8.alloc (.cells Cy 26)) w.heap.size NV 26 := HR7.out.below hb78 HR7.out.lt
    have hNe : sameN y N = false := by
      cases hsm : sameN y N with
      | false => rfl
      | true =>
        obtain rfl := (sameN_iff y N).1 hsm
        exact absurd hXy HNE.out
    have HM8 : Hid (Calls Tryd.prog 15 #[.agg Cy, .agg NV] (w8.alloc (.cells Cy 26)) fun e w' => e = .returned (.bool false) ∧ Below (w8.alloc (.cells Cy 26)).heap.size (w8.alloc (.cells Cy 26)) w') := by
      have := same_ok y N (w8.alloc (.cells Cy 26)) Cy NV (hy.at'.keep hba) (HNA.out _ hS)
      rw [hNe] at this
      exact this
    clear hp8 hb8 hba hb78 hS hy hXy hNe
    go_wp2_with (first
      | refine wpList_store_new rfl 26 _ _ rfl w8 _ Cy 26 rfl w8.heap.size rfl rfl rfl hCiy h5y.symm hC1y ?_
      | refine load_want (by rfl) 26 _ rfl w8.heap.size rfl 26 Cy _ hRy Tryd.underlying26 rfl hCiy ?_
      | refine load_want (by rfl) 26 _ rfl w.heap.size rfl 26 NV _ hRn Tryd.underlying26 rfl hCi ?_)
    generalize w8.alloc (.cells Cy 26) = w9 at *
    refine Calls.mono HM8.out ?_
    rintro er w10 ⟨rfl, hb10⟩
    have HS10 : Hid (Below w.heap.size w w10) := HS.out.trans (hb10.mono HS.out.size)
    clear HM8 hRy hRn hb10
    go_wp2
    go_ret
    exact ⟨rfl, HS10.out⟩
set_option maxRecDepth 20000 in
set_option maxHeartbeats 8000000 in
theorem law_holds_long_x (d : ByteArray) (t : Int) (a : Option Addr) (c : Nat) (w : World) (hG : GH w) (hd : BytesAt w a d c) (hs : 3000 < d.size) : Calls Tryd.prog 6 #[.slice a d.size c, .bool true, .int .i64 t] w fun e w' => e = .returned (.bool true) ∧ Below w.heap.size w w' := by
  have hcd : d.size ≤ c := hd.le
  have hcm : c ≤ 9223372036854775807 := by have := hd.cap; unfold maxLen at this; omega
  obtain ⟨hDs, hdD⟩ := bytes_cut hd hs
  obtain ⟨b0, off0, hb0, _⟩ := hd.ex
  obtain rfl := hb0 (by omega)
  have hgt : (3000 : Int) < (d.size : Int) := by omega
  obtain ⟨N, hN⟩ : ∃ N, N = fileN true ⟨d.data.extract 0 3000⟩ := ⟨_, rfl⟩
  have hN0 : rightE N = 0 := by rw [hN]; exact file_right _ _ (by omega)
  have hNl : (encA N).length = 112 + (3000 + 7) / 8 * 8 + 32 := by rw [hN, file_len, hDs]; rfl
  have hNc : N.count ≤ 16000 := by have := (rightE_cen hN0).2; omega
  have hNA : NodeAt w N (nodeV 1 true (some ⟨b0, off0, none⟩) 3000 c none 0 0 none 0 0) := by
    have := file_at true hdD
    rw [hDs, ← hN] at this
    exact this
  obtain ⟨NV, hNV⟩ : ∃ NV, NV = nodeV 1 true (some ⟨b0, off0, none⟩) 3000 c none 0 0 none 0 0 := ⟨_, rfl⟩
  rw [← hNV] at hNA
  have h5 := hNA.size
  have hC1 := hNA.one
  have hCi : (Tryd.prog.info? 26).map (·.size) = some NV.size := by rw [infoN, h5]
  have hba : Below w.heap.size w (w.alloc (.cells NV 26)) := (Below.refl _ _).alloc (Nat.le_refl _) _
  have hRn : Row (w.alloc (.cells NV 26)) w.heap.size NV 26 := Row.new w NV _
  have HEN : Hid (Calls Tryd.prog 8 #[.agg NV] (w.alloc (.cells NV 26)) fun e w' => EncPost N (w.alloc (.cells NV 26)) e w') := encode_ok N _ NV (hNA.keep hba) hNc
  have HBa : Hid (Below w.heap.size w (w.alloc (.cells NV 26))) := hba
  have HNA : Hid (∀ wx, Below w.heap.size w wx → NodeAt wx N NV) := fun wx hx => hNA.keep hx
  have HG : Hid (∀ wx, Below w.heap.size w wx → GH wx) := fun wx hx => hG.below hx
  have HRn : Hid (Row (w.alloc (.cells NV 26)) w.heap.size NV 26) := hRn
  obtain ⟨q, hq⟩ : ∃ q : Nat, q = (3000 + 7) / 8 := ⟨_, rfl⟩
  obtain ⟨L, hL⟩ : ∃ L, L = (encA N).length := ⟨_, rfl⟩
  rw [← hL, ← hq] at hNl
  have hqb : q ≤ 376 := by omega
  have hq2 : ((3000 : Int) + 7).tdiv 8 = (q : Int) := by
    rw [Int.tdiv_eq_ediv_of_nonneg (by omega)]
    omega
  have hLs : (96 : Int) + (q : Int) * 8 + 16 + 24 + 8 = (L : Int) := by omega
  have hLn : ((L : Int) != 3144) = false := bne_eq_false_iff_eq.2 (by omega)
  have hLp : 0 < L := by omega
  have hLb : L ≤ 4000 := by omega
  obtain ⟨r, k, hr1, hr2, hr3, hk1, hk2⟩ := at_place t L hLp
  have hkq := int_quo k
  have hkr := int_rem k
  obtain ⟨m, hm⟩ : ∃ m, m = k / 8 := ⟨_, rfl⟩
  obtain ⟨j, hj⟩ : ∃ j, j = k % 8 := ⟨_, rfl⟩
  rw [← hm] at hkq
  rw [← hj] at hkr
  have hmL : m < L := by omega
  have hj8 : j < 8 := by omega
  have hpw := pow_tab j hj8
  have HL : Hid (L = (encA N).length) := hL
  have HN0 : Hid (rightE N = 0) := hN0
  have HNV : Hid (NV = nodeV 1 true (some ⟨b0, off0, none⟩) 3000 c none 0 0 none 0 0) := hNV
  have HM : Hid (m = k / 8) := hm
  have HJ : Hid (j = k % 8) := hj
  clear hd hG hN hN0 hNA hba hL hm hj hNV hdD hNc hq hDs hNl
  go_enter Tryd.func6, Tryd.ntmps6
  go_wp2_with (first
    | refine wpList_store_new rfl 26 _ _ rfl w _ NV 26 rfl w.heap.size rfl rfl (by rw [HNV.out]; rfl) hCi h5.symm hC1 ?_
    | refine wpList_load_row rfl 26 _ rfl w.heap.size rfl 26 NV (0, 0) _ hRn Tryd.underlying26 rfl hCi ?_)
  generalize w.alloc (.cells NV 26) = wB at *
  refine Calls.mono HEN.out ?_
  clear HEN hRn HNV
  intro er w4 hp4
  obtain ⟨hb4, ⟨hne4, _⟩ | ⟨_, a4, c4, rfl, hbf4⟩⟩ := encOut hp4
  · exact absurd HN0.out hne4
  obtain ⟨b4, hin4, _⟩ := inB_buf hbf4
  have h4a := hin4.at'
  rw [← HL.out] at h4a
  obtain rfl := h4a hLp
  have hle4 := hin4.le
  have hcm4 := hin4.cm
  rw [← HL.out] at hle4 hbf4
  rw [← HL.out]
  have HB4 : Hid (Below w.heap.size w w4) := HBa.out.trans (hb4.mono HBa.out.size)
  have HR4 : Hid (Row w4 w.heap.size NV 26) := HRn.out.below hb4 HRn.out.lt
  have hb5 : Below w4.heap.size w4 (w4.alloc (.cells #[] 5)) := (Below.refl _ _).alloc (Nat.le_refl _) _
  have HB5 : Hid (Below w4.heap.size w4 (w4.alloc (.cells #[] 5))) := hb5
  have HEm : Hid (Buf (w4.alloc (.cells #[] 5)) w4.heap.size (.slice (some ⟨w4.heap.size, 0, none⟩) 0 0) []) := own_empty w4 5 1 w4.heap.size (Nat.le_refl _)
  have HC : Hid (∀ j u, (u8s (encA N))[j]? = some u → (w4.alloc (.cells #[] 5)).cell? ((⟨b4, 0, none⟩ : Addr).add j) = some u) := fun j u hj => by
    have hjl : j < (encA N).length := by have := (List.getElem?_eq_some_iff.1 hj).1; rw [u8s_length] at this; exact this
    have hc := hin4.cell j hjl
    have ha : (⟨b4, 0, none⟩ : Addr).add j = ⟨b4, 0 + j, none⟩ := by unfold Addr.add; split <;> simp_all
    rw [ha, World.cell?_of_block (w := w4) (hb5.block b4 (World.block_lt_of_cell? w4 _ hc)), hc, ← hj]
    unfold u8s fU
    rw [List.getElem?_map, List.getElem?_eq_getElem hjl]
    rfl
  have hsz : w4.heap.size ≤ (w4.alloc (.cells #[] 5)).heap.size := hb5.size
  have hY : L = (encA N).length := HL.out
  have HLN : Hid (([] : List UInt8).length + (encA N).length ≤ 140737488355328) := by show _ ≤ _; rw [← HL.out]; simp only [List.length_nil]; omega
  clear hp4 hb4 hbf4 hin4 h4a hb5 HBa HRn
  obtain ⟨Y, hYd⟩ : ∃ Y, Y = encA N := ⟨_, rfl⟩
  rw [← hYd] at HC HLN hY
  have HYD : Hid (Y = encA N) := hYd
  have HYL : Hid (Y.length = L) := hY.symm
  clear hYd HL hY
  go_wp2_with (refine ap_slice rfl _ _ rfl w4.heap.size _ [] rfl HEm.out ⟨b4, 0, none⟩ c4 Y (by rw [HYL.out]; rfl) HC.out HLN.out hsz ?_)
  intro v w6 hm6
  have hbf6 : Buf w6 w4.heap.size v Y := hm6.buf
  obtain ⟨a6, c6, rfl⟩ := own_slice hbf6
  obtain ⟨g6, hin6, hg6⟩ := inB_buf hbf6
  have h6a := hin6.at' (by rw [HYL.out]; exact hLp)
  subst h6a
  have hle6 := hin6.le
  have hcm6 := hin6.cm
  rw [HYL.out] at hle6
  have hcell := hin6.cell m (by rw [HYL.out]; exact hmL)
  rw [Nat.zero_add] at hcell
  have hxb := fU_bd Y m
  obtain ⟨x, hx⟩ : ∃ x, x = fU Y m := ⟨_, rfl⟩
  rw [← hx] at hcell hxb
  have hfl := flip_ne x hxb.1 hxb.2 j hj8
  obtain ⟨z, hz⟩ : ∃ z, z = bits .xor .u8 x (2 ^ j) := ⟨_, rfl⟩
  have hzz := hz.symm
  rw [← hz] at hfl
  obtain ⟨X', hX'l, hX'n, hin7⟩ := inB_set HYL.out hmL hfl.2.1 hfl.2.2 (by rw [← hx]; exact hfl.1) (by rw [← HYL.out]; exact hbf6)
  have HB46 : Hid (Below w4.heap.size w4 w6) := HB5.out.trans (hm6.below HEm.out hsz)
  have hge6 : w4.heap.size ≤ g6 := hg6 (by rw [HYL.out]; exact hLp)
  have hb47 : Below w4.heap.size w4 (w6.setCell ⟨g6, m, none⟩ (.int .u8 z)) := HB46.out.setCell hge6 _
  have HB7 : Hid (Below w.heap.size w (w6.setCell ⟨g6, m, none⟩ (.int .u8 z))) := HB4.out.trans (hb47.mono HB4.out.size)
  have HR7 : Hid (Row (w6.setCell ⟨g6, m, none⟩ (.int .u8 z)) w.heap.size NV 26) := HR4.out.below hb47 HR4.out.lt
  have HD7 : Hid (Calls Tryd.prog 13 #[.slice (some ⟨g6, 0, none⟩) L c6] (w6.setCell ⟨g6, m, none⟩ (.int .u8 z)) fun r w' => DecPost X' (w6.setCell ⟨g6, m, none⟩ (.int .u8 z)) r w') := by
    have := decode_ok X' (some ⟨g6, 0, none⟩) g6 0 c6 (w6.setCell ⟨g6, m, none⟩ (.int .u8 z)) (HG.out _ HB7.out) hin7
    show Calls _ _ _ _ _
    rw [← hX'l]
    exact this
  have HNE : Hid (X' ≠ encA N) := by show _ ≠ _; rw [← HYD.out]; exact hX'n
  have hfr : w6.frozen? ⟨g6, m, none⟩ = false := by
    obtain ⟨_, _, _, _, cur, hr, _⟩ := ownsRow_cells hbf6
    exact hr.frozen m
  rw [HYL.out]
  have hz1 := hfl.2.1
  have hz2 := hfl.2.2
  have hmL' : (m : Int) < (L : Int) := by omega
  have hj8' : (j : Int) < 8 := by omega
  have hk2' : (k : Int) < 8 * (L : Int) := by omega
  clear hm6 hbf6 hin6 hin7 hg6 hx hz hfl hX'l hX'n hb47 HB46 HR4 HB4 HB5 HEm HC HLN hsz HG HYD HYL hge6 hle4 hcm4
  go_wp2_with fail
  generalize w6.setCell ⟨g6, m, none⟩ (.int .u8 z) = w7 at *
  refine Calls.mono HD7.out ?_
  clear HD7 hfr hcell hzz hpw
  intro er w8 hp8
  obtain ⟨hb8, ⟨e8, he8, rfl⟩ | ⟨y, Cy, hXy, hy0, _, rfl, hy⟩⟩ := decAny hp8
  · have hba : Below w8.heap.size w8 (w8.alloc (.cells node0 26)) := (Below.refl _ _).alloc (Nat.le_refl _) _
    have HS : Hid (Below w.heap.size w (w8.alloc (.cells node0 26))) := HB7.out.trans ((hb8.trans (hba.mono hb8.size)).mono HB7.out.size)
    clear hp8 hb8 hba
    go_wp2_with (refine wpList_store_new rfl 26 _ _ rfl w8 _ node0 26 rfl w8.heap.size rfl rfl rfl info0 rfl node0_one ?_)
    go_ret
    exact ⟨rfl, HS.out⟩
  · have h5y := hy.at'.size
    have hC1y := hy.at'.one
    have hCiy : (Tryd.prog.info? 26).map (·.size) = some Cy.size := by rw [infoN, h5y]
    have hba : Below w8.heap.size w8 (w8.alloc (.cells Cy 26)) := (Below.refl _ _).alloc (Nat.le_refl _) _
    have hb78 : Below w7.heap.size w7 (w8.alloc (.cells Cy 26)) := hb8.trans (hba.mono hb8.size)
    have hS : Below w.heap.size w (w8.alloc (.cells Cy 26)) := HB7.out.trans (hb78.mono HB7.out.size)
    have HS : Hid (Below w.heap.size w (w8.alloc (.cells Cy 26))) := hS
    have hRy : Row (w8.alloc (.cells Cy 26)) w8.heap.size Cy 26 := Row.new w8 Cy _
    have hRn : Row (w8.alloc (.cells Cy 26)) w.heap.size NV 26 := HR7.out.below hb78 HR7.out.lt
    have hNe : sameN y N = false := by
      cases hsm : sameN y N with
      | false => rfl
      | true =>
        obtain rfl := (sameN_iff y N).1 hsm
        exact absurd hXy HNE.out
    have HM8 : Hid (Calls Tryd.prog 15 #[.agg Cy, .agg NV] (w8.alloc (.cells Cy 26)) fun e w' => e = .returned (.bool false) ∧ Below (w8.alloc (.cells Cy 26)).heap.size (w8.alloc (.cells Cy 26)) w') := by
      have := same_ok y N (w8.alloc (.cells Cy 26)) Cy NV (hy.at'.keep hba) (HNA.out _ hS)
      rw [hNe] at this
      exact this
    clear hp8 hb8 hba hb78 hS hy hXy hNe
    go_wp2_with (first
      | refine wpList_store_new rfl 26 _ _ rfl w8 _ Cy 26 rfl w8.heap.size rfl rfl rfl hCiy h5y.symm hC1y ?_
      | refine load_want (by rfl) 26 _ rfl w8.heap.size rfl 26 Cy _ hRy Tryd.underlying26 rfl hCiy ?_
      | refine load_want (by rfl) 26 _ rfl w.heap.size rfl 26 NV _ hRn Tryd.underlying26 rfl hCi ?_)
    generalize w8.alloc (.cells Cy 26) = w9 at *
    refine Calls.mono HM8.out ?_
    rintro er w10 ⟨rfl, hb10⟩
    have HS10 : Hid (Below w.heap.size w w10) := HS.out.trans (hb10.mono HS.out.size)
    clear HM8 hRy hRn hb10
    go_wp2
    go_ret
    exact ⟨rfl, HS10.out⟩
theorem law_holds (d : ByteArray) (ex : Bool) (t : Int) (a : Option Addr) (c : Nat) (w : World) (hG : GH w) (hd : BytesAt w a d c) : Calls Tryd.prog 6 #[.slice a d.size c, .bool ex, .int .i64 t] w fun e w' => e = .returned (.bool true) ∧ Below w.heap.size w w' := by
  by_cases hs : 3000 < d.size
  · cases ex
    · exact law_holds_long_n d t a c w hG hd hs
    · exact law_holds_long_x d t a c w hG hd hs
  · cases ex
    · exact law_holds_short_n d t a c w hG hd (by omega)
    · exact law_holds_short_x d t a c w hG hd (by omega)
end Go.Proofs.YtimiginpdkokiaaDoor
