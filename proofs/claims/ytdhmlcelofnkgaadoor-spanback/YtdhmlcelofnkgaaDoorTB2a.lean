/- My own work: pieceText, some of its ways. -/
import Derived.Test.YtdhmlcelofnkgaaDoorXA
namespace Go.Proofs.YtdhmlcelofnkgaaDoor
open Go.RowKit Go.Shelf

set_option maxRecDepth 20000 in
set_option maxHeartbeats 4000000 in
theorem piece_11t {a b : Cut} (w : World) (hT : Pw w) (ha : a.side = 1) (hma : May a.v) (hb : b.side = 1) (hmb : May b.v) (hd : a = ⟨1, b.v⟩) : Calls Tryd.prog 25 #[cutV a, cutV b] w fun e w' => e = .returned (.string (tx (joinC 44 [[62, 61] ++ textV a.v, [60] ++ textV b.v]))) ∧ Below w.heap.size w w' := by
  have HDD : Hid (decide (a = ⟨1, b.v⟩) = true) := decide_eq_true hd
  clear hd
  have HS2 : Hid (PcS w a b (twoC w a b)) := PcS.start w a b hT
  obtain ⟨w2, hw2⟩ : ∃ x, x = twoC w a b := ⟨_, rfl⟩
  have hw2' := hw2.symm
  rw [← hw2] at HS2
  obtain ⟨lo, na, ea, la, sla⟩ := text_form a.v
  obtain ⟨hi, nb, eb, lb, slb⟩ := text_form b.v
  have hta := text_ok a.v w2 (PcS.t HS2.out)
  rw [ea] at hta
  have HTB : Hid (∀ wx, Pw wx → Calls Tryd.prog 19 #[verV b.v] wx fun e w' => e = .returned (.tuple #[.string hi, .int .i64 nb]) ∧ Below wx.heap.size wx w') := fun wx h => by have h1 := text_ok b.v wx h; rw [eb] at h1; exact h1
  have HLA : Hid (vb lo = textV a.v) := la hma
  have hsA : (a.side : Int) = 1 := ha
  have HLB : Hid (vb hi = textV b.v) := lb hmb
  have sla2 : lo.size ≤ 60 := by rw [← vb_len]; exact sla
  have slb2 : hi.size ≤ 60 := by rw [← vb_len]; exact slb
  have hra2 := row_ver (PcS.a HS2.out)
  have e1 : lo = tx (vb lo) := (tx_vb _).symm
  have e2 : hi = tx (vb hi) := (tx_vb _).symm
  have HE1 : Hid (lo = tx (vb lo)) := e1
  have HE2 : Hid (hi = tx (vb hi)) := e2
  clear la lb hw2 hT ea eb e1 e2 hma hmb
  go_enter Tryd.func25, Tryd.ntmps25
  go_wp2_with (first | refine wpList_load_mid rfl 34 _ rfl w.heap.size 1 rfl _ _ hra2 Tryd.underlying34 rfl infoVs ?_ | fail)
  refine hta.mono ?_
  rintro e w3 ⟨rfl, hb3⟩
  have HS3 : Hid (PcS w a b w3) := PcS.next HS2.out hb3
  have htb := HTB.out w3 (PcS.t HS3.out)
  have hrb3 := row_ver (PcS.b HS3.out)
  clear hta hb3 HS2 HTB hra2 hw2'
  go_wp2_with (first | refine wpList_load_mid rfl 34 _ rfl (w.heap.size + 1) 1 rfl _ _ hrb3 Tryd.underlying34 rfl infoVs ?_ | fail)
  refine htb.mono ?_
  rintro e w4 ⟨rfl, hb4⟩
  have HS4 : Hid (PcS w a b w4) := PcS.next HS3.out hb4
  have hra4 := PcS.a HS4.out
  have hrb4 := row_ver (PcS.b HS4.out)
  have csa := PcS.sideA HS4.out
  have csb := PcS.sideB HS4.out
  clear htb hb4 HS3 hrb3
  rw [ha] at csa
  clear ha hsA
  rw [hb] at csb
  clear hb
  obtain ⟨T, hT⟩ : ∃ T, T = tx ([62, 61] ++ vb lo) := ⟨_, rfl⟩
  have HT : Hid (T = tx ([62, 61] ++ vb lo)) := hT
  have hT' := hT.symm
  clear hT
  have hown4 : (w4.alloc (.cells #[.string T] 9)).ownsRow w4.heap.size 9 1 (.slice none 0 0) 0 [] := World.ownsRow_nil _ _ _ _
  go_upto_region 11 with (first | refine wpList_load_row rfl 62 _ rfl w.heap.size rfl 62 (cutC a) (0, 0) _ hra4 Tryd.underlying62 rfl infoC ?_ | refine wpList_load_mid rfl 34 _ rfl (w.heap.size + 1) 1 rfl _ _ hrb4 Tryd.underlying34 rfl infoVs ?_ | refine wp_eqcV a ⟨1, b.v⟩ true HDD.out rfl _ _ rfl rfl rfl ?_ | (refine wp_cat rfl _ _ rfl [62, 61] (vb lo) rfl (by rw [tx_vb]; rfl) (by show 2 + _ ≤ _; omega) ?_; rw [hT']) | (at_builtin; refine wpList_ap_one rfl (some 42) rfl _ _ rfl w4.heap.size (.slice none 0 0) 0 [] rfl T rfl w4.heap.size rfl hown4 rfl (Nat.le_refl _) (by omega) ?_; intro v5 w5 ho5 hg5))
  have hb5 : Below w4.heap.size w4 w5 := below_ap hg5 (fun k hk => by cases hk)
  have HS5 : Hid (PcS w a b w5) := PcS.next HS4.out hb5
  have csb5 : w5.cell? ⟨w.heap.size + 1, 0, none⟩ = _ := (hb5.cell (p := ⟨w.heap.size + 1, 0, none⟩) (Row.lt (PcS.b HS4.out))).trans csb
  have hown5 : w5.ownsRow w4.heap.size 9 1 v5 1 [.string T] := ho5
  have hlow5 := hb5.size
  clear ho5 hg5 hb5 hown4 hra4 hrb4 csa csb hT'
  obtain ⟨U, hU⟩ : ∃ U, U = tx ([60] ++ vb hi) := ⟨_, rfl⟩
  have HU : Hid (U = tx ([60] ++ vb hi)) := hU
  have hU' := hU.symm
  clear hU
  have hown6 : (w5.alloc (.cells #[.string U] 9)).ownsRow w4.heap.size 9 1 v5 1 [.string T] := own_below hown5 ((Below.refl _ _).alloc (Nat.le_refl _) _)
  have hob6 := own_block hown5
  go_upto_region 16 with (first | (refine wp_cat rfl _ _ rfl [60] (vb hi) rfl (by rw [tx_vb]; rfl) (by show 1 + _ ≤ _; omega) ?_; rw [hU']) | (at_builtin; refine wpList_ap_one rfl (some 58) rfl _ _ rfl w4.heap.size v5 1 [.string T] rfl U rfl w5.heap.size rfl hown6 rfl hlow5 (by omega) ?_; intro v7 w7 ho7 hg7))
  have hb7 : Below w4.heap.size w5 w7 := ((Below.refl _ _).alloc hlow5 _).trans (below_own' hg7 (by first | (simp; done) | (simp; omega)) fun k hk => (hob6 k hk).1)
  have HB7 : Hid (Below w.heap.size w w7) := (PcS.old HS5.out).trans (hb7.mono (PcS.old HS4.out).size)
  have hown7 : w7.ownsRow w4.heap.size 9 1 v7 2 [.string T, .string U] := ho7
  clear ho7 hg7 hb7 hown6 hob6 hU' hown5
  have hform : ∃ g c, v7 = .slice (some ⟨g, 0, none⟩) 2 c := by
    obtain ⟨_, ⟨_, h0⟩ | ⟨g, cap, cur, h1, _⟩⟩ := hown7
    · exact absurd h0 (by decide)
    · exact ⟨g, cap, h1⟩
  obtain ⟨vg, vc, rfl⟩ := hform
  have HMp : Hid ([T, U].map vb = [[62, 61] ++ textV a.v, [60] ++ textV b.v]) := by
    show [vb T, vb U] = _
    rw [HT.out, vb_tx, HLA.out, HU.out, vb_tx, HLB.out]
  have hj := join_any [T, U] 44 w7 hown7 (by simp) (by
    rw [HMp.out, ← HLA.out, ← HLB.out]
    simp [joinC]
    omega) (by simp)
  rw [HMp.out] at hj
  obtain ⟨J, hJ⟩ : ∃ J, J = tx (joinC 44 [[62, 61] ++ textV a.v, [60] ++ textV b.v]) := ⟨_, rfl⟩
  rw [← hJ] at hj
  have HJ : Hid (J = tx (joinC 44 [[62, 61] ++ textV a.v, [60] ++ textV b.v])) := hJ
  clear hJ hown7 HMp
  go_wp2_with fail
  refine hj.mono ?_
  rintro e w8 ⟨rfl, hb8⟩
  clear hj
  go_wp2
  go_ret
  exact ⟨(by show Ending.returned (.string J) = _; rw [HJ.out]; rfl), HB7.out.trans (hb8.mono HB7.out.size)⟩
set_option maxRecDepth 20000 in
set_option maxHeartbeats 4000000 in
theorem piece_11f {a b : Cut} (w : World) (hT : Pw w) (ha : a.side = 1) (hma : May a.v) (hb : b.side = 1) (hmb : May b.v) (hd : ¬ a = ⟨1, b.v⟩) : Calls Tryd.prog 25 #[cutV a, cutV b] w fun e w' => e = .returned (.string (tx (joinC 44 [[62, 61] ++ textV a.v, [60] ++ textV b.v]))) ∧ Below w.heap.size w w' := by
  have HDD : Hid (decide (a = ⟨1, b.v⟩) = false) := decide_eq_false hd
  clear hd
  have HS2 : Hid (PcS w a b (twoC w a b)) := PcS.start w a b hT
  obtain ⟨w2, hw2⟩ : ∃ x, x = twoC w a b := ⟨_, rfl⟩
  have hw2' := hw2.symm
  rw [← hw2] at HS2
  obtain ⟨lo, na, ea, la, sla⟩ := text_form a.v
  obtain ⟨hi, nb, eb, lb, slb⟩ := text_form b.v
  have hta := text_ok a.v w2 (PcS.t HS2.out)
  rw [ea] at hta
  have HTB : Hid (∀ wx, Pw wx → Calls Tryd.prog 19 #[verV b.v] wx fun e w' => e = .returned (.tuple #[.string hi, .int .i64 nb]) ∧ Below wx.heap.size wx w') := fun wx h => by have h1 := text_ok b.v wx h; rw [eb] at h1; exact h1
  have HLA : Hid (vb lo = textV a.v) := la hma
  have hsA : (a.side : Int) = 1 := ha
  have HLB : Hid (vb hi = textV b.v) := lb hmb
  have sla2 : lo.size ≤ 60 := by rw [← vb_len]; exact sla
  have slb2 : hi.size ≤ 60 := by rw [← vb_len]; exact slb
  have hra2 := row_ver (PcS.a HS2.out)
  have e1 : lo = tx (vb lo) := (tx_vb _).symm
  have e2 : hi = tx (vb hi) := (tx_vb _).symm
  have HE1 : Hid (lo = tx (vb lo)) := e1
  have HE2 : Hid (hi = tx (vb hi)) := e2
  clear la lb hw2 hT ea eb e1 e2 hma hmb
  go_enter Tryd.func25, Tryd.ntmps25
  go_wp2_with (first | refine wpList_load_mid rfl 34 _ rfl w.heap.size 1 rfl _ _ hra2 Tryd.underlying34 rfl infoVs ?_ | fail)
  refine hta.mono ?_
  rintro e w3 ⟨rfl, hb3⟩
  have HS3 : Hid (PcS w a b w3) := PcS.next HS2.out hb3
  have htb := HTB.out w3 (PcS.t HS3.out)
  have hrb3 := row_ver (PcS.b HS3.out)
  clear hta hb3 HS2 HTB hra2 hw2'
  go_wp2_with (first | refine wpList_load_mid rfl 34 _ rfl (w.heap.size + 1) 1 rfl _ _ hrb3 Tryd.underlying34 rfl infoVs ?_ | fail)
  refine htb.mono ?_
  rintro e w4 ⟨rfl, hb4⟩
  have HS4 : Hid (PcS w a b w4) := PcS.next HS3.out hb4
  have hra4 := PcS.a HS4.out
  have hrb4 := row_ver (PcS.b HS4.out)
  have csa := PcS.sideA HS4.out
  have csb := PcS.sideB HS4.out
  clear htb hb4 HS3 hrb3
  rw [ha] at csa
  clear ha hsA
  rw [hb] at csb
  clear hb
  obtain ⟨T, hT⟩ : ∃ T, T = tx ([62, 61] ++ vb lo) := ⟨_, rfl⟩
  have HT : Hid (T = tx ([62, 61] ++ vb lo)) := hT
  have hT' := hT.symm
  clear hT
  have hown4 : (w4.alloc (.cells #[.string T] 9)).ownsRow w4.heap.size 9 1 (.slice none 0 0) 0 [] := World.ownsRow_nil _ _ _ _
  go_upto_region 11 with (first | refine wpList_load_row rfl 62 _ rfl w.heap.size rfl 62 (cutC a) (0, 0) _ hra4 Tryd.underlying62 rfl infoC ?_ | refine wpList_load_mid rfl 34 _ rfl (w.heap.size + 1) 1 rfl _ _ hrb4 Tryd.underlying34 rfl infoVs ?_ | refine wp_eqcV a ⟨1, b.v⟩ false HDD.out rfl _ _ rfl rfl rfl ?_ | (refine wp_cat rfl _ _ rfl [62, 61] (vb lo) rfl (by rw [tx_vb]; rfl) (by show 2 + _ ≤ _; omega) ?_; rw [hT']) | (at_builtin; refine wpList_ap_one rfl (some 42) rfl _ _ rfl w4.heap.size (.slice none 0 0) 0 [] rfl T rfl w4.heap.size rfl hown4 rfl (Nat.le_refl _) (by omega) ?_; intro v5 w5 ho5 hg5))
  have hb5 : Below w4.heap.size w4 w5 := below_ap hg5 (fun k hk => by cases hk)
  have HS5 : Hid (PcS w a b w5) := PcS.next HS4.out hb5
  have csb5 : w5.cell? ⟨w.heap.size + 1, 0, none⟩ = _ := (hb5.cell (p := ⟨w.heap.size + 1, 0, none⟩) (Row.lt (PcS.b HS4.out))).trans csb
  have hown5 : w5.ownsRow w4.heap.size 9 1 v5 1 [.string T] := ho5
  have hlow5 := hb5.size
  clear ho5 hg5 hb5 hown4 hra4 hrb4 csa csb hT'
  obtain ⟨U, hU⟩ : ∃ U, U = tx ([60] ++ vb hi) := ⟨_, rfl⟩
  have HU : Hid (U = tx ([60] ++ vb hi)) := hU
  have hU' := hU.symm
  clear hU
  have hown6 : (w5.alloc (.cells #[.string U] 9)).ownsRow w4.heap.size 9 1 v5 1 [.string T] := own_below hown5 ((Below.refl _ _).alloc (Nat.le_refl _) _)
  have hob6 := own_block hown5
  go_upto_region 16 with (first | (refine wp_cat rfl _ _ rfl [60] (vb hi) rfl (by rw [tx_vb]; rfl) (by show 1 + _ ≤ _; omega) ?_; rw [hU']) | (at_builtin; refine wpList_ap_one rfl (some 58) rfl _ _ rfl w4.heap.size v5 1 [.string T] rfl U rfl w5.heap.size rfl hown6 rfl hlow5 (by omega) ?_; intro v7 w7 ho7 hg7))
  have hb7 : Below w4.heap.size w5 w7 := ((Below.refl _ _).alloc hlow5 _).trans (below_own' hg7 (by first | (simp; done) | (simp; omega)) fun k hk => (hob6 k hk).1)
  have HB7 : Hid (Below w.heap.size w w7) := (PcS.old HS5.out).trans (hb7.mono (PcS.old HS4.out).size)
  have hown7 : w7.ownsRow w4.heap.size 9 1 v7 2 [.string T, .string U] := ho7
  clear ho7 hg7 hb7 hown6 hob6 hU' hown5
  have hform : ∃ g c, v7 = .slice (some ⟨g, 0, none⟩) 2 c := by
    obtain ⟨_, ⟨_, h0⟩ | ⟨g, cap, cur, h1, _⟩⟩ := hown7
    · exact absurd h0 (by decide)
    · exact ⟨g, cap, h1⟩
  obtain ⟨vg, vc, rfl⟩ := hform
  have HMp : Hid ([T, U].map vb = [[62, 61] ++ textV a.v, [60] ++ textV b.v]) := by
    show [vb T, vb U] = _
    rw [HT.out, vb_tx, HLA.out, HU.out, vb_tx, HLB.out]
  have hj := join_any [T, U] 44 w7 hown7 (by simp) (by
    rw [HMp.out, ← HLA.out, ← HLB.out]
    simp [joinC]
    omega) (by simp)
  rw [HMp.out] at hj
  obtain ⟨J, hJ⟩ : ∃ J, J = tx (joinC 44 [[62, 61] ++ textV a.v, [60] ++ textV b.v]) := ⟨_, rfl⟩
  rw [← hJ] at hj
  have HJ : Hid (J = tx (joinC 44 [[62, 61] ++ textV a.v, [60] ++ textV b.v])) := hJ
  clear hJ hown7 HMp
  go_wp2_with fail
  refine hj.mono ?_
  rintro e w8 ⟨rfl, hb8⟩
  clear hj
  go_wp2
  go_ret
  exact ⟨(by show Ending.returned (.string J) = _; rw [HJ.out]; rfl), HB7.out.trans (hb8.mono HB7.out.size)⟩
set_option maxRecDepth 20000 in
set_option maxHeartbeats 4000000 in
theorem piece_12t {a b : Cut} (w : World) (hT : Pw w) (ha : a.side = 1) (hma : May a.v) (hb : b.side = 2) (hmb : May b.v) (hd : a = ⟨1, b.v⟩) : Calls Tryd.prog 25 #[cutV a, cutV b] w fun e w' => e = .returned (.string (tx ([61] ++ textV a.v))) ∧ Below w.heap.size w w' := by
  have HDD : Hid (decide (a = ⟨1, b.v⟩) = true) := decide_eq_true hd
  clear hd
  have HS2 : Hid (PcS w a b (twoC w a b)) := PcS.start w a b hT
  obtain ⟨w2, hw2⟩ : ∃ x, x = twoC w a b := ⟨_, rfl⟩
  have hw2' := hw2.symm
  rw [← hw2] at HS2
  obtain ⟨lo, na, ea, la, sla⟩ := text_form a.v
  obtain ⟨hi, nb, eb, lb, slb⟩ := text_form b.v
  have hta := text_ok a.v w2 (PcS.t HS2.out)
  rw [ea] at hta
  have HTB : Hid (∀ wx, Pw wx → Calls Tryd.prog 19 #[verV b.v] wx fun e w' => e = .returned (.tuple #[.string hi, .int .i64 nb]) ∧ Below wx.heap.size wx w') := fun wx h => by have h1 := text_ok b.v wx h; rw [eb] at h1; exact h1
  have HLA : Hid (vb lo = textV a.v) := la hma
  have hsA : (a.side : Int) = 1 := ha
  have HLB : Hid (vb hi = textV b.v) := lb hmb
  have sla2 : lo.size ≤ 60 := by rw [← vb_len]; exact sla
  have slb2 : hi.size ≤ 60 := by rw [← vb_len]; exact slb
  have hra2 := row_ver (PcS.a HS2.out)
  have e1 : lo = tx (vb lo) := (tx_vb _).symm
  have e2 : hi = tx (vb hi) := (tx_vb _).symm
  have HE1 : Hid (lo = tx (vb lo)) := e1
  have HE2 : Hid (hi = tx (vb hi)) := e2
  clear la lb hw2 hT ea eb e1 e2 hma hmb
  go_enter Tryd.func25, Tryd.ntmps25
  go_wp2_with (first | refine wpList_load_mid rfl 34 _ rfl w.heap.size 1 rfl _ _ hra2 Tryd.underlying34 rfl infoVs ?_ | fail)
  refine hta.mono ?_
  rintro e w3 ⟨rfl, hb3⟩
  have HS3 : Hid (PcS w a b w3) := PcS.next HS2.out hb3
  have htb := HTB.out w3 (PcS.t HS3.out)
  have hrb3 := row_ver (PcS.b HS3.out)
  clear hta hb3 HS2 HTB hra2 hw2'
  go_wp2_with (first | refine wpList_load_mid rfl 34 _ rfl (w.heap.size + 1) 1 rfl _ _ hrb3 Tryd.underlying34 rfl infoVs ?_ | fail)
  refine htb.mono ?_
  rintro e w4 ⟨rfl, hb4⟩
  have HS4 : Hid (PcS w a b w4) := PcS.next HS3.out hb4
  have hra4 := PcS.a HS4.out
  have hrb4 := row_ver (PcS.b HS4.out)
  have csa := PcS.sideA HS4.out
  have csb := PcS.sideB HS4.out
  clear htb hb4 HS3 hrb3
  rw [ha] at csa
  clear ha hsA
  rw [hb] at csb
  clear hb
  go_wp2_with (first | refine wpList_load_row rfl 62 _ rfl w.heap.size rfl 62 (cutC a) (0, 0) _ hra4 Tryd.underlying62 rfl infoC ?_ | refine wpList_load_mid rfl 34 _ rfl (w.heap.size + 1) 1 rfl _ _ hrb4 Tryd.underlying34 rfl infoVs ?_ | refine wp_eqcV a ⟨1, b.v⟩ true HDD.out rfl _ _ rfl rfl rfl ?_ | refine wp_cat rfl _ _ rfl [61] (vb lo) rfl (by rw [tx_vb]; rfl) (by show 1 + _ ≤ _; omega) ?_ | fail)
  go_ret
  exact ⟨by rw [HLA.out]; rfl, (PcS.old HS4.out)⟩
end Go.Proofs.YtdhmlcelofnkgaaDoor
