/- My own work: pieceText, some of its ways. -/
import Derived.Test.YtdhmlcelofnkgaaDoorXA
namespace Go.Proofs.YtdhmlcelofnkgaaDoor
open Go.RowKit Go.Shelf

set_option maxRecDepth 20000 in
set_option maxHeartbeats 4000000 in
theorem piece_n1f {a b : Cut} (w : World) (hT : Pw w) (ha1 : ¬ a.side = 1) (ha2 : ¬ a.side = 2) (hb : b.side = 1) (hmb : May b.v) : Calls Tryd.prog 25 #[cutV a, cutV b] w fun e w' => e = .returned (.string (tx (joinC 44 [[60] ++ textV b.v]))) ∧ Below w.heap.size w w' := by
  have hd : ¬ a = ⟨1, b.v⟩ := fun e => ha1 (by rw [e])
  have HDD : Hid (decide (a = ⟨1, b.v⟩) = false) := decide_eq_false hd
  clear hd
  have HS2 : Hid (PcS w a b (twoC w a b)) := PcS.start w a b hT
  obtain ⟨w2, hw2⟩ : ∃ x, x = twoC w a b := ⟨_, rfl⟩
  have hw2' := hw2.symm
  rw [← hw2] at HS2
  obtain ⟨lo, na, ea, la, sla⟩ := text_form a.v
  obtain ⟨hi, nb, eb, lb, slb⟩ := text_form b.v
  have hta := text_ok a.v w2 (PcS.t HS2.out)
  rw [ea] at hta
  have HTB : Hid (∀ wx, Pw wx → Calls Tryd.prog 19 #[verV b.v] wx fun e w' => e = .returned (.tuple #[.string hi, .int .i64 nb]) ∧ Below wx.heap.size wx w') := fun wx h => by have h1 := text_ok b.v wx h; rw [eb] at h1; exact h1
  have HLB : Hid (vb hi = textV b.v) := lb hmb
  have sla2 : lo.size ≤ 60 := by rw [← vb_len]; exact sla
  have slb2 : hi.size ≤ 60 := by rw [← vb_len]; exact slb
  have hra2 := row_ver (PcS.a HS2.out)
  have e1 : lo = tx (vb lo) := (tx_vb _).symm
  have e2 : hi = tx (vb hi) := (tx_vb _).symm
  have HE1 : Hid (lo = tx (vb lo)) := e1
  have HE2 : Hid (hi = tx (vb hi)) := e2
  clear la lb hw2 hT ea eb e1 e2 hmb
  go_enter Tryd.func25, Tryd.ntmps25
  go_wp2_with (first | refine wpList_load_mid rfl 34 _ rfl w.heap.size 1 rfl _ _ hra2 Tryd.underlying34 rfl infoVs ?_ | fail)
  refine hta.mono ?_
  rintro e w3 ⟨rfl, hb3⟩
  have HS3 : Hid (PcS w a b w3) := PcS.next HS2.out hb3
  have htb := HTB.out w3 (PcS.t HS3.out)
  have hrb3 := row_ver (PcS.b HS3.out)
  clear hta hb3 HS2 HTB hra2 hw2'
  go_wp2_with (first | refine wpList_load_mid rfl 34 _ rfl (w.heap.size + 1) 1 rfl _ _ hrb3 Tryd.underlying34 rfl infoVs ?_ | fail)
  refine htb.mono ?_
  rintro e w4 ⟨rfl, hb4⟩
  have HS4 : Hid (PcS w a b w4) := PcS.next HS3.out hb4
  have hra4 := PcS.a HS4.out
  have hrb4 := row_ver (PcS.b HS4.out)
  have csa := PcS.sideA HS4.out
  have csb := PcS.sideB HS4.out
  clear htb hb4 HS3 hrb3
  obtain ⟨sa, hsa⟩ : ∃ s, s = a.side := ⟨_, rfl⟩
  rw [← hsa] at csa ha1 ha2
  have ga1 := beqI ha1
  have ga2 := beqI ha2
  clear hsa
  rw [hb] at csb
  clear hb
  have hown5 : w4.ownsRow w4.heap.size 9 1 (.slice none 0 0) 0 [] := World.ownsRow_nil _ _ _ _
  have hlow5 : w4.heap.size ≤ w4.heap.size := Nat.le_refl _
  go_upto_region 11 with (first | refine wpList_load_row rfl 62 _ rfl w.heap.size rfl 62 (cutC a) (0, 0) _ hra4 Tryd.underlying62 rfl infoC ?_ | refine wpList_load_mid rfl 34 _ rfl (w.heap.size + 1) 1 rfl _ _ hrb4 Tryd.underlying34 rfl infoVs ?_ | refine wp_eqcV a ⟨1, b.v⟩ false HDD.out rfl _ _ rfl rfl rfl ?_)
  clear hra4 hrb4 csa
  obtain ⟨U, hU⟩ : ∃ U, U = tx ([60] ++ vb hi) := ⟨_, rfl⟩
  have HU : Hid (U = tx ([60] ++ vb hi)) := hU
  have hU' := hU.symm
  clear hU
  have hown6 : (w4.alloc (.cells #[.string U] 9)).ownsRow w4.heap.size 9 1 (.slice none 0 0) 0 [] := own_below hown5 ((Below.refl _ _).alloc (Nat.le_refl _) _)
  have hob6 := own_block hown5
  go_upto_region 16 with (first | (refine wp_cat rfl _ _ rfl [60] (vb hi) rfl (by rw [tx_vb]; rfl) (by show 1 + _ ≤ _; omega) ?_; rw [hU']) | (at_builtin; refine wpList_ap_one rfl (some 58) rfl _ _ rfl w4.heap.size (.slice none 0 0) 0 [] rfl U rfl w4.heap.size rfl hown6 rfl hlow5 (by omega) ?_; intro v7 w7 ho7 hg7))
  have hb7 : Below w4.heap.size w4 w7 := ((Below.refl _ _).alloc hlow5 _).trans (below_own' hg7 (by first | (simp; done) | (simp; omega)) fun k hk => (hob6 k hk).1)
  have HB7 : Hid (Below w.heap.size w w7) := (PcS.old HS4.out).trans (hb7.mono (PcS.old HS4.out).size)
  have hown7 : w7.ownsRow w4.heap.size 9 1 v7 1 [.string U] := ho7
  clear ho7 hg7 hb7 hown6 hob6 hU' hown5
  have hform : ∃ g c, v7 = .slice (some ⟨g, 0, none⟩) 1 c := by
    obtain ⟨_, ⟨_, h0⟩ | ⟨g, cap, cur, h1, _⟩⟩ := hown7
    · exact absurd h0 (by decide)
    · exact ⟨g, cap, h1⟩
  obtain ⟨vg, vc, rfl⟩ := hform
  have HMp : Hid ([U].map vb = [[60] ++ textV b.v]) := by
    show [vb U] = _
    rw [HU.out, vb_tx, HLB.out]
  have hj := join_any [U] 44 w7 hown7 (by simp) (by
    rw [HMp.out, ← HLB.out]
    simp [joinC]
    omega) (by simp)
  rw [HMp.out] at hj
  obtain ⟨J, hJ⟩ : ∃ J, J = tx (joinC 44 [[60] ++ textV b.v]) := ⟨_, rfl⟩
  rw [← hJ] at hj
  have HJ : Hid (J = tx (joinC 44 [[60] ++ textV b.v])) := hJ
  clear hJ hown7 HMp
  go_wp2_with fail
  refine hj.mono ?_
  rintro e w8 ⟨rfl, hb8⟩
  clear hj
  go_wp2
  go_ret
  exact ⟨(by show Ending.returned (.string J) = _; rw [HJ.out]; rfl), HB7.out.trans (hb8.mono HB7.out.size)⟩
set_option maxRecDepth 20000 in
set_option maxHeartbeats 4000000 in
theorem piece_n2f {a b : Cut} (w : World) (hT : Pw w) (ha1 : ¬ a.side = 1) (ha2 : ¬ a.side = 2) (hb : b.side = 2) (hmb : May b.v) : Calls Tryd.prog 25 #[cutV a, cutV b] w fun e w' => e = .returned (.string (tx (joinC 44 [[60, 61] ++ textV b.v]))) ∧ Below w.heap.size w w' := by
  have hd : ¬ a = ⟨1, b.v⟩ := fun e => ha1 (by rw [e])
  have HDD : Hid (decide (a = ⟨1, b.v⟩) = false) := decide_eq_false hd
  clear hd
  have HS2 : Hid (PcS w a b (twoC w a b)) := PcS.start w a b hT
  obtain ⟨w2, hw2⟩ : ∃ x, x = twoC w a b := ⟨_, rfl⟩
  have hw2' := hw2.symm
  rw [← hw2] at HS2
  obtain ⟨lo, na, ea, la, sla⟩ := text_form a.v
  obtain ⟨hi, nb, eb, lb, slb⟩ := text_form b.v
  have hta := text_ok a.v w2 (PcS.t HS2.out)
  rw [ea] at hta
  have HTB : Hid (∀ wx, Pw wx → Calls Tryd.prog 19 #[verV b.v] wx fun e w' => e = .returned (.tuple #[.string hi, .int .i64 nb]) ∧ Below wx.heap.size wx w') := fun wx h => by have h1 := text_ok b.v wx h; rw [eb] at h1; exact h1
  have HLB : Hid (vb hi = textV b.v) := lb hmb
  have sla2 : lo.size ≤ 60 := by rw [← vb_len]; exact sla
  have slb2 : hi.size ≤ 60 := by rw [← vb_len]; exact slb
  have hra2 := row_ver (PcS.a HS2.out)
  have e1 : lo = tx (vb lo) := (tx_vb _).symm
  have e2 : hi = tx (vb hi) := (tx_vb _).symm
  have HE1 : Hid (lo = tx (vb lo)) := e1
  have HE2 : Hid (hi = tx (vb hi)) := e2
  clear la lb hw2 hT ea eb e1 e2 hmb
  go_enter Tryd.func25, Tryd.ntmps25
  go_wp2_with (first | refine wpList_load_mid rfl 34 _ rfl w.heap.size 1 rfl _ _ hra2 Tryd.underlying34 rfl infoVs ?_ | fail)
  refine hta.mono ?_
  rintro e w3 ⟨rfl, hb3⟩
  have HS3 : Hid (PcS w a b w3) := PcS.next HS2.out hb3
  have htb := HTB.out w3 (PcS.t HS3.out)
  have hrb3 := row_ver (PcS.b HS3.out)
  clear hta hb3 HS2 HTB hra2 hw2'
  go_wp2_with (first | refine wpList_load_mid rfl 34 _ rfl (w.heap.size + 1) 1 rfl _ _ hrb3 Tryd.underlying34 rfl infoVs ?_ | fail)
  refine htb.mono ?_
  rintro e w4 ⟨rfl, hb4⟩
  have HS4 : Hid (PcS w a b w4) := PcS.next HS3.out hb4
  have hra4 := PcS.a HS4.out
  have hrb4 := row_ver (PcS.b HS4.out)
  have csa := PcS.sideA HS4.out
  have csb := PcS.sideB HS4.out
  clear htb hb4 HS3 hrb3
  obtain ⟨sa, hsa⟩ : ∃ s, s = a.side := ⟨_, rfl⟩
  rw [← hsa] at csa ha1 ha2
  have ga1 := beqI ha1
  have ga2 := beqI ha2
  clear hsa
  rw [hb] at csb
  clear hb
  have hown5 : w4.ownsRow w4.heap.size 9 1 (.slice none 0 0) 0 [] := World.ownsRow_nil _ _ _ _
  have hlow5 : w4.heap.size ≤ w4.heap.size := Nat.le_refl _
  go_upto_region 11 with (first | refine wpList_load_row rfl 62 _ rfl w.heap.size rfl 62 (cutC a) (0, 0) _ hra4 Tryd.underlying62 rfl infoC ?_ | refine wpList_load_mid rfl 34 _ rfl (w.heap.size + 1) 1 rfl _ _ hrb4 Tryd.underlying34 rfl infoVs ?_ | refine wp_eqcV a ⟨1, b.v⟩ false HDD.out rfl _ _ rfl rfl rfl ?_)
  clear hra4 hrb4 csa
  obtain ⟨U, hU⟩ : ∃ U, U = tx ([60, 61] ++ vb hi) := ⟨_, rfl⟩
  have HU : Hid (U = tx ([60, 61] ++ vb hi)) := hU
  have hU' := hU.symm
  clear hU
  have hown6 : (w4.alloc (.cells #[.string U] 9)).ownsRow w4.heap.size 9 1 (.slice none 0 0) 0 [] := own_below hown5 ((Below.refl _ _).alloc (Nat.le_refl _) _)
  have hob6 := own_block hown5
  go_upto_region 16 with (first | (refine wp_cat rfl _ _ rfl [60, 61] (vb hi) rfl (by rw [tx_vb]; rfl) (by show 2 + _ ≤ _; omega) ?_; rw [hU']) | (at_builtin; refine wpList_ap_one rfl (some 65) rfl _ _ rfl w4.heap.size (.slice none 0 0) 0 [] rfl U rfl w4.heap.size rfl hown6 rfl hlow5 (by omega) ?_; intro v7 w7 ho7 hg7))
  have hb7 : Below w4.heap.size w4 w7 := ((Below.refl _ _).alloc hlow5 _).trans (below_own' hg7 (by first | (simp; done) | (simp; omega)) fun k hk => (hob6 k hk).1)
  have HB7 : Hid (Below w.heap.size w w7) := (PcS.old HS4.out).trans (hb7.mono (PcS.old HS4.out).size)
  have hown7 : w7.ownsRow w4.heap.size 9 1 v7 1 [.string U] := ho7
  clear ho7 hg7 hb7 hown6 hob6 hU' hown5
  have hform : ∃ g c, v7 = .slice (some ⟨g, 0, none⟩) 1 c := by
    obtain ⟨_, ⟨_, h0⟩ | ⟨g, cap, cur, h1, _⟩⟩ := hown7
    · exact absurd h0 (by decide)
    · exact ⟨g, cap, h1⟩
  obtain ⟨vg, vc, rfl⟩ := hform
  have HMp : Hid ([U].map vb = [[60, 61] ++ textV b.v]) := by
    show [vb U] = _
    rw [HU.out, vb_tx, HLB.out]
  have hj := join_any [U] 44 w7 hown7 (by simp) (by
    rw [HMp.out, ← HLB.out]
    simp [joinC]
    omega) (by simp)
  rw [HMp.out] at hj
  obtain ⟨J, hJ⟩ : ∃ J, J = tx (joinC 44 [[60, 61] ++ textV b.v]) := ⟨_, rfl⟩
  rw [← hJ] at hj
  have HJ : Hid (J = tx (joinC 44 [[60, 61] ++ textV b.v])) := hJ
  clear hJ hown7 HMp
  go_wp2_with fail
  refine hj.mono ?_
  rintro e w8 ⟨rfl, hb8⟩
  clear hj
  go_wp2
  go_ret
  exact ⟨(by show Ending.returned (.string J) = _; rw [HJ.out]; rfl), HB7.out.trans (hb8.mono HB7.out.size)⟩
set_option maxRecDepth 20000 in
set_option maxHeartbeats 4000000 in
theorem piece_nnf {a b : Cut} (w : World) (hT : Pw w) (ha1 : ¬ a.side = 1) (ha2 : ¬ a.side = 2) (hb1 : ¬ b.side = 1) (hb2 : ¬ b.side = 2) : Calls Tryd.prog 25 #[cutV a, cutV b] w fun e w' => e = .returned (.string (tx ([42]))) ∧ Below w.heap.size w w' := by
  have hd : ¬ a = ⟨1, b.v⟩ := fun e => ha1 (by rw [e])
  have HDD : Hid (decide (a = ⟨1, b.v⟩) = false) := decide_eq_false hd
  clear hd
  have HS2 : Hid (PcS w a b (twoC w a b)) := PcS.start w a b hT
  obtain ⟨w2, hw2⟩ : ∃ x, x = twoC w a b := ⟨_, rfl⟩
  have hw2' := hw2.symm
  rw [← hw2] at HS2
  obtain ⟨lo, na, ea, la, sla⟩ := text_form a.v
  obtain ⟨hi, nb, eb, lb, slb⟩ := text_form b.v
  have hta := text_ok a.v w2 (PcS.t HS2.out)
  rw [ea] at hta
  have HTB : Hid (∀ wx, Pw wx → Calls Tryd.prog 19 #[verV b.v] wx fun e w' => e = .returned (.tuple #[.string hi, .int .i64 nb]) ∧ Below wx.heap.size wx w') := fun wx h => by have h1 := text_ok b.v wx h; rw [eb] at h1; exact h1
  have sla2 : lo.size ≤ 60 := by rw [← vb_len]; exact sla
  have slb2 : hi.size ≤ 60 := by rw [← vb_len]; exact slb
  have hra2 := row_ver (PcS.a HS2.out)
  have e1 : lo = tx (vb lo) := (tx_vb _).symm
  have e2 : hi = tx (vb hi) := (tx_vb _).symm
  have HE1 : Hid (lo = tx (vb lo)) := e1
  have HE2 : Hid (hi = tx (vb hi)) := e2
  clear la lb hw2 hT ea eb e1 e2
  go_enter Tryd.func25, Tryd.ntmps25
  go_wp2_with (first | refine wpList_load_mid rfl 34 _ rfl w.heap.size 1 rfl _ _ hra2 Tryd.underlying34 rfl infoVs ?_ | fail)
  refine hta.mono ?_
  rintro e w3 ⟨rfl, hb3⟩
  have HS3 : Hid (PcS w a b w3) := PcS.next HS2.out hb3
  have htb := HTB.out w3 (PcS.t HS3.out)
  have hrb3 := row_ver (PcS.b HS3.out)
  clear hta hb3 HS2 HTB hra2 hw2'
  go_wp2_with (first | refine wpList_load_mid rfl 34 _ rfl (w.heap.size + 1) 1 rfl _ _ hrb3 Tryd.underlying34 rfl infoVs ?_ | fail)
  refine htb.mono ?_
  rintro e w4 ⟨rfl, hb4⟩
  have HS4 : Hid (PcS w a b w4) := PcS.next HS3.out hb4
  have hra4 := PcS.a HS4.out
  have hrb4 := row_ver (PcS.b HS4.out)
  have csa := PcS.sideA HS4.out
  have csb := PcS.sideB HS4.out
  clear htb hb4 HS3 hrb3
  obtain ⟨sa, hsa⟩ : ∃ s, s = a.side := ⟨_, rfl⟩
  rw [← hsa] at csa ha1 ha2
  have ga1 := beqI ha1
  have ga2 := beqI ha2
  clear hsa
  obtain ⟨sb, hsb⟩ : ∃ s, s = b.side := ⟨_, rfl⟩
  rw [← hsb] at csb hb1 hb2
  have gb1 := beqI hb1
  have gb2 := beqI hb2
  clear hsb
  have hown5 : w4.ownsRow w4.heap.size 9 1 (.slice none 0 0) 0 [] := World.ownsRow_nil _ _ _ _
  have hlow5 : w4.heap.size ≤ w4.heap.size := Nat.le_refl _
  go_upto_region 11 with (first | refine wpList_load_row rfl 62 _ rfl w.heap.size rfl 62 (cutC a) (0, 0) _ hra4 Tryd.underlying62 rfl infoC ?_ | refine wpList_load_mid rfl 34 _ rfl (w.heap.size + 1) 1 rfl _ _ hrb4 Tryd.underlying34 rfl infoVs ?_ | refine wp_eqcV a ⟨1, b.v⟩ false HDD.out rfl _ _ rfl rfl rfl ?_)
  clear hra4 hrb4 csa
  have HB7 : Hid (Below w.heap.size w w4) := PcS.old HS4.out
  go_wp2
  go_ret
  exact ⟨rfl, HB7.out⟩
end Go.Proofs.YtdhmlcelofnkgaaDoor
