/- The walk of the law WalWhole. -/
import Derived.Test.YtlbapnecmhlgmaaWKit3
namespace Go.Proofs.Ytlbapnecmhlgmaa
open Go.RowKit

set_option maxRecDepth 20000 in
set_option maxHeartbeats 16000000 in
theorem law_whole (a : Option Addr) (b off len cap : Nat) (X : Nat → ActD) (n : Int) (ka : Option Addr) (kb koff klen kcap : Nat) (kf : Nat → Bool) (w : World) (hA : Acts w a b off len X) (hcap : len ≤ cap) (hcap2 : cap ≤ maxLen)
    (hK : Bl w ka kb koff klen kf) (hkl : klen ≤ 140737488351232) :
    Calls Try.prog 5 #[.slice a len cap, .int .i64 n, .slice ka klen kcap] w fun e w' => e = .returned (.bool true) ∧ Below w.heap.size w w' := by
  have HN := new_ok 12 w (by decide) (by decide)
  have HA : Hid _ := hA
  have HKK : Hid _ := hK
  have HKL : Hid _ := hkl
  unfold maxLen at hcap2
  clear hA hK hkl
  go_enter Try.func5, Try.ntmps5
  go_wp2_with fail
  refine HN.mono ?_
  rintro e w1 ⟨g, g1, c1, g2, c2, rfl, hD, hb1⟩
  have hs1 := hb1.size
  have hOp := open_new hD 0 4 (by omega) (by omega) (by decide) (unmarked_zero _ (fun i _ => rfl))
  have HO : Hid _ := hOp
  have HD : Hid _ := hD
  clear hD HN hOp
  go_wp2_with fail
  refine Calls.mono HO.out ?_
  rintro e w2 ⟨gj, gm, rfl, hJ2, hb2⟩
  have hS2 : Sh w g g1 c1 g2 c2 gj gm (.slice none 0 0) (freshD 12 fun _ => 0) ⟨0, 4, []⟩ w2 :=
    ⟨HD.out.below hb2 (Nat.le_refl _), ⟨hJ2.row, hJ2.map, Nat.le_trans hs1 hJ2.geJ, Nat.le_trans hs1 hJ2.geM⟩, ⟨by decide, by decide, by decide, by decide, fun _ h => nomatch h⟩, rfl, rfl, rfl, hb1.trans (hb2.mono hs1)⟩
  have HS2 : Hid _ := hS2
  clear hJ2 hb2 hS2 HO HD
  go_upto_if 49 with fail
  go_cut [0] (fun s0 wx => ∃ m : Nat, m ≤ 40 ∧ s0 = .slice a m cap ∧ Hid (Acts w a b off m X) ∧ wx = w2)
  case first =>
    by_cases hl : 40 < len
    · obtain rfl := HA.out.at' (by omega)
      go_wp2
      go_meet
      exact ⟨40, by omega, rfl, ⟨fun _ => rfl, fun i hi => HA.out.cell i (by omega), fun i hi => HA.out.is i (by omega)⟩, rfl⟩
    · go_wp2
      go_meet
      exact ⟨len, by omega, rfl, HA.out, rfl⟩
  case rest =>
    obtain ⟨m, hm, rfl, HAm, hwc⟩ := hcut
    subst wc
    clear HA hcap
    have HSh := HS2.out.shown
    have HHS : Hid _ := HSh
    clear HSh
    go_wp2_with fail
    refine Calls.mono HHS.out ?_
    rintro e w3 ⟨rfl, HS3⟩
    clear HHS HS2
    obtain ⟨t0, ht0⟩ : ∃ t, t = shN (freshD 12 fun _ => 0).B 8 := ⟨_, rfl⟩
    rw [← ht0]
    have HT0 : Hid _ := ht0
    clear ht0
    have hsz3 := HS3.out.old.size
    have hS4 := HS3.out.next ((Below.refl _ w3).alloc (Nat.le_refl _) (.cells #[.string t0] 9))
    have hEv : Calls Try.prog 26 #[.pointer (some ⟨g, 0, none⟩)] (w3.alloc (.cells #[.string t0] 9)) fun e w' => e = .returned (.int .i64 0) ∧ w' = (w3.alloc (.cells #[.string t0] 9)) := events_yes hS4.disk
    have HEv : Hid _ := hEv
    have hr4 : (w3.alloc (.cells #[.string t0] 9)).ownsRow w.heap.size 9 1 (.slice (some ⟨w3.heap.size, 0, none⟩) 1 1) 1 [.string t0] := by
      have h := World.ownsRow_lit (base := w.heap.size) (e := 9) (size := 1) w3 #[.string t0] 1 hsz3 (by decide) rfl
      simpa using h
    have hb45 := (Below.refl _ (w3.alloc (.cells #[.string t0] 9))).alloc (Nat.le_refl _) (.cells #[.int .i64 0] 3)
    have hW5 : Wr w g g1 c1 g2 c2 gj gm (.slice none 0 0) (freshD 12 fun _ => 0) ⟨0, 4, []⟩ [t0] [0] (.slice (some ⟨w3.heap.size, 0, none⟩) 1 1) (.slice (some ⟨w3.heap.size + 1, 0, none⟩) 1 1) ((w3.alloc (.cells #[.string t0] 9)).alloc (.cells #[.int .i64 0] 3)) := by
      refine ⟨hS4.next hb45, own_below hr4 hb45, ?_⟩
      have h := World.ownsRow_lit (base := w.heap.size) (e := 3) (size := 1) (w3.alloc (.cells #[.string t0] 9)) #[.int .i64 0] 1 (by simp; omega) (by decide) rfl
      simpa using h
    have HW5 : Hid _ := hW5
    have HH0 : Hid (Hs (freshD 12 fun _ => 0) [t0] [0]) := by
      rw [show t0 = _ from HT0.out]
      exact Hs.start
    clear hS4 hEv hr4 hb45 hW5 HS3
    go_wp2_with fail
    refine Calls.mono HEv.out ?_
    rintro e w' ⟨rfl, hw'⟩
    subst w'
    clear HEv
    go_wp2
    generalize (w3.alloc (.cells #[.string t0] 9)).alloc (.cells #[.int .i64 0] 3) = w5 at *
    go_loopw [10, 11, 12] (fun sv xv iv wx => ∃ (j : Nat) (ev : Value) (D : Dk) (J : Jn) (sts : List ByteArray) (ends : List Nat), j ≤ m ∧ iv = .int .i64 j ∧ Hid (D.E.length ≤ 12 * j) ∧ Hid (sts.length ≤ j + 1) ∧ Hid (Hs D sts ends) ∧ Hid (Wr w g g1 c1 g2 c2 gj gm ev D J sts ends sv xv wx)) (fun _ _ iv _ => m - (intOf iv).toNat)
    case atStart => exact ⟨0, .slice none 0 0, freshD 12 (fun _ => 0), ⟨0, 4, []⟩, [t0], [0], Nat.zero_le _, rfl, Nat.le_refl _, Nat.le_refl _, HH0, HW5⟩
    case round =>
      obtain ⟨j, ev, D, J, sts, ends, hj, rfl, hE, hSl, hHs, hS⟩ := hrel
      clear HW5 HH0 HT0
      by_cases hlt : j < m
      · obtain rfl := HAm.out.at' (by omega)
        have hold := hS.out.sh.old
        have hsq := hold.size
        have hAq := HAm.out.belowAll hold
        have HRG : Hid _ := hAq.range j hlt
        have HIN : Hid _ := HAm.out.is j hlt
        have hA6 := info43c (X j)
        have hA6a := info43a (X j)
        have hAo := (X j).cells_one
        have hAs : (X j).cells.size = 6 := rfl
        have a0 : (X j).cells[0]? = some (.int .i64 (X j).kind) := rfl
        have a1 : (X j).cells[1]? = some (.int .i64 (X j).n) := rfl
        have hkd := HIN.out.kind
        obtain ⟨kk, hkk, hk8⟩ := and7 (X j).n
        have hRA : Row (wr.alloc (.cells (X j).cells 43)) wr.heap.size (X j).cells 43 := Row.new wr _ 43
        have hbW : Below wr.heap.size wr (wr.alloc (.cells (X j).cells 43)) := (Below.refl _ _).alloc (Nat.le_refl _) _
        have hSA := hS.out.next hbW
        have hSc := sector_full (X j) _ (HIN.out.below (hSA.sh.old.trans (Below.refl _ _).drew))
        have hfb := secOf_bd (X j).len (X j).f (X j).fill HIN.out.bytes.bd HIN.out.fill
        generalize hFS : secOf (X j).len (X j).f (X j).fill = FS at *
        generalize hAA : (X j).cells = A at *
        have c0A := (hRA.cell 0).trans a0
        have HSC : Hid _ := hSc
        have HSA : Hid _ := hSA
        have HFB : Hid _ := hfb
        have HRA : Hid _ := hRA
        have hSlN := hSl.out
        clear hAA hFS hSc hSA hfb hAq hold hS hbW hRA
        by_cases hk1 : (X j).kind = 1
        · skip
          have hCo := HSA.out.commit hHs.out (by have := hE.out; omega)
          have HCo : Hid _ := hCo
          clear hCo HSC
          go_wp2_with (first
            | (refine wpList_load_mid rfl 43 _ rfl b (off + j * 6) rfl A.toList _ HRG.out Try.underlying43 rfl hA6 ?_; simp only [Array.toArray_toList])
            | refine wpList_store_new rfl 43 _ _ rfl wr _ A 43 rfl wr.heap.size rfl rfl rfl hA6a hAs.symm hAo ?_)
          refine Calls.mono HCo.out ?_
          rintro e w6 ⟨rfl, ev6, D6, J6, HW6, hE6, hH6⟩
          have hSh := HW6.out.sh.shown
          have HSh : Hid _ := hSh
          clear hSh HCo HSA c0A HRA
          go_wp2_with fail
          refine Calls.mono (shown_ok HW6.out.sh.disk HW6.out.sh.s12) ?_
          rintro e w7 ⟨rfl, hb7⟩
          have HW7 : Hid _ := HW6.out.next hb7
          obtain ⟨t7, ht7⟩ : ∃ t, t = shN D6.B 8 := ⟨_, rfl⟩
          rw [← ht7]
          have HT7 : Hid _ := ht7
          have hb7z : w.heap.size ≤ w7.heap.size := HW7.out.sh.old.size
          have HRS : Hid _ := HW7.out.rs
          clear ht7 hb7 HSh
          go_wp2_with (at_builtin; refine wpList_txt rfl _ _ rfl w.heap.size u10 sts t7 w7 rfl rfl HRS w7.heap.size rfl rfl (by omega) hb7z ?_)
          intro sv8 w8 own8 hg8
          have HW8 : Hid _ := HW7.out.txt t7 sv8 (by simpa using own8) hg8
          have hEv8 := events_yes HW8.out.sh.disk
          obtain ⟨EL, hEL⟩ : ∃ EL, EL = D6.E.length := ⟨_, rfl⟩
          rw [← hEL] at hEv8
          have HEL : Hid _ := hEL
          have HEv8 : Hid _ := hEv8
          clear hEv8 hEL own8 hg8 HW7 HRS
          go_wp2_with fail
          refine Calls.mono HEv8.out ?_
          rintro e w' ⟨rfl, hw'⟩
          subst w'
          have hb8z : w.heap.size ≤ w8.heap.size := HW8.out.sh.old.size
          have HRE : Hid _ := HW8.out.re
          have hel : ends.length ≤ 1000 := by rw [hHs.out.len]; omega
          clear HEv8
          go_wp2_with (at_builtin; refine wpList_num rfl _ _ rfl w.heap.size u11 ends EL w8 rfl rfl HRE w8.heap.size rfl rfl hel hb8z ?_)
          intro xv9 w9 own9 hg9
          have HW9 : Hid _ := HW8.out.num EL xv9 (by simpa using own9) hg9
          clear own9 hg9 HW8 HRE
          go_wp2
          go_roundw
          case rel => exact ⟨j + 1, ev6, D6, J6, sts ++ [t7], ends ++ [EL], by omega, by go_num, (by have := hE.out; have := hE6.out; show _ ≤ _; omega), (by show _ ≤ _; simp; omega), (by rw [show t7 = _ from HT7.out, show EL = _ from HEL.out]; exact hH6), HW9⟩
          case measure => simp [intOf]; omega
        · skip
          go_wp2_with (first
            | (refine wpList_load_mid rfl 43 _ rfl b (off + j * 6) rfl A.toList _ HRG.out Try.underlying43 rfl hA6 ?_; simp only [Array.toArray_toList])
            | refine wpList_store_new rfl 43 _ _ rfl wr _ A 43 rfl wr.heap.size rfl rfl rfl hA6a hAs.symm hAo ?_
            | fail)
          refine wp_region_mix [false, false, false, false, false, false, true, true] (fun wx => Row wx wr.heap.size A 43) (by kernel_rfl) (by kernel_rfl) HRA.out ?_
          refine m_move _ rfl (by rfl) ?_
          simp only [Act.put, List.setIfInBounds_toArray, List.set_cons_zero, List.set_cons_succ]
          refine m_value ?_ (by rfl) (fun w hw => ?_) ?_
          rotate_left
          · go_simp
            with_reducible rfl
          simp only [Act.put, List.setIfInBounds_toArray, List.set_cons_zero, List.set_cons_succ]
          refine m_value ?_ (by rfl) (fun w hw => ?_) ?_
          rotate_left
          · have hc := (hw.cell 1).trans a1
            go_simp
            with_reducible rfl
          simp only [Act.put, List.setIfInBounds_toArray, List.set_cons_zero, List.set_cons_succ]
          refine m_value ?_ (by rfl) (fun w hw => ?_) ?_
          rotate_left
          · go_simp
            with_reducible rfl
          simp only [Act.put, List.setIfInBounds_toArray, List.set_cons_zero, List.set_cons_succ]
          refine m_value ?_ (by rfl) (fun w hw => ?_) ?_
          rotate_left
          · go_simp
            with_reducible rfl
          simp only [Act.put, List.setIfInBounds_toArray, List.set_cons_zero, List.set_cons_succ]
          refine m_load 43 _ rfl (by rfl) wr.heap.size A 43 _ rfl (fun w hw => hw) Try.underlying43 rfl hA6a ?_
          simp only [Act.put, List.setIfInBounds_toArray, List.set_cons_zero, List.set_cons_succ]
          refine m_call (by rfl) 12 #[.agg A] (by go_simp) (Calls.mono HSC.out fun e w4 ⟨gs, cs, cur, he, hgs, hcur, hcc, hb4⟩ => ⟨_, he, Row.below HRA.out ((Below.refl _ _).drew.trans hb4) (Row.lt HRA.out), ?_⟩)
          have HS4 : Hid _ := (HSA.out.next (Below.refl _ _).drew).next hb4
          have hRA4 : Row w4 wr.heap.size A 43 := Row.below HRA.out ((Below.refl _ _).drew.trans hb4) (Row.lt HRA.out)
          have hn12 : 4 + kk < D.s := by have := HS4.out.sh.s12; omega
          have hnown : 4 + kk < J.at' ∨ J.at' + J.sec ≤ 4 + kk := by have := HS4.out.sh.at0; have := HS4.out.sh.sec4; omega
          have hPu := put_ok HS4.out.sh.disk HS4.out.sh.jn HS4.out.sh.ok (4 + kk) hn12 hnown gs cs FS HFB.out cur hcur hcc
          rw [show ((4 + kk : Nat) : Int) = 4 + (kk : Int) by omega] at hPu
          have HPu : Hid _ := hPu
          have HRA4 : Hid _ := hRA4
          subst he
          clear hPu hRA4 hcur hcc hb4 HSC
          simp only [Act.put, List.setIfInBounds_toArray, List.set_cons_zero, List.set_cons_succ]
          have hwk : IntKind.i64.wrap (4 + (kk : Int)) = 4 + (kk : Int) := by rw [IntKind.wrap_i64]; omega
          refine m_call (by rfl) 13 #[.pointer (some ⟨gj, 0, none⟩), .int .i64 (4 + (kk : Int)), .slice (some ⟨gs, 0, none⟩) 256 cs] (by go_simp) (Calls.mono HPu.out fun e w6 hres => ?_)
          have hnx : ∃ v, e = .returned v ∧ Row w6 wr.heap.size A 43 ∧ ∃ J', Hid (Wr w g g1 c1 g2 c2 gj gm ev D J' sts ends u10 u11 w6) := by
            rcases hres with ⟨rfl, hlk, hfull, hb6⟩ | ⟨rfl, _, L', w6a, hJ6, hok6, hl6, hb6, hJ6a, hO6⟩
            · exact ⟨_, rfl, Row.below HRA4.out hb6 (Row.lt HRA4.out), J, HS4.out.next hb6⟩
            · have hr := Row.below HRA4.out hb6 (Row.lt HRA4.out)
              exact ⟨_, rfl, (hO6.block _ (hJ6a.map.row_ne hr).symm).trans hr, _, HS4.out.put hJ6 hok6 hb6 hJ6a hO6⟩
          obtain ⟨v6, he6, hR6, J', HW6⟩ := hnx
          refine ⟨v6, he6, hR6, ?_⟩
          clear hres hR6 HPu HS4 he6
          simp only [Act.put, List.setIfInBounds_toArray, List.set_cons_zero, List.set_cons_succ]
          refine m_done ?_
          try simp only [Exit.then]
          go_wp2
          go_roundw
          case rel => exact ⟨j + 1, ev, D, J', sts, ends, by omega, by go_num, (by have := hE.out; show _ ≤ _; omega), (by show _ ≤ _; omega), hHs, HW6⟩
          case measure => simp [intOf]; omega
      · skip
        obtain ⟨wE, rfl⟩ : ∃ x, x = wr := ⟨wr, rfl⟩
        have P0 := hS.out
        have hEv := events_yes P0.sh.disk
        obtain ⟨EL, hEL⟩ : ∃ EL, EL = D.E.length := ⟨_, rfl⟩
        rw [← hEL] at hEv
        have hELb : EL ≤ 480 := by have := hE.out; omega
        obtain ⟨q, p, hq1, hq2, hq3, hq4, hp⟩ := mod_spec EL n
        have hlz : ¬ ((EL : Int) + 1 = 0) := by omega
        have HA1 := after_ok P0.sh.disk p (by omega) (by omega) ka kb koff klen kcap kf (HKK.out.belowAll P0.sh.old) HKL.out
        have hX0 : D.after p klen kf = freshD 12 (lossF D p klen kf) := by unfold Dk.after; rw [P0.sh.s12]
        rw [hX0] at HA1
        have HLS : Hid (∀ k, k < sts.length → ends.getD k 0 ≤ p → (k + 1 < sts.length → p < ends.getD (k + 1) 0) → Rec (sts.getD k ⟨#[]⟩) (lossF D p klen kf) ∨ (k + 1 < sts.length ∧ Rec (sts.getD (k + 1) ⟨#[]⟩) (lossF D p klen kf))) := fun k x1 x2 x3 => hHs.out.loss p (by omega) k x1 x2 x3 klen kf
        generalize lossF D p klen kf = XX at *
        have HHA : Hid _ := HA1
        have HEv : Hid _ := hEv
        have HP0 : Hid _ := P0
        clear HA1 P0 hX0 hS hEL hEv hE
        go_wp2_with fail
        refine Calls.mono HEv.out ?_
        rintro e w' ⟨rfl, hw'⟩
        subst w'
        clear HEv
        go_wp2_with fail
        refine Calls.mono HHA.out ?_
        rintro e wO ⟨go, go1, co1, go2, co2, rfl, hO5, hb5⟩
        have HO5 : Hid _ := hO5
        have HB5 : Hid _ := hb5
        have hP5 := HP0.out.next hb5
        have hRS := hP5.rs
        have hRE := hP5.re
        have hel := hHs.out.len
        have hpos := hHs.out.pos
        obtain ⟨qs, cs, _, hsv, _, _⟩ := own_sl hRS hpos
        obtain ⟨qe, ce, _, hxv, _, _⟩ := own_sl hRE (by omega)
        subst hsv
        subst hxv
        have HSC : Hid (∀ wx : World, wx.ownsRow w.heap.size 9 1 (.slice (some ⟨qs, 0, none⟩) sts.length cs) sts.length (sts.map Value.string) → ∀ k, k < sts.length → wx.cell? ⟨qs, k, none⟩ = some (.string (sts.getD k ⟨#[]⟩))) := fun wx h k hk => own_str h k hk
        have HEC : Hid (∀ k, k < ends.length → wO.cell? ⟨qe, k, none⟩ = some (.int .i64 (ends.getD k 0 : Nat))) := fun k hk => own_int hRE k hk
        have HF0 : Hid (ends.getD 0 0 ≤ p) := by show _ ≤ _; rw [hHs.out.first]; omega
        obtain ⟨NL, hNL⟩ : ∃ NL, NL = sts.length := ⟨_, rfl⟩
        have hNL41 : NL ≤ 41 := by have := hSl.out; omega
        have HRS : Hid _ := hRS
        have HOLD : Hid _ := HP0.out.sh.old
        have HPOS : Hid _ := hpos
        rw [hel, ← hNL] at HEC
        have HNL : Hid _ := hNL
        simp only [hel, ← hNL]
        clear hP5 hRS hRE hO5 hb5 hel hpos HHA HP0 hHs hSl hq1 hq2 hq3 hq4 hlz hNL
        have hp480 : p ≤ 480 := by omega
        go_wp2
        go_loopw [16] (fun kv wx => ∃ k : Nat, k < NL ∧ kv = .int .i64 k ∧ Hid (ends.getD k 0 ≤ p) ∧ Hid (wx = wO)) (fun kv _ => NL - (intOf kv).toNat)
        case atStart => exact ⟨0, by rw [show NL = _ from HNL.out]; exact HPOS.out, rfl, HF0, rfl⟩
        case round =>
          obtain ⟨k, hk, rfl, hkE, hwx⟩ := hrel
          obtain rfl : wr = wO := hwx.out
          by_cases h1 : k + 1 < NL
          · have hc := HEC.out (k + 1) h1
            obtain ⟨e1, he1⟩ : ∃ e1, e1 = ends.getD (k + 1) 0 := ⟨_, rfl⟩
            rw [← he1] at hc
            have HE1 : Hid _ := he1
            clear he1
            by_cases h2 : e1 ≤ p
            · skip
              go_wp2
              go_roundw
              case rel => exact ⟨k + 1, h1, by go_num, (by rw [← show e1 = _ from HE1.out]; exact h2), True.intro⟩
              case measure => simp [intOf]; omega
            · skip
              have HNO : Hid (k + 1 < sts.length → p < ends.getD (k + 1) 0) := fun _ => by rw [← show e1 = _ from HE1.out]; omega
              obtain ⟨T, hRT, hTk⟩ : ∃ T, Rec T XX ∧ (T = sts.getD k ⟨#[]⟩ ∨ (k + 1 < NL ∧ T = sts.getD (k + 1) ⟨#[]⟩)) := by
                rcases HLS.out k (by rw [← show NL = _ from HNL.out]; exact hk) hkE.out HNO.out with h | ⟨h, h'⟩
                · exact ⟨_, h, .inl rfl⟩
                · exact ⟨_, h', .inr ⟨by rw [show NL = _ from HNL.out]; exact h, rfl⟩⟩
              have HRT : Hid _ := hRT
              have HTk : Hid _ := hTk
              have hAf := after_zero HO5.out
              have HAf : Hid _ := hAf
              clear hRT hTk hAf HLS HNO
              go_wp2_with fail
              refine Calls.mono HAf.out ?_
              rintro e wF ⟨gf, gf1, cf1, gf2, cf2, rfl, hF6, hb6⟩
              have hOp := open_rec hF6 hb6.size (by show 0 ≤ _; omega) rfl T HRT.out
              have HOp : Hid _ := hOp
              have HB6 : Hid _ := hb6
              clear hOp hF6 hb6 HAf
              go_wp2_with fail
              refine Calls.mono HOp.out ?_
              rintro e wG ⟨gx, ev1, D1, rfl, hT7, hFr7, hB7, hO7⟩
              have hEv7 := events_yes hT7.out.disk
              have HLH : Hid (Rec T (lossF D1 (D1.E.length / 2) klen kf)) := hO7.out.half rfl rfl klen kf
              obtain ⟨E1, hE1⟩ : ∃ E1, E1 = D1.E.length := ⟨_, rfl⟩
              have hE6 : E1 ≤ 6 := by have := hO7.out.len; rw [hE1]; exact this
              obtain ⟨h2, hh2⟩ : ∃ h2, h2 = E1 / 2 := ⟨_, rfl⟩
              have hdv : (E1 : Int).tdiv 2 = (h2 : Int) := by rw [hh2, Int.tdiv_eq_ediv_of_nonneg (by omega)]; omega
              have hh3 : h2 ≤ 3 := by omega
              rw [← hE1] at hEv7 HLH
              rw [← hh2] at HLH
              have hAh := after_ok hT7.out.disk h2 (by omega) (by omega) ka kb koff klen kcap kf (HKK.out.belowAll (HOLD.out.trans ((HB5.out.trans ((HB6.out.trans hB7.out).mono HB5.out.size)).mono HOLD.out.size))) HKL.out
              have hX1 : D1.after h2 klen kf = freshD 12 (lossF D1 h2 klen kf) := by unfold Dk.after; rw [hO7.out.s12]
              rw [hX1] at hAh
              generalize lossF D1 h2 klen kf = XH at *
              have HAh : Hid _ := hAh
              have HEv7 : Hid _ := hEv7
              clear hAh hEv7 hX1 hE1 hh2 HOp
              go_wp2_with fail
              refine Calls.mono HEv7.out ?_
              rintro e w' ⟨rfl, hw'⟩
              subst w'
              clear HEv7
              go_wp2_with fail
              refine Calls.mono HAh.out ?_
              rintro e wH ⟨gh, gh1, ch1, gh2, ch2, rfl, hH8, hb8⟩
              have HRl : Hid (Rl w (.slice (some ⟨qs, 0, none⟩) sts.length cs) sts T wH.heap.size go gf gh 0 (wH.alloc (.cells #[.pointer (some ⟨go, 0, none⟩), .pointer (some ⟨gh, 0, none⟩)] 23))) := rl_start HRS.out HOLD.out HB5.out HO5.out HB6.out hT7.out hB7.out hO7.out hH8 hb8 HRT.out HLH.out
              clear hH8 hb8 HAh hT7 hB7 hO7 hFr7 HLH HB6 HRT hdv
              go_wp2
              generalize wH.alloc (.cells #[.pointer (some ⟨go, 0, none⟩), .pointer (some ⟨gh, 0, none⟩)] 23) = wI at *
              generalize wH.heap.size = bl at *
              go_loopw [166] (fun iv wx => ∃ i : Nat, i ≤ 2 ∧ iv = .int .i64 i ∧ Hid (Rl w (.slice (some ⟨qs, 0, none⟩) sts.length cs) sts T bl go gf gh i wx)) (fun iv _ => 2 - (intOf iv).toNat)
              case atStart => exact ⟨0, by omega, rfl, HRl⟩
              case round =>
                obtain ⟨i, hi, rfl, hR⟩ := hrel
                clear HRl
                obtain ⟨wL, rfl⟩ : ∃ x, x = wr := ⟨wr, rfl⟩
                by_cases hi2 : i < 2
                · obtain ⟨bx, gx, gx1, cx1, gx2, cx2, XX', hcell, HDx, HRx, HBx, HNx⟩ := hR.out.take hi2
                  have HTw0 : Hid (Tw wL bx gx gx1 cx1 gx2 cx2 T 0 (.slice none 0 0) (freshD 12 XX') wL) := Tw.start HDx.out HRx.out
                  have hiI : (i : Int) < 2 := by omega
                  clear HDx HRx hR
                  go_wp2
                  go_loopw [22] (fun tv wx => ∃ (t : Nat) (ev' : Value) (D' : Dk), t ≤ 2 ∧ tv = .int .i64 t ∧ Hid (Tw wL bx gx gx1 cx1 gx2 cx2 T t ev' D' wx)) (fun tv _ => 2 - (intOf tv).toNat)
                  case atStart => exact ⟨0, .slice none 0 0, freshD 12 XX', by omega, rfl, HTw0⟩
                  case round =>
                    obtain ⟨t, ev', D', ht, rfl, hTw⟩ := hrel
                    clear HTw0
                    by_cases ht2 : t < 2
                    · have hOq := hTw.out.open' ht HBx.out
                      have HOq : Hid _ := hOq
                      clear hOq
                      go_wp2_with fail
                      refine Calls.mono HOq.out ?_
                      rintro e wM ⟨gy, ev2, D2, rfl, HT2⟩
                      clear HOq
                      go_wp2
                      go_roundw
                      case rel => exact ⟨t + 1, ev2, D2, by omega, by go_num, HT2⟩
                      case measure => simp [intOf]; omega
                    · have ht' : t = 2 := by omega
                      subst ht'
                      have HNN : Hid (Rl w (.slice (some ⟨qs, 0, none⟩) sts.length cs) sts T bl go gf gh (i + 1) wr) := HNx.out _ _ _ hTw
                      clear hTw HNx
                      go_wp2
                      go_roundw
                      case rel => exact ⟨i + 1, by omega, by go_num, HNN⟩
                      case measure => simp [intOf]; omega
                · have hi' : i = 2 := by omega
                  subst hi'
                  have hEn := hR.out.end'
                  have hS1 := hEn.shown go (.inl rfl)
                  have HS1 : Hid _ := hS1
                  clear hEn hS1 hR
                  go_wp2_with fail
                  refine Calls.mono HS1.out ?_
                  rintro e wP ⟨rfl, HE1'⟩
                  have hS2 := HE1'.out.shown gf (.inr (.inl rfl))
                  have HS2' : Hid _ := hS2
                  clear hS2 HS1 HE1'
                  go_wp2_with fail
                  refine Calls.mono HS2'.out ?_
                  rintro e wQ ⟨rfl, HE2'⟩
                  have hS3 := HE2'.out.shown gh (.inr (.inr rfl))
                  have HS3' : Hid _ := hS3
                  clear hS3 HS2' HE2'
                  go_wp2_with fail
                  refine Calls.mono HS3'.out ?_
                  rintro e wR ⟨rfl, HE3'⟩
                  have hkl : k < sts.length := by rw [← show NL = _ from HNL.out]; exact hk
                  have hck := HSC.out wR HE3'.out.rs k hkl
                  obtain ⟨T1, hT1⟩ : ∃ T1, T1 = sts.getD k ⟨#[]⟩ := ⟨_, rfl⟩
                  rw [← hT1] at hck
                  rcases HTk.out with h | ⟨h, h'⟩
                  · rw [← hT1] at h
                    subst h
                    clear HS3' hT1
                    go_wp2
                    go_ret
                    exact ⟨rfl, HE3'.out.old⟩
                  · have hck2 := HSC.out wR HE3'.out.rs (k + 1) (by rw [← show NL = _ from HNL.out]; exact h)
                    rw [← h'] at hck2
                    by_cases hTT : T = T1
                    · subst hTT
                      clear HS3' hT1 h' hck2
                      go_wp2
                      go_ret
                      exact ⟨rfl, HE3'.out.old⟩
                    · clear HS3' hT1 h'
                      go_wp2
                      all_goals
                        go_ret
                        exact ⟨rfl, HE3'.out.old⟩
          · skip
            have HNO : Hid (k + 1 < sts.length → p < ends.getD (k + 1) 0) := fun h => absurd h (by rw [← show NL = _ from HNL.out]; exact h1)
            obtain ⟨T, hRT, hTk⟩ : ∃ T, Rec T XX ∧ (T = sts.getD k ⟨#[]⟩ ∨ (k + 1 < NL ∧ T = sts.getD (k + 1) ⟨#[]⟩)) := by
              rcases HLS.out k (by rw [← show NL = _ from HNL.out]; exact hk) hkE.out HNO.out with h | ⟨h, h'⟩
              · exact ⟨_, h, .inl rfl⟩
              · exact ⟨_, h', .inr ⟨by rw [show NL = _ from HNL.out]; exact h, rfl⟩⟩
            have HRT : Hid _ := hRT
            have HTk : Hid _ := hTk
            have hAf := after_zero HO5.out
            have HAf : Hid _ := hAf
            clear hRT hTk hAf HLS HNO
            go_wp2_with fail
            refine Calls.mono HAf.out ?_
            rintro e wF ⟨gf, gf1, cf1, gf2, cf2, rfl, hF6, hb6⟩
            have hOp := open_rec hF6 hb6.size (by show 0 ≤ _; omega) rfl T HRT.out
            have HOp : Hid _ := hOp
            have HB6 : Hid _ := hb6
            clear hOp hF6 hb6 HAf
            go_wp2_with fail
            refine Calls.mono HOp.out ?_
            rintro e wG ⟨gx, ev1, D1, rfl, hT7, hFr7, hB7, hO7⟩
            have hEv7 := events_yes hT7.out.disk
            have HLH : Hid (Rec T (lossF D1 (D1.E.length / 2) klen kf)) := hO7.out.half rfl rfl klen kf
            obtain ⟨E1, hE1⟩ : ∃ E1, E1 = D1.E.length := ⟨_, rfl⟩
            have hE6 : E1 ≤ 6 := by have := hO7.out.len; rw [hE1]; exact this
            obtain ⟨h2, hh2⟩ : ∃ h2, h2 = E1 / 2 := ⟨_, rfl⟩
            have hdv : (E1 : Int).tdiv 2 = (h2 : Int) := by rw [hh2, Int.tdiv_eq_ediv_of_nonneg (by omega)]; omega
            have hh3 : h2 ≤ 3 := by omega
            rw [← hE1] at hEv7 HLH
            rw [← hh2] at HLH
            have hAh := after_ok hT7.out.disk h2 (by omega) (by omega) ka kb koff klen kcap kf (HKK.out.belowAll (HOLD.out.trans ((HB5.out.trans ((HB6.out.trans hB7.out).mono HB5.out.size)).mono HOLD.out.size))) HKL.out
            have hX1 : D1.after h2 klen kf = freshD 12 (lossF D1 h2 klen kf) := by unfold Dk.after; rw [hO7.out.s12]
            rw [hX1] at hAh
            generalize lossF D1 h2 klen kf = XH at *
            have HAh : Hid _ := hAh
            have HEv7 : Hid _ := hEv7
            clear hAh hEv7 hX1 hE1 hh2 HOp
            go_wp2_with fail
            refine Calls.mono HEv7.out ?_
            rintro e w' ⟨rfl, hw'⟩
            subst w'
            clear HEv7
            go_wp2_with fail
            refine Calls.mono HAh.out ?_
            rintro e wH ⟨gh, gh1, ch1, gh2, ch2, rfl, hH8, hb8⟩
            have HRl : Hid (Rl w (.slice (some ⟨qs, 0, none⟩) sts.length cs) sts T wH.heap.size go gf gh 0 (wH.alloc (.cells #[.pointer (some ⟨go, 0, none⟩), .pointer (some ⟨gh, 0, none⟩)] 23))) := rl_start HRS.out HOLD.out HB5.out HO5.out HB6.out hT7.out hB7.out hO7.out hH8 hb8 HRT.out HLH.out
            clear hH8 hb8 HAh hT7 hB7 hO7 hFr7 HLH HB6 HRT hdv
            go_wp2
            generalize wH.alloc (.cells #[.pointer (some ⟨go, 0, none⟩), .pointer (some ⟨gh, 0, none⟩)] 23) = wI at *
            generalize wH.heap.size = bl at *
            go_loopw [166] (fun iv wx => ∃ i : Nat, i ≤ 2 ∧ iv = .int .i64 i ∧ Hid (Rl w (.slice (some ⟨qs, 0, none⟩) sts.length cs) sts T bl go gf gh i wx)) (fun iv _ => 2 - (intOf iv).toNat)
            case atStart => exact ⟨0, by omega, rfl, HRl⟩
            case round =>
              obtain ⟨i, hi, rfl, hR⟩ := hrel
              clear HRl
              obtain ⟨wL, rfl⟩ : ∃ x, x = wr := ⟨wr, rfl⟩
              by_cases hi2 : i < 2
              · obtain ⟨bx, gx, gx1, cx1, gx2, cx2, XX', hcell, HDx, HRx, HBx, HNx⟩ := hR.out.take hi2
                have HTw0 : Hid (Tw wL bx gx gx1 cx1 gx2 cx2 T 0 (.slice none 0 0) (freshD 12 XX') wL) := Tw.start HDx.out HRx.out
                have hiI : (i : Int) < 2 := by omega
                clear HDx HRx hR
                go_wp2
                go_loopw [22] (fun tv wx => ∃ (t : Nat) (ev' : Value) (D' : Dk), t ≤ 2 ∧ tv = .int .i64 t ∧ Hid (Tw wL bx gx gx1 cx1 gx2 cx2 T t ev' D' wx)) (fun tv _ => 2 - (intOf tv).toNat)
                case atStart => exact ⟨0, .slice none 0 0, freshD 12 XX', by omega, rfl, HTw0⟩
                case round =>
                  obtain ⟨t, ev', D', ht, rfl, hTw⟩ := hrel
                  clear HTw0
                  by_cases ht2 : t < 2
                  · have hOq := hTw.out.open' ht HBx.out
                    have HOq : Hid _ := hOq
                    clear hOq
                    go_wp2_with fail
                    refine Calls.mono HOq.out ?_
                    rintro e wM ⟨gy, ev2, D2, rfl, HT2⟩
                    clear HOq
                    go_wp2
                    go_roundw
                    case rel => exact ⟨t + 1, ev2, D2, by omega, by go_num, HT2⟩
                    case measure => simp [intOf]; omega
                  · have ht' : t = 2 := by omega
                    subst ht'
                    have HNN : Hid (Rl w (.slice (some ⟨qs, 0, none⟩) sts.length cs) sts T bl go gf gh (i + 1) wr) := HNx.out _ _ _ hTw
                    clear hTw HNx
                    go_wp2
                    go_roundw
                    case rel => exact ⟨i + 1, by omega, by go_num, HNN⟩
                    case measure => simp [intOf]; omega
              · have hi' : i = 2 := by omega
                subst hi'
                have hEn := hR.out.end'
                have hS1 := hEn.shown go (.inl rfl)
                have HS1 : Hid _ := hS1
                clear hEn hS1 hR
                go_wp2_with fail
                refine Calls.mono HS1.out ?_
                rintro e wP ⟨rfl, HE1'⟩
                have hS2 := HE1'.out.shown gf (.inr (.inl rfl))
                have HS2' : Hid _ := hS2
                clear hS2 HS1 HE1'
                go_wp2_with fail
                refine Calls.mono HS2'.out ?_
                rintro e wQ ⟨rfl, HE2'⟩
                have hS3 := HE2'.out.shown gh (.inr (.inr rfl))
                have HS3' : Hid _ := hS3
                clear hS3 HS2' HE2'
                go_wp2_with fail
                refine Calls.mono HS3'.out ?_
                rintro e wR ⟨rfl, HE3'⟩
                have hkl : k < sts.length := by rw [← show NL = _ from HNL.out]; exact hk
                have hck := HSC.out wR HE3'.out.rs k hkl
                obtain ⟨T1, hT1⟩ : ∃ T1, T1 = sts.getD k ⟨#[]⟩ := ⟨_, rfl⟩
                rw [← hT1] at hck
                rcases HTk.out with h | ⟨h, h'⟩
                · rw [← hT1] at h
                  subst h
                  clear HS3' hT1
                  go_wp2
                  go_ret
                  exact ⟨rfl, HE3'.out.old⟩
                · have hck2 := HSC.out wR HE3'.out.rs (k + 1) (by rw [← show NL = _ from HNL.out]; exact h)
                  rw [← h'] at hck2
                  by_cases hTT : T = T1
                  · subst hTT
                    clear HS3' hT1 h' hck2
                    go_wp2
                    go_ret
                    exact ⟨rfl, HE3'.out.old⟩
                  · clear HS3' hT1 h'
                    go_wp2
                    all_goals
                      go_ret
                      exact ⟨rfl, HE3'.out.old⟩
end Go.Proofs.Ytlbapnecmhlgmaa
