/- The walk of the law BlockKeeps. -/
import Derived.Test.YtpdcmhfmicemnaaKeepsStart
namespace Go.Proofs.Ytpdcmhfmicemnaa
open Go.RowKit

set_option maxRecDepth 20000 in
set_option maxHeartbeats 8000000 in
theorem law_keeps (a : Option Addr) (b off len cap : Nat) (X : Nat → ActD) (n : Int) (ka : Option Addr) (kb koff klen kcap : Nat) (kf : Nat → Bool) (w : World) (hA : Acts w a b off len X) (hcap : len ≤ cap) (hcap2 : cap ≤ maxLen)
    (hK : Bl w ka kb koff klen kf) (hkl : klen ≤ 140737488351232) :
    Calls Try.prog 5 #[.slice a len cap, .int .i64 n, .slice ka klen kcap] w fun e w' => e = .returned (.bool true) ∧ Below w.heap.size w w' := by
  have HN := new_ok 4 w (by decide) (by decide)
  have HA : Hid _ := hA
  have HKK : Hid _ := hK
  have hmk := fun w => run_make_row' (P := Try.prog) 31 5 (.int .u8 0) 1 Try.underlying31 Try.info5 rfl .i64 .i64 256 (by omega) (by omega) w
  simp only [show ((256 : Nat) : Int) = 256 from rfl] at hmk
  have hZ := size_madeCells #[.int .u8 0] 256
  have hZb := made_byts 256
  generalize madeCells #[.int .u8 0] 256 = Z at *
  have HZb : Hid _ := hZb
  unfold maxLen at hcap2
  clear hA hZb hK
  go_enter Try.func5, Try.ntmps5
  go_wp2_with fail
  refine HN.mono ?_
  rintro e w1 ⟨g, g1, c1, g2, c2, rfl, hD, hb1⟩
  have HD : Hid _ := hD
  clear hD HN
  have hs1 := hb1.size
  go_upto_if 38 with fail
  go_cut [0] (fun s0 wx => ∃ m : Nat, m ≤ 100 ∧ s0 = .slice a m cap ∧ Hid (Acts w a b off m X) ∧ wx = w1)
  case first =>
    by_cases hl : 100 < len
    · obtain rfl := HA.out.at' (by omega)
      go_wp2
      go_meet
      exact ⟨100, by omega, rfl, ⟨fun _ => rfl, fun i hi => HA.out.cell i (by omega), fun i hi => HA.out.is i (by omega)⟩, rfl⟩
    · go_wp2
      go_meet
      exact ⟨len, by omega, rfl, HA.out, rfl⟩
  case rest =>
    obtain ⟨m, hm, rfl, HAm, hwc⟩ := hcut
    subst wc
    clear HA hcap
    obtain ⟨z, hz⟩ : ∃ z, z = sStr fun _ => 0 := ⟨_, rfl⟩
    have hcv := conv256 (w1.alloc (.cells Z 5)) w1.heap.size 0 256 (fun _ => 0) (fun i hi => by
      rw [Nat.zero_add, (Row.new w1 Z 5).cell i, ← Array.getElem?_toList, show Z.toList = _ from HZb.out, byts_at _ _ _ hi])
    rw [← hz] at hcv
    have HZ : Hid _ := hz
    clear hz
    have hKp := kp_start HD.out hb1 Z z HZ.out w1.heap.size rfl
    have HKp : Hid _ := hKp
    clear hKp
    go_wp2
    generalize (((((((w1.alloc (.cells Z 5)).alloc (.cells #[.string z] 9)).alloc (.cells #[.string z] 9)).alloc (.cells #[.string z] 9)).alloc (.cells #[.string z] 9)).alloc
        (.cells #[.slice (some ⟨w1.heap.size + 1, 0, none⟩) 1 1, .slice (some ⟨w1.heap.size + 1 + 1, 0, none⟩) 1 1, .slice (some ⟨w1.heap.size + 1 + 1 + 1, 0, none⟩) 1 1, .slice (some ⟨w1.heap.size + 1 + 1 + 1 + 1, 0, none⟩) 1 1] 51)).alloc
        (.cells #[.int .i64 0, .int .i64 0, .int .i64 0, .int .i64 0] 3)) = w2 at *
    generalize w1.heap.size + 1 + 1 + 1 + 1 + 1 = gw at *
    go_loopw [11, 13] (fun sv iv wq => ∃ (j : Nat) (ev : Value) (D : Dk) (v : Nat → Value), j ≤ m ∧ iv = .int .i64 j ∧ Hid (D.E.length = j) ∧ Hid (Kp w g g1 c1 g2 c2 gw (gw + 1) ev D v (sfAt D j) sv j wq)) (fun _ iv _ => m - (intOf iv).toNat)
    case atStart => exact ⟨0, .slice none 0 0, freshD 4 (fun _ => 0), _, Nat.zero_le _, rfl, (rfl : (0 : Nat) = 0), HKp⟩
    case round =>
      obtain ⟨j, ev, D, v, hj, rfl, hE, hP⟩ := hrel
      clear HKp hcv
      by_cases hlt : j < m
      · obtain rfl := HAm.out.at' (by omega)
        have P0 : Kp w g g1 c1 g2 c2 gw (gw + 1) ev D v (sfAt D j) u11 j wr := hP
        have hsq := P0.old.size
        have hAq := HAm.out.belowAll P0.old
        have HRG : Hid _ := hAq.range j hlt
        have HIN : Hid _ := HAm.out.is j hlt
        have hA6 := info34c (X j)
        have hA6a := info34a (X j)
        have hAo := (X j).cells_one
        have hAs : (X j).cells.size = 6 := rfl
        have a0 : (X j).cells[0]? = some (.int .i64 (X j).kind) := rfl
        have hkd := HIN.out.kind
        have hRA : Row (wr.alloc (.cells (X j).cells 34)) wr.heap.size (X j).cells 34 := Row.new wr _ 34
        have P2 : Kp w g g1 c1 g2 c2 gw (gw + 1) ev D v (sfAt D j) u11 j (wr.alloc (.cells (X j).cells 34)) := P0.next ((Below.refl _ _).alloc (Nat.le_refl _) _)
        have HP2 : Hid _ := P2
        generalize hAA : (X j).cells = A at *
        have HAA : Hid _ := hAA
        clear hAA P2 P0 hAq hP
        have c0 := (hRA.cell 0).trans a0
        by_cases hk1 : (X j).kind = 1
        · have HF := flush_ok HP2.out.disk HP2.out.old.size (by rw [show D.E.length = j from hE]; omega)
          have HFF : Hid _ := HF
          clear HF
          go_wp2_with (first
            | (refine wpList_load_mid rfl 34 _ rfl b (off + j * 6) rfl A.toList _ HRG.out Try.underlying34 rfl hA6 ?_; simp only [Array.toArray_toList])
            | refine wpList_store_new rfl 34 _ _ rfl wr _ A 34 rfl wr.heap.size rfl rfl rfl hA6a hAs.symm hAo ?_)
          refine Calls.mono HFF.out ?_
          rintro e w4 ⟨rfl, ev', hD4, hc4⟩
          have hb4 : Below w.heap.size w w4 := HP2.out.old.trans (HP2.out.disk.chg hc4 HP2.out.old.size)
          have hW4 : Wr w4 w.heap.size gw v D.T := HP2.out.wr.keepT fun k C t hr ht => (hr.chg HP2.out.disk hc4 (by rcases ht with h | h <;> subst h <;> decide) (by rcases ht with h | h <;> subst h <;> decide) (fun e => absurd e (by rcases ht with h | h <;> subst h <;> decide))).trans hr.symm
          have hS4 : Row w4 (gw + 1) (row4 (sfAt D j)).toArray 3 := HP2.out.safe.chg HP2.out.disk hc4 (by decide) (by decide) (fun h => absurd h (by decide))
          have hU4 := ownsRow_chg HP2.out.sure HP2.out.disk hc4 (by decide) (by decide) (by decide)
          have hP4 : ∀ w5 (sf : Nat → Nat), Row w5 (gw + 1) (row4 sf).toArray 3 → (∀ k, k ≠ gw + 1 → w5.heap[k]? = w4.heap[k]?) → Below w.heap.size w w5 → Kp w g g1 c1 g2 c2 gw (gw + 1) ev' D.flush v sf u11 j w5 := fun w5 sf h1 h2 h3 =>
            ⟨hD4.keepT fun k C t hr ht => h2 k (row_ne hr hS4 (by rcases ht with h | h | h <;> subst h <;> decide)), by
              rw [T_flush]
              exact hW4.keepT fun k C t hr ht => h2 k (row_ne hr hS4 (by rcases ht with h | h <;> subst h <;> decide)), h1, by
              have e := sure_flush D
              rw [show D.E.length = j from hE] at e
              rw [e]
              exact ownsRow_keep hU4 fun q hq _ => h2 q (fun e => by have := (ownsRow_lt hU4 q hq).2.1; omega), HP2.out.s4, HP2.out.geW, HP2.out.geS, h3⟩
          have HP4 : Hid _ := hP4
          have HW4 : Hid _ := hW4
          have HB4 : Hid _ := hb4
          have hge := HP2.out.geS
          have hTl : ∀ k, 1 ≤ (D.T k).length ∧ (D.T k).length ≤ j + 1 := fun k => ⟨T_pos D k, by have := T_le D k; rw [show D.E.length = j from hE] at this; exact this⟩
          clear hP4 hU4 hc4 hD4 hW4 HP2 HFF hRA c0
          go_wp2
          go_loopw [15] (fun kv wx => ∃ k : Nat, k ≤ 4 ∧ kv = .int .i64 k ∧ Hid (Row wx (gw + 1) (row4 (mixS (fun k => (D.T k).length - 1) (sfAt D j) k)).toArray 3) ∧ Hid (∀ k, k ≠ gw + 1 → wx.heap[k]? = w4.heap[k]?) ∧ Hid (Below w.heap.size w wx)) (fun kv _ => 4 - (intOf kv).toNat)
          case atStart => exact ⟨0, by omega, rfl, hS4, (fun _ _ => rfl), HB4⟩
          case round =>
            obtain ⟨k, hk, rfl, hR, hK4, hB⟩ := hrel
            by_cases hk4 : k < 4
            · have hWr : Row wr gw (four v).toArray 51 := (hK4.out gw (by omega)).trans HW4.out.row
              obtain ⟨qa, qc, _, hvk, _⟩ := own_sl (HW4.out.own k hk4) (hTl k).1
              obtain ⟨l, hl⟩ : ∃ l, (D.T k).length = l + 1 := ⟨(D.T k).length - 1, by have := (hTl k).1; omega⟩
              have hl2 : l ≤ 100 := by have := (hTl k).2; omega
              rw [hl] at hvk
              have cW := (hWr.cell k).trans (four_atA v k hk4)
              rw [hvk] at cW
              have cS := (Row.cell hR.out k).trans (four_atA _ k hk4)
              have fS := Row.frozen hR.out k
              have hR' := Row.setCell hR.out (i := k) (.int .i64 l)
              rw [show (Value.int .i64 (l : Int)) = .int .i64 (((fun k => (D.T k).length - 1) k : Nat) : Int) by simp only [hl]; rfl, mixS_set _ _ k hk4] at hR'
              simp only [hl, Nat.add_sub_cancel] at hR'
              have HR' : Hid _ := hR'
              have hB' := Below.setCell hB.out (p := ⟨gw + 1, k, none⟩) hge (.int .i64 l)
              have hK' : ∀ q, q ≠ gw + 1 → (wr.setCell ⟨gw + 1, k, none⟩ (.int .i64 l)).heap[q]? = w4.heap[q]? := fun q hq => (Below.heap_setCell _ _ _ _ hq).trans (hK4.out q hq)
              have HK' : Hid _ := hK'
              have HB' : Hid _ := hB'
              clear hR' hWr hvk hB' hK'
              go_wp2
              go_roundw
              case rel => exact ⟨k + 1, by omega, by go_num, HR', HK', HB'⟩
              case measure => simp [intOf]; omega
            · obtain rfl : k = 4 := by omega
              have e4 : (row4 (mixS (fun k => (D.T k).length - 1) (sfAt D j) 4)) = row4 (sfAt D.flush (j + 1)) := by
                have e := sf_flush D
                rw [show D.E.length = j from hE] at e
                rw [e]
                rfl
              have hR4 : Row wr (gw + 1) (row4 (sfAt D.flush (j + 1))).toArray 3 := by rw [← e4]; exact hR
              have P5 := HP4.out wr _ hR4 hK4.out hB.out
              have HP5 : Hid _ := P5
              have hU5 : Hid _ := P5.sure
              have hS5 : Hid _ := P5.safe
              have hlt5 : gw + 1 + 1 ≤ wr.heap.size := P5.safe.lt
              have hn5 : 4 * j ≤ 1000 := by omega
              clear P5 hR4 hR hK4 hB e4 HP4 HW4 hS4
              go_wp2_with (at_builtin; refine wpList_sure rfl _ _ rfl (gw + 1 + 1) u11 (4 * j) _ (gw + 1) _ rfl hU5 rfl hS5 hn5 hlt5 ?_)
              intro sv' w6 own6 grow6
              have P6 := HP5.out.sured own6.out grow6
              have hE6 : Hid (D.flush.E.length = j + 1) := by show (D.E ++ [flushEv]).length = j + 1; rw [List.length_append, show D.E.length = j from hE]; rfl
              have HP6 : Hid _ := P6
              clear P6 own6 grow6 HP5 hU5 hS5
              go_wp2
              go_roundw
              case rel => exact ⟨j + 1, ev', _, _, by omega, by go_num, hE6, HP6⟩
              case measure => simp [intOf]; omega
        · have a1 : A[1]? = some (.int .i64 (X j).n) := by rw [← show (X j).cells = A from HAA.out]; rfl
          have a4 : A[4]? = some (.bool (X j).odd) := by rw [← show (X j).cells = A from HAA.out]; rfl
          go_upto_if 65 with (first
            | (refine wpList_load_mid rfl 34 _ rfl b (off + j * 6) rfl A.toList _ HRG.out Try.underlying34 rfl hA6 ?_; simp only [Array.toArray_toList])
            | refine wpList_store_new rfl 34 _ _ rfl wr _ A 34 rfl wr.heap.size rfl rfl rfl hA6a hAs.symm hAo ?_)
          generalize wr.alloc (.cells A 34) = w3 at *
          have c4 := (hRA.cell 4).trans a4
          have f4 := hRA.frozen 4
          have hR4 : Row (w3.setCell ⟨wr.heap.size, 4, none⟩ (.bool false)) wr.heap.size (A.setIfInBounds 4 (.bool false)) 34 := hRA.setCell (i := 4) _
          have P4 : Kp w g g1 c1 g2 c2 gw (gw + 1) ev D v (sfAt D j) u11 j (w3.setCell ⟨wr.heap.size, 4, none⟩ (.bool false)) := HP2.out.swap (fun k C t hr ht => Below.heap_setCell _ _ _ _ (row_ne hr hRA (by rcases ht with h | h | h | h | h | h <;> subst h <;> decide))) (HP2.out.old.setCell hsq _)
          have HSC := sector_full (X j) _ (HIN.out.below P4.old)
          rw [show (X j).cells = A from HAA.out] at HSC
          have HHS : Hid _ := HSC
          have HP4 : Hid _ := P4
          have hA4 : (Try.prog.info? 34).map (·.size) = some (A.setIfInBounds 4 (.bool false)).size := by rw [Array.size_setIfInBounds]; exact hA6a
          have a1' : (A.setIfInBounds 4 (.bool false))[1]? = some (.int .i64 (X j).n) := by rw [← a1]; simp
          have HR4 : Hid _ := hR4
          clear HSC P4 hR4 HP2
          generalize A.setIfInBounds 4 (.bool false) = A' at *
          go_wp2_with (first
            | refine wpList_load_row rfl 34 _ rfl wr.heap.size rfl 34 A' (0, 0) _ HR4.out Try.underlying34 rfl hA4 ?_)
          clear hRA
          generalize w3.setCell ⟨wr.heap.size, 4, none⟩ (.bool false) = w4 at *
          clear c4 f4 c0
          refine Calls.mono HHS.out ?_
          rintro e w5 ⟨gs, cs, cur, rfl, hgs, hcur, hcc, hb5⟩
          obtain ⟨kk, hkk, hk4⟩ := and3 (X j).n
          have P5 := HP4.out.next hb5
          have hs5 := P5.old.size
          have hR5 := Row.below HR4.out hb5 (Row.lt HR4.out)
          have hfb := secOf_bd (X j).len (X j).f (X j).fill HIN.out.bytes.bd HIN.out.fill
          have hg2 : gs ≠ g2 := by have := HP4.out.disk.lt2; omega
          have HW := write_ok P5.disk hs5 (by rw [show D.E.length = j from hE]; omega) kk (by rw [P5.s4]; exact hk4) gs 0 cs _ cur hcur hg2 (fun i hi => by rw [Nat.zero_add]; exact hcc i hi) hfb
          have cn1 := (hR5.cell 1).trans a1'
          have HHW : Hid _ := HW
          have HP5 : Hid _ := P5
          have HCC : Hid _ := hcc
          have HCU : Hid _ := hcur
          clear HW P5 hR5 hcc hcur hfb HHS HP4 HR4
          go_wp2_with fail
          refine Calls.mono HHW.out ?_
          rintro e w6 ⟨rfl, ev', hD6, hc6⟩
          have hD5 := HP5.out.disk
          have hcu6 : Row w6 gs cur 5 := Row.chg HCU.out hD5 hc6 (by decide) (by decide) (fun _ => hg2)
          have hb6 : Below w.heap.size w w6 := HP5.out.old.trans (hD5.chg hc6 hs5)
          have hW6 : Wr w6 w.heap.size gw v D.T := HP5.out.wr.keepT fun k C t hr ht => (hr.chg hD5 hc6 (by rcases ht with h | h <;> subst h <;> decide) (by rcases ht with h | h <;> subst h <;> decide) (fun e => absurd e (by rcases ht with h | h <;> subst h <;> decide))).trans hr.symm
          have hS6 : Row w6 (gw + 1) (row4 (sfAt D j)).toArray 3 := HP5.out.safe.chg hD5 hc6 (by decide) (by decide) (fun h => absurd h (by decide))
          have hU6 := ownsRow_chg HP5.out.sure hD5 hc6 (by decide) (by decide) (by decide)
          have hTl : 1 ≤ (D.T kk).length ∧ (D.T kk).length ≤ j + 1 := ⟨T_pos D kk, by have := T_le D kk; rw [show D.E.length = j from hE] at this; exact this⟩
          obtain ⟨TX, hTX⟩ : ∃ T, sStr (secOf (X j).len (X j).f (X j).fill) = T := ⟨_, rfl⟩
          have HTX : Hid _ := hTX
          obtain ⟨qa, qc, curq, hvk, _, _⟩ := own_sl (hW6.own kk hk4) hTl.1
          have hown6 := hW6.own kk hk4
          obtain ⟨L, hL⟩ : ∃ L, (D.T kk).length = L := ⟨_, rfl⟩
          rw [hL] at hvk hown6 hTl
          have hL2 : L ≤ 101 := by omega
          have hk4i : (kk : Int) < 4 := by omega
          have hfour := four_atA v kk hk4
          rw [hvk] at hfour
          have hS : Row w6.drew gw (four v).toArray 51 ∧ Row w6.drew gs cur 5 := ⟨hW6.row, hcu6⟩
          have HW6 : Hid _ := hW6
          have HS6 : Hid _ := hS6
          have HU6 : Hid _ := hU6
          have HD6 : Hid _ := hD6
          have HO6 : Hid _ := hown6
          have hgeS := HP5.out.geS
          have hgeW := HP5.out.geW
          have h4s := HP5.out.s4
          obtain ⟨i0, hi, hz0, hz1, hz2⟩ := info_parts Try.info9
          clear hW6 hS6 hU6 hD6 hTX HP5 hD5 hc6 HHW HCU hown6
          go_wp2_with fail
          refine wp_region_perm [(false, 0), (false, 1), (false, 2), (false, 3), (false, 4), (false, 5), (false, 6), (false, 7), (true, 8), (true, 9), (true, 10), (true, 11)] (fun wx => Row wx gw (four v).toArray 51 ∧ Row wx gs cur 5) (by kernel_rfl) (by kernel_rfl) hS ?_
          refine p_move (some 93) _ rfl rfl rfl (by rfl) ?_
          simp only [Act.put, List.setIfInBounds_toArray, List.set_cons_zero, List.set_cons_succ]
          refine p_move (some 94) _ rfl rfl rfl (by rfl) ?_
          simp only [Act.put, List.setIfInBounds_toArray, List.set_cons_zero, List.set_cons_succ]
          refine p_move (some 95) _ rfl rfl rfl (by rfl) ?_
          simp only [Act.put, List.setIfInBounds_toArray, List.set_cons_zero, List.set_cons_succ]
          refine p_move (some 96) _ rfl rfl rfl (by rfl) ?_
          simp only [Act.put, List.setIfInBounds_toArray, List.set_cons_zero, List.set_cons_succ]
          refine p_value (some 97) ?_ rfl rfl (by rfl) (fun w hw => ?_) ?_
          rotate_left
          · go_simp
            with_reducible rfl
          simp only [Act.put, List.setIfInBounds_toArray, List.set_cons_zero, List.set_cons_succ]
          refine p_value (some 98) ?_ rfl rfl (by rfl) (fun w hw => ?_) ?_
          rotate_left
          · have hc := (hw.1.cell kk).trans hfour
            go_simp
            with_reducible rfl
          simp only [Act.put, List.setIfInBounds_toArray, List.set_cons_zero, List.set_cons_succ]
          refine p_move (some 99) _ rfl rfl rfl (by rfl) ?_
          simp only [Act.put, List.setIfInBounds_toArray, List.set_cons_zero, List.set_cons_succ]
          refine p_value (some 100) ?_ rfl rfl (by rfl) (fun w hw => ?_) ?_
          rotate_left
          · have hcv : (convert 31 9 (.slice (some ⟨gs, 0, none⟩) 256 cs)).run Try.prog w = .ok (.string TX) w := by rw [← HTX.out]; exact conv256 w gs 0 cs _ (fun i hi => by rw [Nat.zero_add, hw.2.cell]; exact HCC.out i hi)
            go_simp
            with_reducible rfl
          simp only [Act.put, List.setIfInBounds_toArray, List.set_cons_zero, List.set_cons_succ]
          refine p_buildSlice (some 101) 51 1 _ #[(0, .string TX)] _ _ rfl rfl rfl (by rfl) (by simp only [List.map_toArray, List.map_cons, List.map_nil]; rfl) (one_text TX _) (fun _ => ⟨hS.1.alloc _, hS.2.alloc _⟩) ?_
          simp only [Act.put, List.setIfInBounds_toArray, List.set_cons_zero, List.set_cons_succ]
          have hb7 : Below w6.heap.size w6 (w6.drew.alloc (.cells #[.string TX] 9)) := ((Below.refl _ _).drew).alloc (Nat.le_refl _) _
          have hO7 : (w6.drew.alloc (.cells #[.string TX] 9)).ownsRow w.heap.size 9 1 (.slice (some ⟨qa, 0, none⟩) L qc) L ((D.T kk).map Value.string) := by rw [← hvk]; exact ownsRow_below HO6.out hb7
          refine p_wp rfl (by rfl) ?_
          refine wp_append_text (.tmp 98) (.tmp 101) rfl w.heap.size _ L _ TX w6.drew rfl rfl hO7 rfl (by omega) hb6.size ?_
          intro v' w8 hown hgr hat
          rw [← hvk] at hgr hat
          rw [← hL] at hown
          obtain ⟨hR8, hW9⟩ := HW6.out.more kk hk4 TX _ hb7 hb7.size v' hown hgr hat
          have hO7' : (w6.drew.alloc (.cells #[.string TX] 9)).ownsRow w.heap.size 9 1 (v kk) L ((D.T kk).map Value.string) := ownsRow_below HO6.out hb7
          have hcu7 := hcu6.below hb7 hcu6.lt
          have hcu8 : Row w8 gs cur 5 := (row_grown hO7' hgr hcu7 (by decide)).trans hcu7
          have hother : ∀ k C t, Row w6 k C t → t ≠ 9 → w8.heap[k]? = w6.heap[k]? := fun k C t hr ht => by
            have h7 := hr.below hb7 hr.lt
            exact (row_grown hO7' hgr h7 ht).trans (h7.trans hr.symm)
          have hb8 : Below w.heap.size w w8 := own_grown hO7' (hb6.trans (hb7.mono hb6.size)) (by have := hb6.size; have := hb7.size; omega) hgr
          have hset : ∀ k C t, Row w6 k C t → t ≠ 9 → t ≠ 51 → (w8.setCell ⟨gw, kk, none⟩ v').heap[k]? = w6.heap[k]? := fun k C t hr ht h51 => by
            have h8 := hother k C t hr ht
            exact (Below.heap_setCell _ _ _ _ (row_ne (h8.trans hr : Row w8 k C t) hR8 h51)).trans h8
          have hE9 : (D.write kk (secOf (X j).len (X j).f (X j).fill)).E.length = j + 1 := by show (D.E ++ [_]).length = j + 1; rw [List.length_append, show D.E.length = j from hE]; rfl
          have P9 : Kp w g g1 c1 g2 c2 gw (gw + 1) ev' (D.write kk (secOf (X j).len (X j).f (X j).fill)) (upd v kk v') (sfAt (D.write kk (secOf (X j).len (X j).f (X j).fill)) (j + 1)) u11 j (w8.setCell ⟨gw, kk, none⟩ v') := by
            have e1 := sf_write D kk (secOf (X j).len (X j).f (X j).fill)
            have e2 := sure_write D kk (secOf (X j).len (X j).f (X j).fill)
            rw [show D.E.length = j from hE] at e1 e2
            refine ⟨HD6.out.keepT fun k C t hr ht => hset k C t hr (by rcases ht with h | h | h <;> subst h <;> decide) (by rcases ht with h | h | h <;> subst h <;> decide), ?_, ?_, ?_, h4s, hgeW, hgeS, hb8.setCell hgeW _⟩
            · rw [T_write, HTX.out]
              exact hW9
            · rw [e1]
              exact (hset _ _ _ HS6.out (by decide) (by decide)).trans HS6.out
            · rw [e2]
              refine ownsRow_keep HU6.out fun q hq _ => ?_
              obtain ⟨_, _, cur', hr⟩ := ownsRow_lt HU6.out q hq
              exact hset _ _ _ hr (by decide) (by decide)
          have HE9 : Hid _ := hE9
          have HP9 : Hid _ := P9
          refine ⟨fun _ => ⟨hR8, hcu8⟩, ?_⟩
          show wpPerm _ _ _ _ _ (Act.put _ (some 102) v') w8
          obtain ⟨qa', qc', curq', hvk', _, _⟩ := own_sl hown (by omega)
          have hcell := (hR8.cell kk).trans hfour
          have hfz := hR8.frozen kk
          have hsv : v'.oneCell' = true := by rw [hvk']; rfl
          clear P9 hset hother hb8 hW9 hO7 hO7' hown hgr hat HW6 HS6 HU6 HD6 HO6 hE9 hcu7 hcu6 hS HTX hb7
          subst hvk'
          simp only [Act.put, List.setIfInBounds_toArray, List.set_cons_zero, List.set_cons_succ]
          refine p_alone (some 103) (.pointer (some ⟨gw, kk, none⟩)) w8 rfl rfl (by rfl) (by go_simp) (fun _ => ⟨hR8, hcu8⟩) ?_
          simp only [Act.put, List.setIfInBounds_toArray, List.set_cons_zero, List.set_cons_succ]
          refine p_store (w8.setCell ⟨gw, kk, none⟩ (.slice (some ⟨qa', 0, none⟩) ((D.T kk).length + 1) qc')) rfl rfl (by rfl) (by go_simp) (fun h => absurd rfl h) ?_
          refine p_done ?_
          simp only [Exit.then]
          have hU5 : Hid _ := HP9.out.sure
          have hS5 : Hid _ := HP9.out.safe
          have hlt5 : gw + 1 + 1 ≤ (w8.setCell ⟨gw, kk, none⟩ (.slice (some ⟨qa', 0, none⟩) ((D.T kk).length + 1) qc')).heap.size := HP9.out.safe.lt
          have hn5 : 4 * j ≤ 1000 := by omega
          generalize w8.setCell ⟨gw, kk, none⟩ (.slice (some ⟨qa', 0, none⟩) ((D.T kk).length + 1) qc') = w9 at *
          clear hcell hfz hR8 hcu8
          go_wp2_with (at_builtin; refine wpList_sure rfl _ _ rfl (gw + 1 + 1) u11 (4 * j) _ (gw + 1) _ rfl hU5 rfl hS5 hn5 hlt5 ?_)
          intro sv' w10 own6 grow6
          have P6 := HP9.out.sured own6.out grow6
          have HP6 : Hid _ := P6
          clear P6 own6 grow6 HP9 hU5 hS5
          go_wp2
          go_roundw
          case rel => exact ⟨j + 1, ev', _, _, by omega, by go_num, HE9, HP6⟩
          case measure => simp [intOf]; omega
      · have hjm : m = j := by omega
        subst hjm
        obtain ⟨wE, rfl⟩ : ∃ x, x = wr := ⟨wr, rfl⟩
        have P0 : Kp w g g1 c1 g2 c2 gw (gw + 1) ev D v (sfAt D m) u11 m wE := hP
        have hEm : D.E.length = m := hE
        have hsE := P0.old.size
        obtain ⟨q, p, hq1, hq2, hq3, hq4, hp⟩ := mod_spec m n
        have hlz : ¬ ((m : Int) + 1 = 0) := by omega
        have HA1 := after_ok P0.disk p (by omega) (by omega) ka kb koff klen kcap kf (HKK.out.belowAll P0.old) hkl
        have hX0 : D.after p klen kf = freshD 4 (afterF D.F D.ev (safeN D.ev p) klen kf p) := by unfold Dk.after; rw [P0.s4]
        rw [hX0] at HA1
        have hKs : ∀ k, ∃ pi, (D.T k)[pi]? = some (S (afterF D.F D.ev (safeN D.ev p) klen kf p) k) ∧ sfAt D p k ≤ pi := fun k => keeps_some (s := D.s) D.F D.ev klen kf k p D.E.length (by omega) (fun i hi => ev_ok D P0.disk.ok.E i (by omega))
        generalize afterF D.F D.ev (safeN D.ev p) klen kf p = FA at *
        have HKs : Hid _ := hKs
        have HHA : Hid _ := HA1
        have HP0 : Hid _ := P0
        clear HA1 P0 hP hX0 hlt hKs HKK hkl
        go_wp2_with fail
        refine Calls.mono HHA.out ?_
        rintro e w2' ⟨gx, gx1, cx1, gx2, cx2, rfl, hX2, hb2⟩
        have HEX : Calls Try.prog 20 #[.pointer (some ⟨gx, 0, none⟩)] w2' fun e w' => e = .returned (.int .i64 0) ∧ w' = w2' := events_yes hX2
        have hKe : Ke w g g1 c1 g2 c2 gw (gw + 1) ev D v (sfAt D m) u11 m wE.heap.size gx gx1 cx1 gx2 cx2 FA w2' := ⟨HP0.out.next hb2, hX2⟩
        have HKe : Hid _ := hKe
        have HHE : Hid _ := HEX
        clear HEX hKe hX2 HHA HP0 hq1 hq4
        go_wp2_with fail
        refine Calls.mono HHE.out ?_
        rintro e w' ⟨rfl, hw'⟩
        subst w'
        go_wp2
        go_loopw [20] (fun kv wx => ∃ kq : Nat, kq ≤ 4 ∧ kv = .int .i64 kq ∧ Hid (Ke w g g1 c1 g2 c2 gw (gw + 1) ev D v (sfAt D m) u11 m wE.heap.size gx gx1 cx1 gx2 cx2 FA wx)) (fun kv _ => 4 - (intOf kv).toNat)
        case atStart => exact ⟨0, by omega, rfl, HKe⟩
        case round =>
          obtain ⟨kq, hkq, rfl, hQ⟩ := hrel
          clear HKe HHE
          obtain ⟨wL, rfl⟩ : ∃ x, x = wr := ⟨wr, rfl⟩
          by_cases hk4 : kq < 4
          · have Q0 : Ke w g g1 c1 g2 c2 gw (gw + 1) ev D v (sfAt D m) u11 m wE.heap.size gx gx1 cx1 gx2 cx2 FA wL := hQ
            have HR1 := read_ok Q0.x kq hk4
            have hk4i : (kq : Int) < 4 := by omega
            have hCa : ∀ i, i < 256 → (byts (fun i => (freshD 4 FA).B (kq * 256 + i)) 256).toArray[i]? = some (.int .u8 (FA (kq * 256 + i))) := fun i hi => by
              show _ = some (Value.int .u8 ((freshD 4 FA).B (kq * 256 + i)))
              simpa using byts_at (fun i => (freshD 4 FA).B (kq * 256 + i)) 256 i hi
            generalize (byts (fun i => (freshD 4 FA).B (kq * 256 + i)) 256).toArray = Ca at *
            have Q1 := Q0.next ((Below.refl _ _).alloc (Nat.le_refl _) (.cells Ca 5))
            have rQ := Row.new wL Ca 5
            obtain ⟨pi, hpi, hfr⟩ := HKs.out kq
            obtain ⟨SB, hSB⟩ : ∃ SB, (sStr fun j => FA (kq * 256 + j)) = SB := ⟨_, rfl⟩
            have hpi' : (D.T kq)[pi]? = some SB := by rw [← hSB]; exact hpi
            have hpL : pi < (D.T kq).length := (List.getElem?_eq_some_iff.1 hpi').1
            have hLm : (D.T kq).length ≤ 101 := by have := T_le D kq; omega
            have HSB : Hid _ := hSB
            have HPI : Hid _ := hpi'
            have HCa : Hid _ := hCa
            have HR1' : Hid _ := HR1
            have HQ1 : Hid _ := Q1
            have HRQ : Hid _ := rQ
            clear HR1 Q0 Q1 hQ hCa rQ hpi hpi' hSB
            go_wp2_with fail
            refine Calls.mono HR1'.out ?_
            rintro e w' ⟨rfl, hw'⟩
            subst w'
            generalize hnq : wL.heap.size = nq at *
            generalize wL.alloc (.cells Ca 5) = wM at *
            clear HR1' hnq
            go_upto_if 148 with fail
            go_cut [23] (fun fv wx => ∃ fr : Nat, fv = .int .i64 fr ∧ fr ≤ pi ∧ wx = wM)
            case first =>
              by_cases hp0 : 0 < p
              · obtain ⟨p', rfl⟩ : ∃ p', p = p' + 1 := ⟨p - 1, by omega⟩
                obtain ⟨gu, cu, curu, hu, _, _⟩ := own_sl HQ1.out.kp.sure (by omega)
                have hcl := HQ1.out.kp.sure
                rw [hu] at hcl
                have hcell := (hcl.cellAt (4 * p' + kq) (by omega)).trans (sureL_at D m p' kq (by omega) hk4)
                subst hu
                have hix : (4 : Int) * p' + kq < 4 * m := by omega
                go_wp2
                go_meet
                exact ⟨_, rfl, hfr, rfl⟩
              · go_wp2
                go_meet
                exact ⟨0, rfl, by omega, rfl⟩
            case rest =>
              obtain ⟨fr, rfl, hfp, hwc⟩ := hcut
              subst wc
              clear hfr
              obtain ⟨qa, qc, curq, hvk, _, _⟩ := own_sl (HQ1.out.kp.wr.own kq hk4) (T_pos D kq)
              obtain ⟨L, hL⟩ : ∃ L, (D.T kq).length = L := ⟨_, rfl⟩
              rw [hL] at hvk hpL hLm
              have hfour := four_atA v kq hk4
              rw [hvk] at hfour
              have HL : Hid _ := hL
              have HVK : Hid _ := hvk
              clear hL hvk
              go_wp2
              go_loopw [24, 25] (fun fv iv wx => ∃ (i : Nat) (f : Bool), iv = .int .i64 i ∧ fv = .bool f ∧ i ≤ L ∧ Hid (pi < i → f = true) ∧ Hid (Ke w g g1 c1 g2 c2 gw (gw + 1) ev D v (sfAt D m) u11 m wE.heap.size gx gx1 cx1 gx2 cx2 FA wx) ∧ Hid (Row wx nq Ca 5)) (fun _ iv _ => L - (intOf iv).toNat)
              case atStart => exact ⟨fr, false, rfl, rfl, by omega, (fun h => by omega), HQ1, HRQ⟩
              case round =>
                obtain ⟨i, f, rfl, rfl, hiL, hfi, hQ2, hRQ2⟩ := hrel
                clear HQ1 HRQ
                have Q2 : Ke w g g1 c1 g2 c2 gw (gw + 1) ev D v (sfAt D m) u11 m wE.heap.size gx gx1 cx1 gx2 cx2 FA wr := hQ2
                have cW := (Q2.kp.wr.row.cell kq).trans hfour
                by_cases hlt : i < L
                · have HQ3 : Hid (Ke w g g1 c1 g2 c2 gw (gw + 1) ev D v (sfAt D m) u11 m wE.heap.size gx gx1 cx1 gx2 cx2 FA wr.drew) := Q2.next (Below.refl _ _).drew
                  have HRQ3 : Hid (Row wr.drew nq Ca 5) := hRQ2
                  obtain ⟨t, ht⟩ : ∃ t, (D.T kq)[i]? = some t := ⟨_, List.getElem?_eq_getElem (by rw [show _ = L from HL.out]; exact hlt)⟩
                  have hti : ((D.T kq).map Value.string)[i]? = some (.string t) := by rw [List.getElem?_map, ht]; rfl
                  have hown := Q2.kp.wr.own kq hk4
                  rw [show _ = L from HL.out, show v kq = _ from HVK.out] at hown
                  have HC : Hid (Kc w.heap.size gw v (.slice (some ⟨qa, 0, none⟩) L qc) L (D.T kq) nq Ca wr.drew) := ⟨Q2.kp.wr.row, hown, hRQ2⟩
                  have hliI : (i : Int) < L := by omega
                  clear Q2 hQ2 hRQ2 hown
                  cases f with
                  | true =>
                    go_wp2_with fail
                    refine wp_region_mix [false, false, false, false, false, false, false, false, false, false, false, false, false, false] (Kc w.heap.size gw v (.slice (some ⟨qa, 0, none⟩) L qc) L (D.T kq) nq Ca) (by kernel_rfl) (by kernel_rfl) HC.out ?_
                    refine m_move _ rfl (by rfl) ?_
                    simp only [Act.put, List.setIfInBounds_toArray, List.set_cons_zero, List.set_cons_succ]
                    refine m_move _ rfl (by rfl) ?_
                    simp only [Act.put, List.setIfInBounds_toArray, List.set_cons_zero, List.set_cons_succ]
                    refine m_skip (by rfl) ?_
                    simp only [Act.put, List.setIfInBounds_toArray, List.set_cons_zero, List.set_cons_succ]
                    refine m_skip (by rfl) ?_
                    simp only [Act.put, List.setIfInBounds_toArray, List.set_cons_zero, List.set_cons_succ]
                    refine m_skip (by rfl) ?_
                    simp only [Act.put, List.setIfInBounds_toArray, List.set_cons_zero, List.set_cons_succ]
                    refine m_skip (by rfl) ?_
                    simp only [Act.put, List.setIfInBounds_toArray, List.set_cons_zero, List.set_cons_succ]
                    refine m_skip (by rfl) ?_
                    simp only [Act.put, List.setIfInBounds_toArray, List.set_cons_zero, List.set_cons_succ]
                    refine m_skip (by rfl) ?_
                    simp only [Act.put, List.setIfInBounds_toArray, List.set_cons_zero, List.set_cons_succ]
                    refine m_skip (by rfl) ?_
                    simp only [Act.put, List.setIfInBounds_toArray, List.set_cons_zero, List.set_cons_succ]
                    refine m_skip (by rfl) ?_
                    simp only [Act.put, List.setIfInBounds_toArray, List.set_cons_zero, List.set_cons_succ]
                    refine m_skip (by rfl) ?_
                    simp only [Act.put, List.setIfInBounds_toArray, List.set_cons_zero, List.set_cons_succ]
                    refine m_skip (by rfl) ?_
                    simp only [Act.put, List.setIfInBounds_toArray, List.set_cons_zero, List.set_cons_succ]
                    refine m_value ?_ (by rfl) (fun w hw => ?_) ?_
                    rotate_left
                    · go_simp
                      with_reducible rfl
                    simp only [Act.put, List.setIfInBounds_toArray, List.set_cons_zero, List.set_cons_succ]
                    refine m_assign _ rfl (by rfl) ?_
                    simp only [Act.put, List.setIfInBounds_toArray, List.set_cons_zero, List.set_cons_succ]
                    refine m_done ?_
                    try simp only [Exit.then]
                    go_wp2
                    go_roundw
                    case rel => exact ⟨i + 1, _, by go_num, rfl, by omega, (fun _ => rfl), HQ3, HRQ3⟩
                    case measure => simp [intOf]; omega
                  | false =>
                    have hpin : i ≤ pi := by
                      rcases Nat.lt_or_ge pi i with h | h
                      · exact absurd (hfi.out h) (by decide)
                      · exact h
                    by_cases hts : t = SB
                    · rw [hts] at hti
                      clear ht hts
                      go_wp2_with fail
                      refine wp_region_mix [false, false, false, false, false, false, false, false, false, false, false, false, false, false] (Kc w.heap.size gw v (.slice (some ⟨qa, 0, none⟩) L qc) L (D.T kq) nq Ca) (by kernel_rfl) (by kernel_rfl) HC.out ?_
                      refine m_move _ rfl (by rfl) ?_
                      simp only [Act.put, List.setIfInBounds_toArray, List.set_cons_zero, List.set_cons_succ]
                      refine m_move _ rfl (by rfl) ?_
                      simp only [Act.put, List.setIfInBounds_toArray, List.set_cons_zero, List.set_cons_succ]
                      refine m_move _ rfl (by rfl) ?_
                      simp only [Act.put, List.setIfInBounds_toArray, List.set_cons_zero, List.set_cons_succ]
                      refine m_move _ rfl (by rfl) ?_
                      simp only [Act.put, List.setIfInBounds_toArray, List.set_cons_zero, List.set_cons_succ]
                      refine m_value ?_ (by rfl) (fun w hw => ?_) ?_
                      rotate_left
                      · go_simp
                        with_reducible rfl
                      simp only [Act.put, List.setIfInBounds_toArray, List.set_cons_zero, List.set_cons_succ]
                      refine m_value ?_ (by rfl) (fun w hw => ?_) ?_
                      rotate_left
                      · have hc := (hw.row.cell kq).trans hfour
                        go_simp
                        with_reducible rfl
                      simp only [Act.put, List.setIfInBounds_toArray, List.set_cons_zero, List.set_cons_succ]
                      refine m_move _ rfl (by rfl) ?_
                      simp only [Act.put, List.setIfInBounds_toArray, List.set_cons_zero, List.set_cons_succ]
                      refine m_value ?_ (by rfl) (fun w hw => ?_) ?_
                      rotate_left
                      · go_simp
                        with_reducible rfl
                      simp only [Act.put, List.setIfInBounds_toArray, List.set_cons_zero, List.set_cons_succ]
                      refine m_value ?_ (by rfl) (fun w hw => ?_) ?_
                      rotate_left
                      · have hc := (hw.own.cellAt i (by omega)).trans hti
                        go_simp
                        with_reducible rfl
                      simp only [Act.put, List.setIfInBounds_toArray, List.set_cons_zero, List.set_cons_succ]
                      refine m_move _ rfl (by rfl) ?_
                      simp only [Act.put, List.setIfInBounds_toArray, List.set_cons_zero, List.set_cons_succ]
                      refine m_value ?_ (by rfl) (fun w hw => ?_) ?_
                      rotate_left
                      · have hcv : (convert 31 9 (.slice (some ⟨nq, 0, none⟩) 256 256)).run Try.prog w = .ok (.string SB) w := by rw [← HSB.out]; exact conv256 w nq 0 256 _ (fun i hi => by rw [Nat.zero_add, hw.ra.cell i]; exact HCa.out i hi)
                        go_simp
                        with_reducible rfl
                      simp only [Act.put, List.setIfInBounds_toArray, List.set_cons_zero, List.set_cons_succ]
                      refine m_value ?_ (by rfl) (fun w hw => ?_) ?_
                      rotate_left
                      · go_simp
                        with_reducible rfl
                      simp only [Act.put, List.setIfInBounds_toArray, List.set_cons_zero, List.set_cons_succ]
                      refine m_value ?_ (by rfl) (fun w hw => ?_) ?_
                      rotate_left
                      · go_simp
                        with_reducible rfl
                      simp only [Act.put, List.setIfInBounds_toArray, List.set_cons_zero, List.set_cons_succ]
                      refine m_assign _ rfl (by rfl) ?_
                      simp only [Act.put, List.setIfInBounds_toArray, List.set_cons_zero, List.set_cons_succ]
                      refine m_done ?_
                      try simp only [Exit.then]
                      go_wp2
                      go_roundw
                      case rel => exact ⟨i + 1, _, by go_num, rfl, by omega, (fun _ => rfl), HQ3, HRQ3⟩
                      case measure => simp [intOf]; omega
                    · have hne : i ≠ pi := fun e => by
                        subst e
                        rw [show _ = some SB from HPI.out] at ht
                        exact hts (by simpa using ht.symm)
                      go_wp2_with fail
                      refine wp_region_mix [false, false, false, false, false, false, false, false, false, false, false, false, false, false] (Kc w.heap.size gw v (.slice (some ⟨qa, 0, none⟩) L qc) L (D.T kq) nq Ca) (by kernel_rfl) (by kernel_rfl) HC.out ?_
                      refine m_move _ rfl (by rfl) ?_
                      simp only [Act.put, List.setIfInBounds_toArray, List.set_cons_zero, List.set_cons_succ]
                      refine m_move _ rfl (by rfl) ?_
                      simp only [Act.put, List.setIfInBounds_toArray, List.set_cons_zero, List.set_cons_succ]
                      refine m_move _ rfl (by rfl) ?_
                      simp only [Act.put, List.setIfInBounds_toArray, List.set_cons_zero, List.set_cons_succ]
                      refine m_move _ rfl (by rfl) ?_
                      simp only [Act.put, List.setIfInBounds_toArray, List.set_cons_zero, List.set_cons_succ]
                      refine m_value ?_ (by rfl) (fun w hw => ?_) ?_
                      rotate_left
                      · go_simp
                        with_reducible rfl
                      simp only [Act.put, List.setIfInBounds_toArray, List.set_cons_zero, List.set_cons_succ]
                      refine m_value ?_ (by rfl) (fun w hw => ?_) ?_
                      rotate_left
                      · have hc := (hw.row.cell kq).trans hfour
                        go_simp
                        with_reducible rfl
                      simp only [Act.put, List.setIfInBounds_toArray, List.set_cons_zero, List.set_cons_succ]
                      refine m_move _ rfl (by rfl) ?_
                      simp only [Act.put, List.setIfInBounds_toArray, List.set_cons_zero, List.set_cons_succ]
                      refine m_value ?_ (by rfl) (fun w hw => ?_) ?_
                      rotate_left
                      · go_simp
                        with_reducible rfl
                      simp only [Act.put, List.setIfInBounds_toArray, List.set_cons_zero, List.set_cons_succ]
                      refine m_value ?_ (by rfl) (fun w hw => ?_) ?_
                      rotate_left
                      · have hc := (hw.own.cellAt i (by omega)).trans hti
                        go_simp
                        with_reducible rfl
                      simp only [Act.put, List.setIfInBounds_toArray, List.set_cons_zero, List.set_cons_succ]
                      refine m_move _ rfl (by rfl) ?_
                      simp only [Act.put, List.setIfInBounds_toArray, List.set_cons_zero, List.set_cons_succ]
                      refine m_value ?_ (by rfl) (fun w hw => ?_) ?_
                      rotate_left
                      · have hcv : (convert 31 9 (.slice (some ⟨nq, 0, none⟩) 256 256)).run Try.prog w = .ok (.string SB) w := by rw [← HSB.out]; exact conv256 w nq 0 256 _ (fun i hi => by rw [Nat.zero_add, hw.ra.cell i]; exact HCa.out i hi)
                        go_simp
                        with_reducible rfl
                      simp only [Act.put, List.setIfInBounds_toArray, List.set_cons_zero, List.set_cons_succ]
                      refine m_value ?_ (by rfl) (fun w hw => ?_) ?_
                      rotate_left
                      · go_simp
                        with_reducible rfl
                      simp only [Act.put, List.setIfInBounds_toArray, List.set_cons_zero, List.set_cons_succ]
                      refine m_value ?_ (by rfl) (fun w hw => ?_) ?_
                      rotate_left
                      · go_simp
                        with_reducible rfl
                      simp only [Act.put, List.setIfInBounds_toArray, List.set_cons_zero, List.set_cons_succ]
                      refine m_assign _ rfl (by rfl) ?_
                      simp only [Act.put, List.setIfInBounds_toArray, List.set_cons_zero, List.set_cons_succ]
                      refine m_done ?_
                      try simp only [Exit.then]
                      go_wp2
                      go_roundw
                      case rel => exact ⟨i + 1, _, by go_num, rfl, by omega, (fun h => by omega), HQ3, HRQ3⟩
                      case measure => simp [intOf]; omega
                · obtain rfl : f = true := hfi.out (by omega)
                  clear Q2
                  go_wp2
                  go_roundw
                  case rel => exact ⟨kq + 1, by omega, by go_num, hQ2⟩
                  case measure => simp [intOf]; omega
          · go_wp2
            go_ret
            exact ⟨rfl, hQ.out.kp.old⟩
end Go.Proofs.Ytpdcmhfmicemnaa
