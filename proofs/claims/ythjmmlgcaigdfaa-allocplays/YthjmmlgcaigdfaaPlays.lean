/- The law AllocPlays. -/
import Derived.Test.YthjmmlgcaigdfaaPlaysKit
import Derived.Test.YthjmmlgcaigdfaaGrow2
namespace Go.Proofs.Ythjmmlgcaigdfaa
open Go.RowKit

theorem info32 : (Try.prog.info? 32).map (·.size) = some 3 := by kernel_rfl
theorem Acts.range {w : World} {a : Option Addr} {b off len : Nat} {X : Nat → ActD} (h : Acts w a b off len X) (i : Nat) (hi : i < len) : w.rangeAt b (off + i * 3) (X i).cells.toList := fun j v hv => by
  have hj : j < 3 := (List.getElem?_eq_some_iff.1 hv).1
  rw [h.cell i hi j hj, ← hv]
  simp

set_option maxRecDepth 20000 in
set_option maxHeartbeats 8000000 in
theorem law_plays (n0 : Int) (a : Option Addr) (b off len cap : Nat) (X : Nat → ActD) (w : World) (hA : Acts w a b off len X) (hlc : len ≤ maxLen) :
    Calls Try.prog 3 #[.int .i64 n0, .slice a len cap] w fun e w' => e = .returned (.bool true) ∧ Below w.heap.size w w' := by
  have HA : Hid _ := hA
  unfold maxLen at hlc
  clear hA
  by_cases hs : n0 < 1 ∨ 2048 < n0
  · have HN := new_bad n0 w hs
    have HR := rnew_bad n0 w hs
    go_enter Try.func3, Try.ntmps3
    go_wp2_with fail
    refine HN.mono ?_
    rintro e w' ⟨rfl, hw'⟩
    subst w'
    go_wp2_with fail
    refine HR.mono ?_
    rintro e w' ⟨rfl, hw'⟩
    subst w'
    go_wp2_with fail
    refine (names_any _).mono ?_
    rintro e w' ⟨rfl, hw'⟩
    subst w'
    clear HN HR
    go_wp2
    go_loopw [9] (fun iv wq => iv = .int .i64 0 ∧ wq = w) (fun _ _ => 0)
    case atStart => exact ⟨rfl, rfl⟩
    case round =>
      obtain ⟨rfl, rfl⟩ := hrel
      by_cases hm0 : 0 < len
      · go_wp2
        go_ret
        exact ⟨rfl, Below.refl _ _⟩
      · go_wp2
        go_ret
        exact ⟨rfl, Below.refl _ _⟩
  · obtain ⟨n, rfl⟩ : ∃ n : Nat, n0 = n := ⟨n0.toNat, by omega⟩
    have h0 : 1 ≤ n := by omega
    have h1 : n ≤ 2048 := by omega
    clear hs
    have HN := new_ok n w h0 h1
    go_enter Try.func3, Try.ntmps3
    go_wp2_with fail
    refine HN.mono ?_
    rintro e w1 ⟨rfl, hset, hb1⟩
    have hs1 := hb1.size
    have HR := rnew_ok n w1 h0 h1
    have HSET : Hid _ := hset
    clear HN hset
    go_wp2_with fail
    refine HR.mono ?_
    rintro e w2 ⟨gr, gi, rfl, href, hb2, hgr, hgi⟩
    have HREF : Hid _ := href
    have hb12 : Below w.heap.size w w2 := hb1.trans (hb2.mono hs1)
    have hsw2 : SetAt w2 w.heap.size n none' := HSET.out.below hb2
    have HS2 : Hid _ := hsw2
    have hgi' : w.heap.size ≤ gi := by omega
    clear HR href HSET hsw2
    go_wp2_with fail
    refine (names_any _).mono ?_
    rintro e w' ⟨rfl, hw'⟩
    subst w'
    go_wp2
    go_loopw [5, 9] (fun sv iv wq => ∃ (i gs : Nat) (T : Nat → Bool), i ≤ len ∧ iv = .int .i64 i ∧ sv = .pointer (some ⟨gs, 0, none⟩) ∧ SetAt wq gs n T ∧ RAt wq gr gi n T ∧ Below w.heap.size w wq ∧ w.heap.size ≤ gs) (fun _ iv _ => len - (intOf iv).toNat)
    case atStart => exact ⟨0, _, none', by omega, rfl, rfl, HS2.out, HREF.out, hb12, Nat.le_refl _⟩
    case round =>
      obtain ⟨i, gs, T, hi, rfl, rfl, hset, href, hold, hge⟩ := hrel
      clear HS2 HREF hb12 hb1 hb2
      have HSET : Hid _ := hset
      have HREF : Hid _ := href
      have HOLD : Hid _ := hold
      by_cases hl : i < len
      · have hl' : (i : Int) < len := by omega
        by_cases hl3 : i < 300
        · have hl3' : (i : Int) < 300 := by omega
          have ha := HA.out.at' (by omega)
          subst ha
          have HRG : Hid _ := (HA.out.belowAll hold).range i hl
          have hA3 : (Try.prog.info? 32).map (·.size) = some (X i).cells.toList.length := info32
          have hA3a : (Try.prog.info? 32).map (·.size) = some (X i).cells.size := info32
          have hAo : (X i).cells.all (·.oneCell') = true := by simp [ActD.cells, Value.oneCell']
          have hAs : (X i).cells.size = 3 := rfl
          obtain ⟨kd, hkd⟩ : ∃ kd, kd = (X i).kind := ⟨_, rfl⟩
          obtain ⟨N, hN⟩ : ∃ N, N = (X i).n := ⟨_, rfl⟩
          obtain ⟨tm, htm⟩ : ∃ tm, tm = (X i).times := ⟨_, rfl⟩
          have a0 : (X i).cells[0]? = some (.int .i64 kd) := by rw [hkd]; rfl
          have a1 : (X i).cells[1]? = some (.int .i64 N) := by rw [hN]; rfl
          have a2 : (X i).cells[2]? = some (.int .i64 tm) := by rw [htm]; rfl
          clear hkd hN htm
          obtain ⟨tk, htk, htk2⟩ := and63 tm
          have hRA : Row (wr.alloc (.cells (X i).cells 32)) wr.heap.size (X i).cells 32 := Row.new wr _ 32
          have hbW : Below wr.heap.size wr (wr.alloc (.cells (X i).cells 32)) := (Below.refl _ _).alloc (Nat.le_refl _) _
          have hPK : PK w n gr gi wr.heap.size (X i).cells gs T T (wr.alloc (.cells (X i).cells 32)) := ⟨hset.below hbW, href.below hbW, hRA, hold.trans (hbW.mono hold.size), hge, hgi'⟩
          have HPK : Hid _ := hPK
          generalize hAA : (X i).cells = A at *
          have HAA : Hid _ := hAA
          clear hAA hRA hbW hPK hset href hold HSET HREF HOLD
          go_wp2_with (first
            | (refine wpList_load_mid rfl 32 _ rfl b (off + i * 3) rfl A.toList _ HRG.out Try.underlying32 rfl hA3 ?_; simp only [Array.toArray_toList])
            | refine wpList_store_new rfl 32 _ _ rfl wr _ A 32 rfl wr.heap.size rfl rfl rfl hA3a hAs.symm hAo ?_)
          obtain ⟨ga, hga⟩ : ∃ ga, ga = wr.heap.size := ⟨_, rfl⟩
          rw [← hga] at HPK ⊢
          have HGA : Hid _ := hga
          clear hga
          obtain ⟨wE, hwE⟩ : ∃ x, x = wr := ⟨wr, rfl⟩
          rw [← hwE] at HGA HRG HPK ⊢
          clear HRG hwE
          go_loopw [5, 11] (fun sv kv wq => ∃ (j gs : Nat) (T : Nat → Bool), j ≤ tk + 1 ∧ kv = .int .i64 j ∧ sv = .pointer (some ⟨gs, 0, none⟩) ∧ Hid (PK w n gr gi ga A gs T T wq)) (fun _ kv _ => tk + 1 - (intOf kv).toNat)
          case atStart => exact ⟨0, gs, T, by omega, rfl, rfl, HPK⟩
          case round =>
            obtain ⟨j, gs, T, hj, rfl, rfl, HP⟩ := hrel
            have hP := HP.out
            clear HPK HP
            have c0 := (hP.act.cell 0).trans a0
            have c2 := (hP.act.cell 2).trans a2
            have hPd : PK w n gr gi ga A gs T T wr.drew := hP.still (Still.refl _).drew
            by_cases hjt : j ≤ tk
            · have hjt' : (j : Int) ≤ tk := by omega
              by_cases k0 : kd = 0
              · subst k0
                obtain ⟨x, r, T', HT⟩ := take_both hP
                clear hPd
                go_wp2_with fail
                refine HT.mono ?_
                rintro e w3 ⟨rfl, HQ⟩
                clear HT hP c0 c2
                go_wp2_with fail
                refine Calls.mono HQ.out.2 ?_
                rintro e w4 ⟨rfl, hP4⟩
                clear HQ
                go_wp2
                go_roundw
                case rel => exact ⟨j + 1, gs, T', by omega, by go_num, rfl, hP4⟩
                case measure => simp [intOf]; omega
              · by_cases k1 : kd = 1
                · subst k1
                  clear k0
                  go_wp2_with fail
                  refine wp_region_permA [(false, 0), (false, 1), (false, 2), (false, 4), (false, 5), (false, 6), (true, 3), (true, 7), (false, 8)] (fun wx => Row wx ga A 32) (by kernel_rfl) (by kernel_rfl) hPd.act ?_
                  refine a_move (some 96) _ rfl rfl rfl (by rfl) ?_
                  simp only [Act.put, List.setIfInBounds_toArray, List.set_cons_zero, List.set_cons_succ]
                  refine a_value (some 97) ?_ rfl rfl (by rfl) (fun w hw => ?_) ?_
                  rotate_left
                  · go_simp
                    with_reducible rfl
                  simp only [Act.put, List.setIfInBounds_toArray, List.set_cons_zero, List.set_cons_succ]
                  refine a_value (some 98) ?_ rfl rfl (by rfl) (fun w hw => ?_) ?_
                  rotate_left
                  · have hc := (hw.cell 1).trans a1
                    go_simp
                    with_reducible rfl
                  simp only [Act.put, List.setIfInBounds_toArray, List.set_cons_zero, List.set_cons_succ]
                  refine a_move (some 100) _ rfl rfl rfl (by rfl) ?_
                  simp only [Act.put, List.setIfInBounds_toArray, List.set_cons_zero, List.set_cons_succ]
                  refine a_value (some 101) ?_ rfl rfl (by rfl) (fun w hw => ?_) ?_
                  rotate_left
                  · go_simp
                    with_reducible rfl
                  simp only [Act.put, List.setIfInBounds_toArray, List.set_cons_zero, List.set_cons_succ]
                  refine a_value (some 102) ?_ rfl rfl (by rfl) (fun w hw => ?_) ?_
                  rotate_left
                  · have hc := (hw.cell 1).trans a1
                    go_simp
                    with_reducible rfl
                  simp only [Act.put, List.setIfInBounds_toArray, List.set_cons_zero, List.set_cons_succ]
                  refine a_call (some 99) rfl rfl (by rfl) 13 #[.pointer (some ⟨gs, 0, none⟩), .int .i64 N] (by go_simp) ((put_any hPd N).mono fun e w2 ⟨he, hP2⟩ => ⟨_, he, hP2.act, ?_⟩)
                  simp only [Act.put, List.setIfInBounds_toArray, List.set_cons_zero, List.set_cons_succ]
                  refine a_call (some 103) rfl rfl (by rfl) 14 #[.pointer (some ⟨gr, 0, none⟩), .int .i64 N, .bool true] (by go_simp) ((rset_any hP2 N true).mono fun e w3 ⟨he, hP3⟩ => ⟨_, he, hP3.act, ?_⟩)
                  generalize errOf n T N true = er at *
                  simp only [Act.put, List.setIfInBounds_toArray, List.set_cons_zero, List.set_cons_succ]
                  refine a_value (some 104) ?_ rfl rfl (by rfl) (fun w hw => ?_) ?_
                  rotate_left
                  · go_simp
                    with_reducible rfl
                  simp only [Act.put, List.setIfInBounds_toArray, List.set_cons_zero, List.set_cons_succ]
                  refine a_done ?_
                  try simp only [Exit.then]
                  go_wp2
                  go_roundw
                  case rel => exact ⟨j + 1, gs, _, by omega, by go_num, rfl, hP3⟩
                  case measure => simp [intOf]; omega
                · by_cases k2 : kd = 2
                  · subst k2
                    clear k0 k1
                    go_wp2_with fail
                    refine wp_region_permA [(false, 0), (false, 1), (false, 2), (false, 4), (false, 5), (false, 6), (true, 3), (true, 7), (false, 8)] (fun wx => Row wx ga A 32) (by kernel_rfl) (by kernel_rfl) hPd.act ?_
                    refine a_move (some 107) _ rfl rfl rfl (by rfl) ?_
                    simp only [Act.put, List.setIfInBounds_toArray, List.set_cons_zero, List.set_cons_succ]
                    refine a_value (some 108) ?_ rfl rfl (by rfl) (fun w hw => ?_) ?_
                    rotate_left
                    · go_simp
                      with_reducible rfl
                    simp only [Act.put, List.setIfInBounds_toArray, List.set_cons_zero, List.set_cons_succ]
                    refine a_value (some 109) ?_ rfl rfl (by rfl) (fun w hw => ?_) ?_
                    rotate_left
                    · have hc := (hw.cell 1).trans a1
                      go_simp
                      with_reducible rfl
                    simp only [Act.put, List.setIfInBounds_toArray, List.set_cons_zero, List.set_cons_succ]
                    refine a_move (some 111) _ rfl rfl rfl (by rfl) ?_
                    simp only [Act.put, List.setIfInBounds_toArray, List.set_cons_zero, List.set_cons_succ]
                    refine a_value (some 112) ?_ rfl rfl (by rfl) (fun w hw => ?_) ?_
                    rotate_left
                    · go_simp
                      with_reducible rfl
                    simp only [Act.put, List.setIfInBounds_toArray, List.set_cons_zero, List.set_cons_succ]
                    refine a_value (some 113) ?_ rfl rfl (by rfl) (fun w hw => ?_) ?_
                    rotate_left
                    · have hc := (hw.cell 1).trans a1
                      go_simp
                      with_reducible rfl
                    simp only [Act.put, List.setIfInBounds_toArray, List.set_cons_zero, List.set_cons_succ]
                    refine a_call (some 110) rfl rfl (by rfl) 15 #[.pointer (some ⟨gs, 0, none⟩), .int .i64 N] (by go_simp) ((drop_any hPd N).mono fun e w2 ⟨he, hP2⟩ => ⟨_, he, hP2.act, ?_⟩)
                    simp only [Act.put, List.setIfInBounds_toArray, List.set_cons_zero, List.set_cons_succ]
                    refine a_call (some 114) rfl rfl (by rfl) 14 #[.pointer (some ⟨gr, 0, none⟩), .int .i64 N, .bool false] (by go_simp) ((rset_any hP2 N false).mono fun e w3 ⟨he, hP3⟩ => ⟨_, he, hP3.act, ?_⟩)
                    generalize errOf n T N false = er at *
                    simp only [Act.put, List.setIfInBounds_toArray, List.set_cons_zero, List.set_cons_succ]
                    refine a_value (some 115) ?_ rfl rfl (by rfl) (fun w hw => ?_) ?_
                    rotate_left
                    · go_simp
                      with_reducible rfl
                    simp only [Act.put, List.setIfInBounds_toArray, List.set_cons_zero, List.set_cons_succ]
                    refine a_done ?_
                    try simp only [Exit.then]
                    go_wp2
                    go_roundw
                    case rel => exact ⟨j + 1, gs, _, by omega, by go_num, rfl, hP3⟩
                    case measure => simp [intOf]; omega
                  · by_cases k3 : kd = 3
                    · subst k3
                      clear k0 k1 k2 hPd
                      have HT := clone_ok hP.set
                      have hlt := hP.set.row.lt
                      have hos := hP.old.size
                      go_wp2_with fail
                      refine HT.mono ?_
                      rintro e w3 ⟨rfl, hc, hb⟩
                      have hP3 := hP.below hb
                      clear HT c0 c2 hb
                      have HT := same_ok hc hP3.set
                      rw [sameB_refl] at HT
                      go_wp2_with fail
                      refine HT.mono ?_
                      rintro e w4 ⟨rfl, hst⟩
                      have hP4 := hP3.still hst
                      have hc4 := hc.still hst
                      clear HT hP3 hc hst
                      have HT := take_any hP4.set
                      go_wp2_with fail
                      refine HT.mono ?_
                      rintro e w5 ⟨v, T', rfl, hs5, hch⟩
                      have hc5 := hc4.chg hch (by omega)
                      have hP5 := (hP4.setStep hs5 hch).other hc5 hos
                      clear HT hP4 hc4 hs5 hch hc5
                      go_wp2
                      go_roundw
                      case rel => exact ⟨j + 1, _, T, by omega, by go_num, rfl, hP5⟩
                      case measure => simp [intOf]; omega
                    · by_cases k4 : kd = 4
                      · subst k4
                        clear k0 k1 k2 k3 hPd
                        have HT := bytes_ok hP.set
                        have hos := hP.old.size
                        go_wp2_with fail
                        refine HT.mono ?_
                        rintro e w3 ⟨rfl, hw3⟩
                        have hb3 : Below wr.heap.size wr w3 := by rw [hw3]; exact (Below.refl _ _).alloc (Nat.le_refl _) _
                        have hr3 : Row w3 wr.heap.size (arr (byt T)) 5 := by rw [hw3]; exact Row.new _ _ 5
                        have hP3 := hP.below hb3
                        have hos3 := hb3.size
                        clear HT c0 c2 hw3 hb3
                        have HT := reread h0 h1 hP3.set.top hr3
                        go_wp2_with fail
                        refine HT.mono ?_
                        rintro e w4 ⟨rfl, hc, hb⟩
                        have hP4 := hP3.below hb
                        clear HT hP3 hP hb hr3
                        have HT := same_ok hc hP4.set
                        rw [sameB_refl] at HT
                        go_wp2_with fail
                        refine HT.mono ?_
                        rintro e w5 ⟨rfl, hst⟩
                        have hP5 := (hP4.still hst).other (hc.still hst) (by omega)
                        clear HT hP4 hc hst
                        go_wp2
                        go_roundw
                        case rel => exact ⟨j + 1, _, T, by omega, by go_num, rfl, hP5⟩
                        case measure => simp [intOf]; omega
                      · clear hPd
                        go_wp2
                        go_roundw
                        case rel => exact ⟨j + 1, gs, T, by omega, by go_num, rfl, hP⟩
                        case measure => simp [intOf]; omega
            · have hjt' : ¬ (j : Int) ≤ tk := by omega
              clear hPd
              have HT := count_ok hP.set
              go_wp2_with fail
              refine HT.mono ?_
              rintro e w3 ⟨rfl, hst⟩
              have hP3 := hP.still hst
              have HP3 : Hid _ := hP3
              clear HT c0 c2 hP hst hP3
              go_wp2
              go_loopw [21, 22] (fun cv kv wx => ∃ q : Nat, q ≤ n ∧ cv = .int .i64 (cnt T q) ∧ kv = .int .i64 q ∧ wx = w3) (fun _ kv _ => n - (intOf kv).toNat)
              case atStart => exact ⟨0, by omega, rfl, rfl, rfl⟩
              case round =>
                obtain ⟨q, hq, rfl, rfl, rfl⟩ := hrel
                have hP := HP3.out
                have hsl := hP.ref.sl
                have hcq := cnt_le T q
                by_cases hqn : q < n
                · have hqn' : (q : Int) < n := by omega
                  have hcb := hP.ref.at q hqn
                  have hcs : cnt T (q + 1) = cnt T q + (T q).toNat := rfl
                  cases hT : T q with
                  | true =>
                    rw [hT] at hcb hcs
                    have HC : Hid _ := hcs
                    clear hcs hT hP
                    generalize cnt T q = cq at *
                    go_wp2
                    go_roundw
                    case rel => exact ⟨q + 1, by omega, by rw [HC.out]; simp, by go_num, trivial⟩
                    case measure => simp [intOf]; omega
                  | false =>
                    rw [hT] at hcb hcs
                    have HC : Hid _ := hcs
                    clear hcs hT hP
                    generalize cnt T q = cq at *
                    go_wp2
                    go_roundw
                    case rel => exact ⟨q + 1, by omega, by rw [HC.out]; simp, by go_num, trivial⟩
                    case measure => simp [intOf]; omega
                · have hqn' : ¬ (q : Int) < n := by omega
                  obtain rfl : q = n := by omega
                  have hcut : cut T q = T := cut_all T q hP.set.top
                  obtain ⟨str, hstr⟩ : ∃ str, str = sStr (byt T) := ⟨_, rfl⟩
                  have HS1 : Hid (∀ wx p, Row wx p (arr (byt T)) 5 → (convert 42 9 (.slice (some ⟨p, 0, none⟩) 256 256)).run Try.prog wx = .ok (.string str) wx) := fun wx p hx => by rw [convRow hx, hstr]
                  have HBY : Hid (∀ wx, SetAt wx gs q T → Calls Try.prog 19 #[.pointer (some ⟨gs, 0, none⟩)] wx fun e w' => ∃ p, e = .returned (.slice (some ⟨p, 0, none⟩) 256 256) ∧ Row w' p (arr (byt T)) 5 ∧ Below wx.heap.size wx w') := fun wx hx => (bytes_ok hx).mono fun e w' ⟨h1, h2⟩ => ⟨_, h1, by rw [h2]; exact Row.new _ _ 5, by rw [h2]; exact (Below.refl _ _).alloc (Nat.le_refl _) _⟩
                  have HRB : Hid (∀ wx, RAt wx gr gi q T → Calls Try.prog 22 #[.pointer (some ⟨gr, 0, none⟩)] wx fun e w' => ∃ p, e = .returned (.slice (some ⟨p, 0, none⟩) 256 256) ∧ Row w' p (arr (byt T)) 5 ∧ Below wx.heap.size wx w') := fun wx hx => (rbytes_ok hx).mono fun e w' ⟨h1, h2, h3⟩ => ⟨_, h1, by rw [hcut] at h2; exact h2, h3⟩
                  generalize arr (byt T) = BA at *
                  clear hstr hcut
                  have hPd : PK w q gr gi ga A gs T T wr.drew := hP.still (Still.refl _).drew
                  have HHA : Hid (∀ wx, PK w q gr gi ga A gs T T wx → Calls Try.prog 21 #[.pointer (some ⟨gs, 0, none⟩), .int .i64 N] wx fun e w' => e = .returned (.bool (decide (0 ≤ N ∧ N < q) && T N.toNat)) ∧ Still wx w') := fun wx hx => has_any hx N
                  generalize cnt T q = cq at *
                  have hwn : IntKind.i64.wrap ((q : Int) - cq) = (q : Int) - cq := by rw [IntKind.wrap_i64]; omega
                  clear hP HP3
                  by_cases hN0 : 0 ≤ N
                  · by_cases hNq : N < q
                    · obtain ⟨Q, rfl⟩ : ∃ Q : Nat, N = Q := ⟨N.toNat, by omega⟩
                      have hQ : Q < q := by omega
                      have HHAS : Hid (∀ wx, PK w q gr gi ga A gs T T wx → Calls Try.prog 21 #[.pointer (some ⟨gs, 0, none⟩), .int .i64 Q] wx fun e w' => e = .returned (.bool (T Q)) ∧ Still wx w') := fun wx hx => by have h := HHA.out wx hx; rw [decide_eq_true ⟨hN0, hNq⟩, Bool.true_and, Int.toNat_natCast] at h; exact h
                      clear HHA
                      obtain ⟨tq, hTQ⟩ : ∃ tq, tq = T Q := ⟨_, rfl⟩
                      rw [← hTQ] at HHAS
                      have HTQ : Hid (∀ wx, PK w q gr gi ga A gs T T wx → wx.cell? ⟨gi, Q, none⟩ = some (.bool tq)) := fun wx hx => by rw [hTQ]; exact hx.ref.at Q hQ
                      clear hTQ
                      go_wp2_with fail
                      refine wp_region_grow [(false, 0), (false, 1), (false, 2), (false, 3), (false, 4), (false, 5), (false, 6), (false, 7), (false, 8), (false, 9), (false, 10), (false, 11), (false, 12), (false, 13), (false, 15), (false, 16), (false, 17), (true, 14), (false, 18), (false, 19), (false, 20), (false, 21), (false, 22), (false, 23), (false, 24), (false, 25), (false, 26), (false, 27), (false, 28), (false, 29), (false, 30), (false, 31), (false, 32), (false, 33), (false, 34), (false, 35), (false, 36), (false, 37), (false, 40), (true, 38), (false, 39), (true, 41), (false, 42), (false, 43), (false, 44)] (PK w q gr gi ga A gs T T) (by kernel_rfl) (by kernel_rfl) hPd ?_
                      refine k_move (some 168) (.int .i64 cq) (.tmp 19) rfl rfl rfl (by kernel_rfl) (by kernel_rfl) ?_
                      refine k_move (some 169) (.int .i64 cq) (.tmp 21) rfl rfl rfl (by kernel_rfl) (by kernel_rfl) ?_
                      refine k_two (some 170) (.bool false) (.tmp 168) (.tmp 169) (.int .i64 cq) (.int .i64 cq) rfl rfl (by kernel_rfl) (by kernel_rfl) (by kernel_rfl) (fun ρ hc h1 h2 w hw => ?_) ?_
                      · go_simp
                      refine k_move (some 171) (.bool false) (.tmp 170) rfl rfl rfl (by kernel_rfl) (by kernel_rfl) ?_
                      refine k_move (some 172) (.int .i64 ((q : Int) - cq)) (.tmp 20) rfl rfl rfl (by kernel_rfl) (by kernel_rfl) ?_
                      refine k_move (some 173) (.int .i64 q) (.tmp 0) rfl rfl rfl (by kernel_rfl) (by kernel_rfl) ?_
                      refine k_move (some 174) (.int .i64 cq) (.tmp 21) rfl rfl rfl (by kernel_rfl) (by kernel_rfl) ?_
                      refine k_two (some 175) (.int .i64 ((q : Int) - cq)) (.tmp 173) (.tmp 174) (.int .i64 q) (.int .i64 cq) rfl rfl (by kernel_rfl) (by kernel_rfl) (by kernel_rfl) (fun ρ hc h1 h2 w hw => ?_) ?_
                      · go_simp
                      refine k_two (some 176) (.bool false) (.tmp 172) (.tmp 175) (.int .i64 ((q : Int) - cq)) (.int .i64 ((q : Int) - cq)) rfl rfl (by kernel_rfl) (by kernel_rfl) (by kernel_rfl) (fun ρ hc h1 h2 w hw => ?_) ?_
                      · go_simp
                      refine k_two (some 177) (.bool false) (.tmp 171) (.tmp 176) (.bool false) (.bool false) rfl rfl (by kernel_rfl) (by kernel_rfl) (by kernel_rfl) (fun ρ hc h1 h2 w hw => ?_) ?_
                      · go_simp
                      refine k_move (some 178) (.bool false) (.tmp 177) rfl rfl rfl (by kernel_rfl) (by kernel_rfl) ?_
                      refine k_move (some 179) (.pointer (some ⟨gs, 0, none⟩)) (.tmp 5) rfl rfl rfl (by kernel_rfl) (by kernel_rfl) ?_
                      refine k_one (some 180) (.pointer (some ⟨ga, 1, none⟩)) (.tmp 10) (.pointer (some ⟨ga, 0, none⟩)) rfl rfl (by kernel_rfl) (by kernel_rfl) (fun ρ hc h1 w hw => ?_) ?_
                      · go_simp
                      refine k_one (some 181) (.int .i64 (Q : Int)) (.tmp 180) (.pointer (some ⟨ga, 1, none⟩)) rfl rfl (by kernel_rfl) (by kernel_rfl) (fun ρ hc h1 w hw => ?_) ?_
                      · have hcc := (hw.act.cell 1).trans a1; go_simp
                      refine k_one (some 183) (.pointer (some ⟨ga, 1, none⟩)) (.tmp 10) (.pointer (some ⟨ga, 0, none⟩)) rfl rfl (by kernel_rfl) (by kernel_rfl) (fun ρ hc h1 w hw => ?_) ?_
                      · go_simp
                      refine k_one (some 184) (.int .i64 (Q : Int)) (.tmp 183) (.pointer (some ⟨ga, 1, none⟩)) rfl rfl (by kernel_rfl) (by kernel_rfl) (fun ρ hc h1 w hw => ?_) ?_
                      · have hcc := (hw.act.cell 1).trans a1; go_simp
                      refine k_one (some 185) (.bool true) (.tmp 184) (.int .i64 (Q : Int)) rfl rfl (by kernel_rfl) (by kernel_rfl) (fun ρ hc h1 w hw => ?_) ?_
                      · go_simp
                      refine k_call2 (some 182) 21 (.tmp 179) (.tmp 181) (.pointer (some ⟨gs, 0, none⟩)) (.int .i64 (Q : Int)) rfl rfl (by kernel_rfl) (by kernel_rfl) (by kernel_rfl) (fun ρ hf h1 h2 => by go_simp) ((HHAS.out _ hPd).mono fun e w6 ⟨he, hst⟩ => ⟨_, he, PK w q gr gi ga A gs T T, fun _ h => h, hPd.still hst, ?_⟩)
                      have hP6 := hPd.still hst
                      refine k_move (some 186) (.bool true) (.tmp 185) rfl rfl rfl (by kernel_rfl) (by kernel_rfl) ?_
                      refine k_one (some 187) (.pointer (some ⟨ga, 1, none⟩)) (.tmp 10) (.pointer (some ⟨ga, 0, none⟩)) rfl rfl (by kernel_rfl) (by kernel_rfl) (fun ρ hc h1 w hw => ?_) ?_
                      · go_simp
                      refine k_one (some 188) (.int .i64 (Q : Int)) (.tmp 187) (.pointer (some ⟨ga, 1, none⟩)) rfl rfl (by kernel_rfl) (by kernel_rfl) (fun ρ hc h1 w hw => ?_) ?_
                      · have hcc := (hw.act.cell 1).trans a1; go_simp
                      refine k_move (some 189) (.int .i64 q) (.tmp 0) rfl rfl rfl (by kernel_rfl) (by kernel_rfl) ?_
                      refine k_two (some 190) (.bool true) (.tmp 188) (.tmp 189) (.int .i64 (Q : Int)) (.int .i64 q) rfl rfl (by kernel_rfl) (by kernel_rfl) (by kernel_rfl) (fun ρ hc h1 h2 w hw => ?_) ?_
                      · go_simp
                      refine k_two (some 191) (.bool true) (.tmp 186) (.tmp 190) (.bool true) (.bool true) rfl rfl (by kernel_rfl) (by kernel_rfl) (by kernel_rfl) (fun ρ hc h1 h2 w hw => ?_) ?_
                      · go_simp
                      refine k_move (some 192) (.bool true) (.tmp 191) rfl rfl rfl (by kernel_rfl) (by kernel_rfl) ?_
                      refine k_move (some 193) (.pointer (some ⟨gr, 0, none⟩)) (.tmp 7) rfl rfl rfl (by kernel_rfl) (by kernel_rfl) ?_
                      refine k_one (some 194) (.pointer (some ⟨gr, 0, none⟩)) (.tmp 193) (.pointer (some ⟨gr, 0, none⟩)) rfl rfl (by kernel_rfl) (by kernel_rfl) (fun ρ hc h1 w hw => ?_) ?_
                      · go_simp
                      refine k_one (some 195) (.pointer (some ⟨gr, 0, none⟩)) (.tmp 194) (.pointer (some ⟨gr, 0, none⟩)) rfl rfl (by kernel_rfl) (by kernel_rfl) (fun ρ hc h1 w hw => ?_) ?_
                      · go_simp
                      refine k_one (some 196) (.slice (some ⟨gi, 0, none⟩) q q) (.tmp 195) (.pointer (some ⟨gr, 0, none⟩)) rfl rfl (by kernel_rfl) (by kernel_rfl) (fun ρ hc h1 w hw => ?_) ?_
                      · have hcc := hw.ref.sl; go_simp
                      refine k_one (some 197) (.pointer (some ⟨ga, 1, none⟩)) (.tmp 10) (.pointer (some ⟨ga, 0, none⟩)) rfl rfl (by kernel_rfl) (by kernel_rfl) (fun ρ hc h1 w hw => ?_) ?_
                      · go_simp
                      refine k_one (some 198) (.int .i64 (Q : Int)) (.tmp 197) (.pointer (some ⟨ga, 1, none⟩)) rfl rfl (by kernel_rfl) (by kernel_rfl) (fun ρ hc h1 w hw => ?_) ?_
                      · have hcc := (hw.act.cell 1).trans a1; go_simp
                      refine k_two (some 199) (.pointer (some ⟨gi, Q, none⟩)) (.tmp 196) (.tmp 198) (.slice (some ⟨gi, 0, none⟩) q q) (.int .i64 (Q : Int)) rfl rfl (by kernel_rfl) (by kernel_rfl) (by kernel_rfl) (fun ρ hc h1 h2 w hw => ?_) ?_
                      · go_simp
                      refine k_one (some 200) (.bool tq) (.tmp 199) (.pointer (some ⟨gi, Q, none⟩)) rfl rfl (by kernel_rfl) (by kernel_rfl) (fun ρ hc h1 w hw => ?_) ?_
                      · have hcc := HTQ.out w hw; go_simp
                      refine k_two (some 201) (.bool tq) (.tmp 192) (.tmp 200) (.bool true) (.bool tq) rfl rfl (by kernel_rfl) (by kernel_rfl) (by kernel_rfl) (fun ρ hc h1 h2 w hw => ?_) ?_
                      · go_simp
                      refine k_two (some 202) (.bool false) (.tmp 182) (.tmp 201) (.bool tq) (.bool tq) rfl rfl (by kernel_rfl) (by kernel_rfl) (by kernel_rfl) (fun ρ hc h1 h2 w hw => ?_) ?_
                      · go_simp
                      refine k_two (some 203) (.bool false) (.tmp 178) (.tmp 202) (.bool false) (.bool false) rfl rfl (by kernel_rfl) (by kernel_rfl) (by kernel_rfl) (fun ρ hc h1 h2 w hw => ?_) ?_
                      · go_simp
                      refine k_move (some 204) (.bool false) (.tmp 203) rfl rfl rfl (by kernel_rfl) (by kernel_rfl) ?_
                      refine k_move (some 205) (.pointer (some ⟨gs, 0, none⟩)) (.tmp 5) rfl rfl rfl (by kernel_rfl) (by kernel_rfl) ?_
                      refine k_move (some 208) (.pointer (some ⟨gr, 0, none⟩)) (.tmp 7) rfl rfl rfl (by kernel_rfl) (by kernel_rfl) ?_
                      refine k_call1 (some 206) 19 (.tmp 205) (.pointer (some ⟨gs, 0, none⟩)) rfl rfl (by kernel_rfl) (by kernel_rfl) (fun ρ hf h1 => by go_simp) ((HBY.out _ hP6.set).mono fun e w7 ⟨p1, he, hr7, hb7⟩ => ⟨_, he, fun wx => PK w q gr gi ga A gs T T wx ∧ Row wx p1 BA 5, fun _ h => h.1, ⟨hP6.below hb7, hr7⟩, ?_⟩)
                      have hP7 := hP6.below hb7
                      refine k_convert (some 207) 42 9 (.tmp 206) (.string str) (.slice (some ⟨p1, 0, none⟩) 256 256) rfl rfl rfl (by kernel_rfl) (by kernel_rfl) (fun wx hx => HS1.out wx p1 hx.2) ?_
                      refine k_call1 (some 209) 22 (.tmp 208) (.pointer (some ⟨gr, 0, none⟩)) rfl rfl (by kernel_rfl) (by kernel_rfl) (fun ρ hf h1 => by go_simp) ((HRB.out _ hP7.ref).mono fun e w8 ⟨p2, he, hr8, hb8⟩ => ⟨_, he, fun wx => (PK w q gr gi ga A gs T T wx ∧ Row wx p1 BA 5) ∧ Row wx p2 BA 5, fun _ h => h.1, ⟨⟨hP7.below hb8, hr7.below hb8 hr7.lt⟩, hr8⟩, ?_⟩)
                      have hP8 := hP7.below hb8
                      refine k_convert (some 210) 42 9 (.tmp 209) (.string str) (.slice (some ⟨p2, 0, none⟩) 256 256) rfl rfl rfl (by kernel_rfl) (by kernel_rfl) (fun wx hx => HS1.out wx p2 hx.2) ?_
                      refine k_two (some 211) (.bool false) (.tmp 207) (.tmp 210) (.string str) (.string str) rfl rfl (by kernel_rfl) (by kernel_rfl) (by kernel_rfl) (fun ρ hc h1 h2 w hw => ?_) ?_
                      · go_simp
                      refine k_two (some 212) (.bool false) (.tmp 204) (.tmp 211) (.bool false) (.bool false) rfl rfl (by kernel_rfl) (by kernel_rfl) (by kernel_rfl) (fun ρ hc h1 h2 w hw => ?_) ?_
                      · go_simp
                      refine k_done { tmps := #[Value.int IntKind.i64 ↑q, Value.slice (some { block := b, off := off }) len cap, undef, undef, u4, Value.pointer (some { block := gs, off := 0 }), Value.int IntKind.i64 0, Value.pointer (some { block := gr, off := 0 }), Value.int IntKind.i64 0, Value.int IntKind.i64 ↑i, Value.pointer (some { block := ga, off := 0 }), Value.int IntKind.i64 ↑j, u12, u13, u14, u15, u16, u17, u18, Value.int IntKind.i64 ↑cq, Value.int IntKind.i64 (↑q - ↑cq), Value.int IntKind.i64 ↑cq, Value.int IntKind.i64 ↑q, Value.tuple #[Value.pointer (some { block := w.heap.size, off := 0 }), Value.int IntKind.i64 0], Value.int IntKind.i64 ↑q, Value.tuple #[Value.pointer (some { block := w.heap.size, off := 0 }), Value.int IntKind.i64 0], Value.pointer (some { block := w.heap.size, off := 0 }), Value.int IntKind.i64 0, Value.tuple #[Value.pointer (some { block := gr, off := 0 }), Value.int IntKind.i64 0], Value.int IntKind.i64 ↑q, Value.tuple #[Value.pointer (some { block := gr, off := 0 }), Value.int IntKind.i64 0], Value.pointer (some { block := gr, off := 0 }), Value.int IntKind.i64 0, Value.int IntKind.i64 0, Value.int IntKind.i64 0, Value.bool false, Value.bool false, Value.pointer (some { block := w.heap.size, off := 0 }), Value.bool false, Value.pointer (some { block := gr, off := 0 }), Value.bool false, Value.bool false, Value.bool false, Value.bool false, Value.bool true, Value.bool false, Value.bool false, Value.int IntKind.i64 ↑i, Value.slice (some { block := b, off := off }) len cap, Value.int IntKind.i64 ↑len, Value.bool true, Value.bool true, Value.int IntKind.i64 ↑i, Value.bool true, Value.bool true, Value.bool true, Value.pointer (some { block := gr, off := 0 }), Value.bool true, Value.bool true, u59, u60, Value.slice (some { block := b, off := off }) len cap, Value.int IntKind.i64 ↑i, Value.pointer (some { block := b, off := off + i * 3 }), Value.agg A, Value.int IntKind.i64 ↑j, Value.pointer (some { block := ga, off := 2 }), Value.int IntKind.i64 tm, Value.int IntKind.i64 ↑tk, Value.bool false, u70, u71, u72, u73, u74, u75, u76, u77, u78, u79, u80, u81, u82, u83, u84, u85, u86, u87, u88, u89, u90, u91, u92, u93, u94, u95, u96, u97, u98, u99, u100, u101, u102, u103, u104, u105, u106, u107, u108, u109, u110, u111, u112, u113, u114, u115, u116, u117, u118, u119, u120, u121, u122, u123, u124, u125, u126, u127, u128, u129, u130, u131, u132, u133, u134, u135, u136, u137, u138, u139, u140, u141, u142, u143, u144, Value.tuple #[Value.int IntKind.i64 ↑cq, Value.int IntKind.i64 (↑q - ↑cq)], Value.pointer (some { block := gs, off := 0 }), Value.tuple #[Value.int IntKind.i64 ↑cq, Value.int IntKind.i64 (↑q - ↑cq)], Value.int IntKind.i64 ↑cq, Value.int IntKind.i64 (↑q - ↑cq), Value.int IntKind.i64 ↑q, Value.pointer (some { block := gr, off := 0 }), Value.pointer (some { block := gr, off := 0 }), Value.pointer (some { block := gr, off := 0 }), Value.slice (some { block := gi, off := 0 }) q q, Value.int IntKind.i64 ↑q, Value.bool false, u157, u158, u159, u160, u161, u162, u163, u164, u165, u166, u167, .int .i64 cq, .int .i64 cq, .bool false, .bool false, .int .i64 ((q : Int) - cq), .int .i64 q, .int .i64 cq, .int .i64 ((q : Int) - cq), .bool false, .bool false, .bool false, .pointer (some ⟨gs, 0, none⟩), .pointer (some ⟨ga, 1, none⟩), .int .i64 (Q : Int), .bool tq, .pointer (some ⟨ga, 1, none⟩), .int .i64 (Q : Int), .bool true, .bool true, .pointer (some ⟨ga, 1, none⟩), .int .i64 (Q : Int), .int .i64 q, .bool true, .bool true, .bool true, .pointer (some ⟨gr, 0, none⟩), .pointer (some ⟨gr, 0, none⟩), .pointer (some ⟨gr, 0, none⟩), .slice (some ⟨gi, 0, none⟩) q q, .pointer (some ⟨ga, 1, none⟩), .int .i64 (Q : Int), .pointer (some ⟨gi, Q, none⟩), .bool tq, .bool tq, .bool false, .bool false, .bool false, .pointer (some ⟨gs, 0, none⟩), .slice (some ⟨p1, 0, none⟩) 256 256, .string str, .pointer (some ⟨gr, 0, none⟩), .slice (some ⟨p2, 0, none⟩) 256 256, .string str, .bool false, .bool false], defers := [] } (by kernel_rfl) ?_
                      try simp only [Exit.then]
                      go_wp2
                      go_roundw
                      case rel => exact ⟨i + 1, gs, T, by omega, by go_num, rfl, hP8.set, hP8.ref, hP8.old, hP8.ge⟩
                      case measure => simp [intOf]; omega
                    · have HHAS : Hid (∀ wx, PK w q gr gi ga A gs T T wx → Calls Try.prog 21 #[.pointer (some ⟨gs, 0, none⟩), .int .i64 N] wx fun e w' => e = .returned (.bool false) ∧ Still wx w') := fun wx hx => by have h := HHA.out wx hx; rw [decide_eq_false (fun h => hNq h.2), Bool.false_and] at h; exact h
                      clear HHA
                      go_wp2_with fail
                      refine wp_region_grow [(false, 0), (false, 1), (false, 2), (false, 3), (false, 4), (false, 5), (false, 6), (false, 7), (false, 8), (false, 9), (false, 10), (false, 11), (false, 12), (false, 13), (false, 15), (false, 16), (false, 17), (true, 14), (false, 18), (false, 19), (false, 20), (false, 21), (false, 22), (false, 23), (false, 24), (false, 25), (false, 26), (false, 27), (false, 28), (false, 29), (false, 30), (false, 31), (false, 32), (false, 33), (false, 34), (false, 35), (false, 36), (false, 37), (false, 40), (true, 38), (false, 39), (true, 41), (false, 42), (false, 43), (false, 44)] (PK w q gr gi ga A gs T T) (by kernel_rfl) (by kernel_rfl) hPd ?_
                      refine k_move (some 168) (.int .i64 cq) (.tmp 19) rfl rfl rfl (by kernel_rfl) (by kernel_rfl) ?_
                      refine k_move (some 169) (.int .i64 cq) (.tmp 21) rfl rfl rfl (by kernel_rfl) (by kernel_rfl) ?_
                      refine k_two (some 170) (.bool false) (.tmp 168) (.tmp 169) (.int .i64 cq) (.int .i64 cq) rfl rfl (by kernel_rfl) (by kernel_rfl) (by kernel_rfl) (fun ρ hc h1 h2 w hw => ?_) ?_
                      · go_simp
                      refine k_move (some 171) (.bool false) (.tmp 170) rfl rfl rfl (by kernel_rfl) (by kernel_rfl) ?_
                      refine k_move (some 172) (.int .i64 ((q : Int) - cq)) (.tmp 20) rfl rfl rfl (by kernel_rfl) (by kernel_rfl) ?_
                      refine k_move (some 173) (.int .i64 q) (.tmp 0) rfl rfl rfl (by kernel_rfl) (by kernel_rfl) ?_
                      refine k_move (some 174) (.int .i64 cq) (.tmp 21) rfl rfl rfl (by kernel_rfl) (by kernel_rfl) ?_
                      refine k_two (some 175) (.int .i64 ((q : Int) - cq)) (.tmp 173) (.tmp 174) (.int .i64 q) (.int .i64 cq) rfl rfl (by kernel_rfl) (by kernel_rfl) (by kernel_rfl) (fun ρ hc h1 h2 w hw => ?_) ?_
                      · go_simp
                      refine k_two (some 176) (.bool false) (.tmp 172) (.tmp 175) (.int .i64 ((q : Int) - cq)) (.int .i64 ((q : Int) - cq)) rfl rfl (by kernel_rfl) (by kernel_rfl) (by kernel_rfl) (fun ρ hc h1 h2 w hw => ?_) ?_
                      · go_simp
                      refine k_two (some 177) (.bool false) (.tmp 171) (.tmp 176) (.bool false) (.bool false) rfl rfl (by kernel_rfl) (by kernel_rfl) (by kernel_rfl) (fun ρ hc h1 h2 w hw => ?_) ?_
                      · go_simp
                      refine k_move (some 178) (.bool false) (.tmp 177) rfl rfl rfl (by kernel_rfl) (by kernel_rfl) ?_
                      refine k_move (some 179) (.pointer (some ⟨gs, 0, none⟩)) (.tmp 5) rfl rfl rfl (by kernel_rfl) (by kernel_rfl) ?_
                      refine k_one (some 180) (.pointer (some ⟨ga, 1, none⟩)) (.tmp 10) (.pointer (some ⟨ga, 0, none⟩)) rfl rfl (by kernel_rfl) (by kernel_rfl) (fun ρ hc h1 w hw => ?_) ?_
                      · go_simp
                      refine k_one (some 181) (.int .i64 N) (.tmp 180) (.pointer (some ⟨ga, 1, none⟩)) rfl rfl (by kernel_rfl) (by kernel_rfl) (fun ρ hc h1 w hw => ?_) ?_
                      · have hcc := (hw.act.cell 1).trans a1; go_simp
                      refine k_one (some 183) (.pointer (some ⟨ga, 1, none⟩)) (.tmp 10) (.pointer (some ⟨ga, 0, none⟩)) rfl rfl (by kernel_rfl) (by kernel_rfl) (fun ρ hc h1 w hw => ?_) ?_
                      · go_simp
                      refine k_one (some 184) (.int .i64 N) (.tmp 183) (.pointer (some ⟨ga, 1, none⟩)) rfl rfl (by kernel_rfl) (by kernel_rfl) (fun ρ hc h1 w hw => ?_) ?_
                      · have hcc := (hw.act.cell 1).trans a1; go_simp
                      refine k_one (some 185) (.bool true) (.tmp 184) (.int .i64 N) rfl rfl (by kernel_rfl) (by kernel_rfl) (fun ρ hc h1 w hw => ?_) ?_
                      · go_simp
                      refine k_call2 (some 182) 21 (.tmp 179) (.tmp 181) (.pointer (some ⟨gs, 0, none⟩)) (.int .i64 N) rfl rfl (by kernel_rfl) (by kernel_rfl) (by kernel_rfl) (fun ρ hf h1 h2 => by go_simp) ((HHAS.out _ hPd).mono fun e w6 ⟨he, hst⟩ => ⟨_, he, PK w q gr gi ga A gs T T, fun _ h => h, hPd.still hst, ?_⟩)
                      have hP6 := hPd.still hst
                      refine k_move (some 186) (.bool true) (.tmp 185) rfl rfl rfl (by kernel_rfl) (by kernel_rfl) ?_
                      refine k_one (some 187) (.pointer (some ⟨ga, 1, none⟩)) (.tmp 10) (.pointer (some ⟨ga, 0, none⟩)) rfl rfl (by kernel_rfl) (by kernel_rfl) (fun ρ hc h1 w hw => ?_) ?_
                      · go_simp
                      refine k_one (some 188) (.int .i64 N) (.tmp 187) (.pointer (some ⟨ga, 1, none⟩)) rfl rfl (by kernel_rfl) (by kernel_rfl) (fun ρ hc h1 w hw => ?_) ?_
                      · have hcc := (hw.act.cell 1).trans a1; go_simp
                      refine k_move (some 189) (.int .i64 q) (.tmp 0) rfl rfl rfl (by kernel_rfl) (by kernel_rfl) ?_
                      refine k_two (some 190) (.bool false) (.tmp 188) (.tmp 189) (.int .i64 N) (.int .i64 q) rfl rfl (by kernel_rfl) (by kernel_rfl) (by kernel_rfl) (fun ρ hc h1 h2 w hw => ?_) ?_
                      · go_simp
                      refine k_two (some 191) (.bool false) (.tmp 186) (.tmp 190) (.bool true) (.bool false) rfl rfl (by kernel_rfl) (by kernel_rfl) (by kernel_rfl) (fun ρ hc h1 h2 w hw => ?_) ?_
                      · go_simp
                      refine k_move (some 192) (.bool false) (.tmp 191) rfl rfl rfl (by kernel_rfl) (by kernel_rfl) ?_
                      refine g_skip (some 193) rfl rfl (by kernel_rfl) ?_
                      refine g_skip (some 194) rfl rfl (by kernel_rfl) ?_
                      refine g_skip (some 195) rfl rfl (by kernel_rfl) ?_
                      refine g_skip (some 196) rfl rfl (by kernel_rfl) ?_
                      refine g_skip (some 197) rfl rfl (by kernel_rfl) ?_
                      refine g_skip (some 198) rfl rfl (by kernel_rfl) ?_
                      refine g_skip (some 199) rfl rfl (by kernel_rfl) ?_
                      refine g_skip (some 200) rfl rfl (by kernel_rfl) ?_
                      refine k_one (some 201) (.bool false) (.tmp 192) (.bool false) rfl rfl (by kernel_rfl) (by kernel_rfl) (fun ρ hc h1 w hw => ?_) ?_
                      · go_simp
                      refine k_two (some 202) (.bool false) (.tmp 182) (.tmp 201) (.bool false) (.bool false) rfl rfl (by kernel_rfl) (by kernel_rfl) (by kernel_rfl) (fun ρ hc h1 h2 w hw => ?_) ?_
                      · go_simp
                      refine k_two (some 203) (.bool false) (.tmp 178) (.tmp 202) (.bool false) (.bool false) rfl rfl (by kernel_rfl) (by kernel_rfl) (by kernel_rfl) (fun ρ hc h1 h2 w hw => ?_) ?_
                      · go_simp
                      refine k_move (some 204) (.bool false) (.tmp 203) rfl rfl rfl (by kernel_rfl) (by kernel_rfl) ?_
                      refine k_move (some 205) (.pointer (some ⟨gs, 0, none⟩)) (.tmp 5) rfl rfl rfl (by kernel_rfl) (by kernel_rfl) ?_
                      refine k_move (some 208) (.pointer (some ⟨gr, 0, none⟩)) (.tmp 7) rfl rfl rfl (by kernel_rfl) (by kernel_rfl) ?_
                      refine k_call1 (some 206) 19 (.tmp 205) (.pointer (some ⟨gs, 0, none⟩)) rfl rfl (by kernel_rfl) (by kernel_rfl) (fun ρ hf h1 => by go_simp) ((HBY.out _ hP6.set).mono fun e w7 ⟨p1, he, hr7, hb7⟩ => ⟨_, he, fun wx => PK w q gr gi ga A gs T T wx ∧ Row wx p1 BA 5, fun _ h => h.1, ⟨hP6.below hb7, hr7⟩, ?_⟩)
                      have hP7 := hP6.below hb7
                      refine k_convert (some 207) 42 9 (.tmp 206) (.string str) (.slice (some ⟨p1, 0, none⟩) 256 256) rfl rfl rfl (by kernel_rfl) (by kernel_rfl) (fun wx hx => HS1.out wx p1 hx.2) ?_
                      refine k_call1 (some 209) 22 (.tmp 208) (.pointer (some ⟨gr, 0, none⟩)) rfl rfl (by kernel_rfl) (by kernel_rfl) (fun ρ hf h1 => by go_simp) ((HRB.out _ hP7.ref).mono fun e w8 ⟨p2, he, hr8, hb8⟩ => ⟨_, he, fun wx => (PK w q gr gi ga A gs T T wx ∧ Row wx p1 BA 5) ∧ Row wx p2 BA 5, fun _ h => h.1, ⟨⟨hP7.below hb8, hr7.below hb8 hr7.lt⟩, hr8⟩, ?_⟩)
                      have hP8 := hP7.below hb8
                      refine k_convert (some 210) 42 9 (.tmp 209) (.string str) (.slice (some ⟨p2, 0, none⟩) 256 256) rfl rfl rfl (by kernel_rfl) (by kernel_rfl) (fun wx hx => HS1.out wx p2 hx.2) ?_
                      refine k_two (some 211) (.bool false) (.tmp 207) (.tmp 210) (.string str) (.string str) rfl rfl (by kernel_rfl) (by kernel_rfl) (by kernel_rfl) (fun ρ hc h1 h2 w hw => ?_) ?_
                      · go_simp
                      refine k_two (some 212) (.bool false) (.tmp 204) (.tmp 211) (.bool false) (.bool false) rfl rfl (by kernel_rfl) (by kernel_rfl) (by kernel_rfl) (fun ρ hc h1 h2 w hw => ?_) ?_
                      · go_simp
                      refine k_done { tmps := #[Value.int IntKind.i64 ↑q, Value.slice (some { block := b, off := off }) len cap, undef, undef, u4, Value.pointer (some { block := gs, off := 0 }), Value.int IntKind.i64 0, Value.pointer (some { block := gr, off := 0 }), Value.int IntKind.i64 0, Value.int IntKind.i64 ↑i, Value.pointer (some { block := ga, off := 0 }), Value.int IntKind.i64 ↑j, u12, u13, u14, u15, u16, u17, u18, Value.int IntKind.i64 ↑cq, Value.int IntKind.i64 (↑q - ↑cq), Value.int IntKind.i64 ↑cq, Value.int IntKind.i64 ↑q, Value.tuple #[Value.pointer (some { block := w.heap.size, off := 0 }), Value.int IntKind.i64 0], Value.int IntKind.i64 ↑q, Value.tuple #[Value.pointer (some { block := w.heap.size, off := 0 }), Value.int IntKind.i64 0], Value.pointer (some { block := w.heap.size, off := 0 }), Value.int IntKind.i64 0, Value.tuple #[Value.pointer (some { block := gr, off := 0 }), Value.int IntKind.i64 0], Value.int IntKind.i64 ↑q, Value.tuple #[Value.pointer (some { block := gr, off := 0 }), Value.int IntKind.i64 0], Value.pointer (some { block := gr, off := 0 }), Value.int IntKind.i64 0, Value.int IntKind.i64 0, Value.int IntKind.i64 0, Value.bool false, Value.bool false, Value.pointer (some { block := w.heap.size, off := 0 }), Value.bool false, Value.pointer (some { block := gr, off := 0 }), Value.bool false, Value.bool false, Value.bool false, Value.bool false, Value.bool true, Value.bool false, Value.bool false, Value.int IntKind.i64 ↑i, Value.slice (some { block := b, off := off }) len cap, Value.int IntKind.i64 ↑len, Value.bool true, Value.bool true, Value.int IntKind.i64 ↑i, Value.bool true, Value.bool true, Value.bool true, Value.pointer (some { block := gr, off := 0 }), Value.bool true, Value.bool true, u59, u60, Value.slice (some { block := b, off := off }) len cap, Value.int IntKind.i64 ↑i, Value.pointer (some { block := b, off := off + i * 3 }), Value.agg A, Value.int IntKind.i64 ↑j, Value.pointer (some { block := ga, off := 2 }), Value.int IntKind.i64 tm, Value.int IntKind.i64 ↑tk, Value.bool false, u70, u71, u72, u73, u74, u75, u76, u77, u78, u79, u80, u81, u82, u83, u84, u85, u86, u87, u88, u89, u90, u91, u92, u93, u94, u95, u96, u97, u98, u99, u100, u101, u102, u103, u104, u105, u106, u107, u108, u109, u110, u111, u112, u113, u114, u115, u116, u117, u118, u119, u120, u121, u122, u123, u124, u125, u126, u127, u128, u129, u130, u131, u132, u133, u134, u135, u136, u137, u138, u139, u140, u141, u142, u143, u144, Value.tuple #[Value.int IntKind.i64 ↑cq, Value.int IntKind.i64 (↑q - ↑cq)], Value.pointer (some { block := gs, off := 0 }), Value.tuple #[Value.int IntKind.i64 ↑cq, Value.int IntKind.i64 (↑q - ↑cq)], Value.int IntKind.i64 ↑cq, Value.int IntKind.i64 (↑q - ↑cq), Value.int IntKind.i64 ↑q, Value.pointer (some { block := gr, off := 0 }), Value.pointer (some { block := gr, off := 0 }), Value.pointer (some { block := gr, off := 0 }), Value.slice (some { block := gi, off := 0 }) q q, Value.int IntKind.i64 ↑q, Value.bool false, u157, u158, u159, u160, u161, u162, u163, u164, u165, u166, u167, .int .i64 cq, .int .i64 cq, .bool false, .bool false, .int .i64 ((q : Int) - cq), .int .i64 q, .int .i64 cq, .int .i64 ((q : Int) - cq), .bool false, .bool false, .bool false, .pointer (some ⟨gs, 0, none⟩), .pointer (some ⟨ga, 1, none⟩), .int .i64 N, .bool false, .pointer (some ⟨ga, 1, none⟩), .int .i64 N, .bool true, .bool true, .pointer (some ⟨ga, 1, none⟩), .int .i64 N, .int .i64 q, .bool false, .bool false, .bool false, undef, undef, undef, undef, undef, undef, undef, undef, .bool false, .bool false, .bool false, .bool false, .pointer (some ⟨gs, 0, none⟩), .slice (some ⟨p1, 0, none⟩) 256 256, .string str, .pointer (some ⟨gr, 0, none⟩), .slice (some ⟨p2, 0, none⟩) 256 256, .string str, .bool false, .bool false], defers := [] } (by kernel_rfl) ?_
                      try simp only [Exit.then]
                      go_wp2
                      go_roundw
                      case rel => exact ⟨i + 1, gs, T, by omega, by go_num, rfl, hP8.set, hP8.ref, hP8.old, hP8.ge⟩
                      case measure => simp [intOf]; omega
                  · have HHAS : Hid (∀ wx, PK w q gr gi ga A gs T T wx → Calls Try.prog 21 #[.pointer (some ⟨gs, 0, none⟩), .int .i64 N] wx fun e w' => e = .returned (.bool false) ∧ Still wx w') := fun wx hx => by have h := HHA.out wx hx; rw [decide_eq_false (fun h => hN0 h.1), Bool.false_and] at h; exact h
                    clear HHA
                    go_wp2_with fail
                    refine wp_region_grow [(false, 0), (false, 1), (false, 2), (false, 3), (false, 4), (false, 5), (false, 6), (false, 7), (false, 8), (false, 9), (false, 10), (false, 11), (false, 12), (false, 13), (false, 15), (false, 16), (false, 17), (true, 14), (false, 18), (false, 19), (false, 20), (false, 21), (false, 22), (false, 23), (false, 24), (false, 25), (false, 26), (false, 27), (false, 28), (false, 29), (false, 30), (false, 31), (false, 32), (false, 33), (false, 34), (false, 35), (false, 36), (false, 37), (false, 40), (true, 38), (false, 39), (true, 41), (false, 42), (false, 43), (false, 44)] (PK w q gr gi ga A gs T T) (by kernel_rfl) (by kernel_rfl) hPd ?_
                    refine k_move (some 168) (.int .i64 cq) (.tmp 19) rfl rfl rfl (by kernel_rfl) (by kernel_rfl) ?_
                    refine k_move (some 169) (.int .i64 cq) (.tmp 21) rfl rfl rfl (by kernel_rfl) (by kernel_rfl) ?_
                    refine k_two (some 170) (.bool false) (.tmp 168) (.tmp 169) (.int .i64 cq) (.int .i64 cq) rfl rfl (by kernel_rfl) (by kernel_rfl) (by kernel_rfl) (fun ρ hc h1 h2 w hw => ?_) ?_
                    · go_simp
                    refine k_move (some 171) (.bool false) (.tmp 170) rfl rfl rfl (by kernel_rfl) (by kernel_rfl) ?_
                    refine k_move (some 172) (.int .i64 ((q : Int) - cq)) (.tmp 20) rfl rfl rfl (by kernel_rfl) (by kernel_rfl) ?_
                    refine k_move (some 173) (.int .i64 q) (.tmp 0) rfl rfl rfl (by kernel_rfl) (by kernel_rfl) ?_
                    refine k_move (some 174) (.int .i64 cq) (.tmp 21) rfl rfl rfl (by kernel_rfl) (by kernel_rfl) ?_
                    refine k_two (some 175) (.int .i64 ((q : Int) - cq)) (.tmp 173) (.tmp 174) (.int .i64 q) (.int .i64 cq) rfl rfl (by kernel_rfl) (by kernel_rfl) (by kernel_rfl) (fun ρ hc h1 h2 w hw => ?_) ?_
                    · go_simp
                    refine k_two (some 176) (.bool false) (.tmp 172) (.tmp 175) (.int .i64 ((q : Int) - cq)) (.int .i64 ((q : Int) - cq)) rfl rfl (by kernel_rfl) (by kernel_rfl) (by kernel_rfl) (fun ρ hc h1 h2 w hw => ?_) ?_
                    · go_simp
                    refine k_two (some 177) (.bool false) (.tmp 171) (.tmp 176) (.bool false) (.bool false) rfl rfl (by kernel_rfl) (by kernel_rfl) (by kernel_rfl) (fun ρ hc h1 h2 w hw => ?_) ?_
                    · go_simp
                    refine k_move (some 178) (.bool false) (.tmp 177) rfl rfl rfl (by kernel_rfl) (by kernel_rfl) ?_
                    refine k_move (some 179) (.pointer (some ⟨gs, 0, none⟩)) (.tmp 5) rfl rfl rfl (by kernel_rfl) (by kernel_rfl) ?_
                    refine k_one (some 180) (.pointer (some ⟨ga, 1, none⟩)) (.tmp 10) (.pointer (some ⟨ga, 0, none⟩)) rfl rfl (by kernel_rfl) (by kernel_rfl) (fun ρ hc h1 w hw => ?_) ?_
                    · go_simp
                    refine k_one (some 181) (.int .i64 N) (.tmp 180) (.pointer (some ⟨ga, 1, none⟩)) rfl rfl (by kernel_rfl) (by kernel_rfl) (fun ρ hc h1 w hw => ?_) ?_
                    · have hcc := (hw.act.cell 1).trans a1; go_simp
                    refine k_one (some 183) (.pointer (some ⟨ga, 1, none⟩)) (.tmp 10) (.pointer (some ⟨ga, 0, none⟩)) rfl rfl (by kernel_rfl) (by kernel_rfl) (fun ρ hc h1 w hw => ?_) ?_
                    · go_simp
                    refine k_one (some 184) (.int .i64 N) (.tmp 183) (.pointer (some ⟨ga, 1, none⟩)) rfl rfl (by kernel_rfl) (by kernel_rfl) (fun ρ hc h1 w hw => ?_) ?_
                    · have hcc := (hw.act.cell 1).trans a1; go_simp
                    refine k_one (some 185) (.bool false) (.tmp 184) (.int .i64 N) rfl rfl (by kernel_rfl) (by kernel_rfl) (fun ρ hc h1 w hw => ?_) ?_
                    · go_simp
                    refine k_call2 (some 182) 21 (.tmp 179) (.tmp 181) (.pointer (some ⟨gs, 0, none⟩)) (.int .i64 N) rfl rfl (by kernel_rfl) (by kernel_rfl) (by kernel_rfl) (fun ρ hf h1 h2 => by go_simp) ((HHAS.out _ hPd).mono fun e w6 ⟨he, hst⟩ => ⟨_, he, PK w q gr gi ga A gs T T, fun _ h => h, hPd.still hst, ?_⟩)
                    have hP6 := hPd.still hst
                    refine k_move (some 186) (.bool false) (.tmp 185) rfl rfl rfl (by kernel_rfl) (by kernel_rfl) ?_
                    refine g_skip (some 187) rfl rfl (by kernel_rfl) ?_
                    refine g_skip (some 188) rfl rfl (by kernel_rfl) ?_
                    refine g_skip (some 189) rfl rfl (by kernel_rfl) ?_
                    refine g_skip (some 190) rfl rfl (by kernel_rfl) ?_
                    refine k_one (some 191) (.bool false) (.tmp 186) (.bool false) rfl rfl (by kernel_rfl) (by kernel_rfl) (fun ρ hc h1 w hw => ?_) ?_
                    · go_simp
                    refine k_move (some 192) (.bool false) (.tmp 191) rfl rfl rfl (by kernel_rfl) (by kernel_rfl) ?_
                    refine g_skip (some 193) rfl rfl (by kernel_rfl) ?_
                    refine g_skip (some 194) rfl rfl (by kernel_rfl) ?_
                    refine g_skip (some 195) rfl rfl (by kernel_rfl) ?_
                    refine g_skip (some 196) rfl rfl (by kernel_rfl) ?_
                    refine g_skip (some 197) rfl rfl (by kernel_rfl) ?_
                    refine g_skip (some 198) rfl rfl (by kernel_rfl) ?_
                    refine g_skip (some 199) rfl rfl (by kernel_rfl) ?_
                    refine g_skip (some 200) rfl rfl (by kernel_rfl) ?_
                    refine k_one (some 201) (.bool false) (.tmp 192) (.bool false) rfl rfl (by kernel_rfl) (by kernel_rfl) (fun ρ hc h1 w hw => ?_) ?_
                    · go_simp
                    refine k_two (some 202) (.bool false) (.tmp 182) (.tmp 201) (.bool false) (.bool false) rfl rfl (by kernel_rfl) (by kernel_rfl) (by kernel_rfl) (fun ρ hc h1 h2 w hw => ?_) ?_
                    · go_simp
                    refine k_two (some 203) (.bool false) (.tmp 178) (.tmp 202) (.bool false) (.bool false) rfl rfl (by kernel_rfl) (by kernel_rfl) (by kernel_rfl) (fun ρ hc h1 h2 w hw => ?_) ?_
                    · go_simp
                    refine k_move (some 204) (.bool false) (.tmp 203) rfl rfl rfl (by kernel_rfl) (by kernel_rfl) ?_
                    refine k_move (some 205) (.pointer (some ⟨gs, 0, none⟩)) (.tmp 5) rfl rfl rfl (by kernel_rfl) (by kernel_rfl) ?_
                    refine k_move (some 208) (.pointer (some ⟨gr, 0, none⟩)) (.tmp 7) rfl rfl rfl (by kernel_rfl) (by kernel_rfl) ?_
                    refine k_call1 (some 206) 19 (.tmp 205) (.pointer (some ⟨gs, 0, none⟩)) rfl rfl (by kernel_rfl) (by kernel_rfl) (fun ρ hf h1 => by go_simp) ((HBY.out _ hP6.set).mono fun e w7 ⟨p1, he, hr7, hb7⟩ => ⟨_, he, fun wx => PK w q gr gi ga A gs T T wx ∧ Row wx p1 BA 5, fun _ h => h.1, ⟨hP6.below hb7, hr7⟩, ?_⟩)
                    have hP7 := hP6.below hb7
                    refine k_convert (some 207) 42 9 (.tmp 206) (.string str) (.slice (some ⟨p1, 0, none⟩) 256 256) rfl rfl rfl (by kernel_rfl) (by kernel_rfl) (fun wx hx => HS1.out wx p1 hx.2) ?_
                    refine k_call1 (some 209) 22 (.tmp 208) (.pointer (some ⟨gr, 0, none⟩)) rfl rfl (by kernel_rfl) (by kernel_rfl) (fun ρ hf h1 => by go_simp) ((HRB.out _ hP7.ref).mono fun e w8 ⟨p2, he, hr8, hb8⟩ => ⟨_, he, fun wx => (PK w q gr gi ga A gs T T wx ∧ Row wx p1 BA 5) ∧ Row wx p2 BA 5, fun _ h => h.1, ⟨⟨hP7.below hb8, hr7.below hb8 hr7.lt⟩, hr8⟩, ?_⟩)
                    have hP8 := hP7.below hb8
                    refine k_convert (some 210) 42 9 (.tmp 209) (.string str) (.slice (some ⟨p2, 0, none⟩) 256 256) rfl rfl rfl (by kernel_rfl) (by kernel_rfl) (fun wx hx => HS1.out wx p2 hx.2) ?_
                    refine k_two (some 211) (.bool false) (.tmp 207) (.tmp 210) (.string str) (.string str) rfl rfl (by kernel_rfl) (by kernel_rfl) (by kernel_rfl) (fun ρ hc h1 h2 w hw => ?_) ?_
                    · go_simp
                    refine k_two (some 212) (.bool false) (.tmp 204) (.tmp 211) (.bool false) (.bool false) rfl rfl (by kernel_rfl) (by kernel_rfl) (by kernel_rfl) (fun ρ hc h1 h2 w hw => ?_) ?_
                    · go_simp
                    refine k_done { tmps := #[Value.int IntKind.i64 ↑q, Value.slice (some { block := b, off := off }) len cap, undef, undef, u4, Value.pointer (some { block := gs, off := 0 }), Value.int IntKind.i64 0, Value.pointer (some { block := gr, off := 0 }), Value.int IntKind.i64 0, Value.int IntKind.i64 ↑i, Value.pointer (some { block := ga, off := 0 }), Value.int IntKind.i64 ↑j, u12, u13, u14, u15, u16, u17, u18, Value.int IntKind.i64 ↑cq, Value.int IntKind.i64 (↑q - ↑cq), Value.int IntKind.i64 ↑cq, Value.int IntKind.i64 ↑q, Value.tuple #[Value.pointer (some { block := w.heap.size, off := 0 }), Value.int IntKind.i64 0], Value.int IntKind.i64 ↑q, Value.tuple #[Value.pointer (some { block := w.heap.size, off := 0 }), Value.int IntKind.i64 0], Value.pointer (some { block := w.heap.size, off := 0 }), Value.int IntKind.i64 0, Value.tuple #[Value.pointer (some { block := gr, off := 0 }), Value.int IntKind.i64 0], Value.int IntKind.i64 ↑q, Value.tuple #[Value.pointer (some { block := gr, off := 0 }), Value.int IntKind.i64 0], Value.pointer (some { block := gr, off := 0 }), Value.int IntKind.i64 0, Value.int IntKind.i64 0, Value.int IntKind.i64 0, Value.bool false, Value.bool false, Value.pointer (some { block := w.heap.size, off := 0 }), Value.bool false, Value.pointer (some { block := gr, off := 0 }), Value.bool false, Value.bool false, Value.bool false, Value.bool false, Value.bool true, Value.bool false, Value.bool false, Value.int IntKind.i64 ↑i, Value.slice (some { block := b, off := off }) len cap, Value.int IntKind.i64 ↑len, Value.bool true, Value.bool true, Value.int IntKind.i64 ↑i, Value.bool true, Value.bool true, Value.bool true, Value.pointer (some { block := gr, off := 0 }), Value.bool true, Value.bool true, u59, u60, Value.slice (some { block := b, off := off }) len cap, Value.int IntKind.i64 ↑i, Value.pointer (some { block := b, off := off + i * 3 }), Value.agg A, Value.int IntKind.i64 ↑j, Value.pointer (some { block := ga, off := 2 }), Value.int IntKind.i64 tm, Value.int IntKind.i64 ↑tk, Value.bool false, u70, u71, u72, u73, u74, u75, u76, u77, u78, u79, u80, u81, u82, u83, u84, u85, u86, u87, u88, u89, u90, u91, u92, u93, u94, u95, u96, u97, u98, u99, u100, u101, u102, u103, u104, u105, u106, u107, u108, u109, u110, u111, u112, u113, u114, u115, u116, u117, u118, u119, u120, u121, u122, u123, u124, u125, u126, u127, u128, u129, u130, u131, u132, u133, u134, u135, u136, u137, u138, u139, u140, u141, u142, u143, u144, Value.tuple #[Value.int IntKind.i64 ↑cq, Value.int IntKind.i64 (↑q - ↑cq)], Value.pointer (some { block := gs, off := 0 }), Value.tuple #[Value.int IntKind.i64 ↑cq, Value.int IntKind.i64 (↑q - ↑cq)], Value.int IntKind.i64 ↑cq, Value.int IntKind.i64 (↑q - ↑cq), Value.int IntKind.i64 ↑q, Value.pointer (some { block := gr, off := 0 }), Value.pointer (some { block := gr, off := 0 }), Value.pointer (some { block := gr, off := 0 }), Value.slice (some { block := gi, off := 0 }) q q, Value.int IntKind.i64 ↑q, Value.bool false, u157, u158, u159, u160, u161, u162, u163, u164, u165, u166, u167, .int .i64 cq, .int .i64 cq, .bool false, .bool false, .int .i64 ((q : Int) - cq), .int .i64 q, .int .i64 cq, .int .i64 ((q : Int) - cq), .bool false, .bool false, .bool false, .pointer (some ⟨gs, 0, none⟩), .pointer (some ⟨ga, 1, none⟩), .int .i64 N, .bool false, .pointer (some ⟨ga, 1, none⟩), .int .i64 N, .bool false, .bool false, undef, undef, undef, undef, .bool false, .bool false, undef, undef, undef, undef, undef, undef, undef, undef, .bool false, .bool false, .bool false, .bool false, .pointer (some ⟨gs, 0, none⟩), .slice (some ⟨p1, 0, none⟩) 256 256, .string str, .pointer (some ⟨gr, 0, none⟩), .slice (some ⟨p2, 0, none⟩) 256 256, .string str, .bool false, .bool false], defers := [] } (by kernel_rfl) ?_
                    try simp only [Exit.then]
                    go_wp2
                    go_roundw
                    case rel => exact ⟨i + 1, gs, T, by omega, by go_num, rfl, hP8.set, hP8.ref, hP8.old, hP8.ge⟩
                    case measure => simp [intOf]; omega
        · have hl3' : ¬ (i : Int) < 300 := by omega
          go_wp2
          go_ret
          exact ⟨rfl, HOLD.out⟩
      · have hl' : ¬ (i : Int) < len := by omega
        go_wp2
        go_ret
        exact ⟨rfl, HOLD.out⟩
end Go.Proofs.Ythjmmlgcaigdfaa
