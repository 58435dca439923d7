/- The walk of the law BlockPlays. -/
import Derived.Test.YtpdcmhfmicemnaaPlaysKit2
namespace Go.Proofs.Ytpdcmhfmicemnaa
open Go.RowKit

/-- What holds between two acts. -/
structure Pl (w0 : World) (dv rv : Value) (i : Nat) (w : World) : Prop where
  ex : ∃ g g1 c1 g2 c2 ev D gr fv lv R Fl, dv = .pointer (some ⟨g, 0, none⟩) ∧ rv = .pointer (some ⟨gr, 0, none⟩) ∧ Two w w0.heap.size g g1 c1 g2 c2 ev D gr fv lv R ∧ Twin D R ∧ Hist D Fl ∧ D.E.length ≤ i
  old : Below w0.heap.size w0 w

theorem Pl.below {w0 : World} {dv rv : Value} {i : Nat} {w w' : World} (h : Pl w0 dv rv i w) (hb : Below w.heap.size w w') : Pl w0 dv rv i w' := by
  obtain ⟨⟨g, g1, c1, g2, c2, ev, D, gr, fv, lv, R, Fl, h1, h2, h3, h4⟩, h5⟩ := h
  exact ⟨⟨g, g1, c1, g2, c2, ev, D, gr, fv, lv, R, Fl, h1, h2, h3.below hb, h4⟩, h5.trans (hb.mono h5.size)⟩
theorem Pl.same {w0 : World} {dv rv : Value} {i : Nat} {w : World} (h : Pl w0 dv rv i w) (hi : i ≤ 1000) : Calls Try.prog 17 #[dv, rv] w fun e w' => e = .returned (.bool true) ∧ Hid (Pl w0 dv rv i w') := by
  have h' := h
  obtain ⟨⟨g, g1, c1, g2, c2, ev, D, gr, fv, lv, R, Fl, rfl, rfl, h3, h4, _, h6⟩, h5⟩ := h'
  refine (same_ok h3 h4 (by omega)).mono ?_
  rintro e w' ⟨rfl, hb⟩
  exact ⟨rfl, h.below hb⟩

set_option maxRecDepth 20000 in
set_option maxHeartbeats 8000000 in
theorem law_plays (s : Int) (a : Option Addr) (b off len cap : Nat) (X : Nat → ActD) (w : World) (hA : Acts w a b off len X) (hcap : len ≤ cap) (hcap2 : cap ≤ maxLen) :
    Calls Try.prog 3 #[.int .i64 s, .slice a len cap] w fun e w' => e = .returned (.bool true) ∧ Below w.heap.size w w' := by
  have HA : Hid _ := hA
  unfold maxLen at hcap2
  clear hA
  by_cases hs : s < 1 ∨ 2048 < s
  · have HN := new_bad s w hs
    have HR := refNew_bad s w hs
    have HNM := names_ok w
    go_enter Try.func3, Try.ntmps3
    go_wp2_with fail
    refine HN.mono ?_
    rintro e w' ⟨rfl, hw'⟩
    subst w'
    go_wp2_with fail
    refine HR.mono ?_
    rintro e w' ⟨rfl, hw'⟩
    subst w'
    go_wp2_with fail
    refine HNM.mono ?_
    rintro e w' ⟨rfl, hw'⟩
    subst w'
    clear HN HR HNM
    go_upto_if 45 with fail
    go_cut [1] (fun s1 wx => ∃ m : Nat, m ≤ 60 ∧ s1 = .slice a m cap ∧ wx = w)
    case first =>
      by_cases hl : 60 < len
      · obtain rfl := HA.out.at' (by omega)
        go_wp2
        go_meet
        exact ⟨60, by omega, rfl, rfl⟩
      · go_wp2
        go_meet
        exact ⟨len, by omega, rfl, rfl⟩
    case rest =>
      obtain ⟨m, hm, rfl, hwc⟩ := hcut
      subst wc
      go_wp2
      go_loopw [7, 9] (fun rv iv wq => rv = .pointer none ∧ iv = .int .i64 0 ∧ wq = w) (fun _ _ _ => 0)
      case atStart => exact ⟨rfl, rfl, rfl⟩
      case round =>
        obtain ⟨rfl, rfl, rfl⟩ := hrel
        by_cases hm0 : 0 < m
        · go_wp2
          go_ret
          exact ⟨rfl, Below.refl _ _⟩
        · go_wp2
          go_ret
          exact ⟨rfl, Below.refl _ _⟩
  · obtain ⟨n, rfl⟩ : ∃ n : Nat, s = n := ⟨s.toNat, by omega⟩
    have HN := new_ok n w (by omega) (by omega)
    go_enter Try.func3, Try.ntmps3
    go_wp2_with fail
    refine HN.mono ?_
    rintro e w1 ⟨g, g1, c1, g2, c2, rfl, hD, hb1⟩
    have hs1 := hb1.size
    have HD : Hid _ := hD
    have HR := refNew_ok n w1 (by omega) (by omega)
    have HHR : Hid _ := HR
    clear hD HN HR
    go_wp2_with fail
    refine Calls.mono HHR.out ?_
    rintro e w2 ⟨gr, fv, rfl, hR, hb2⟩
    have hb2' : Below w.heap.size w w2 := hb1.trans (hb2.mono hs1)
    have HP : Hid (Pl w (.pointer (some ⟨g, 0, none⟩)) (.pointer (some ⟨gr, 0, none⟩)) 0 w2) := ⟨⟨g, g1, c1, g2, c2, _, _, gr, fv, _, _, _, rfl, rfl, ⟨HD.out.below hb2 (Nat.le_refl _), hR.base hs1⟩, twin_new n, hist_fresh n _, Nat.le_refl _⟩, hb2'⟩
    have HNM := names_ok w2
    clear hR hb2 hb2' HD HHR
    go_wp2_with fail
    refine HNM.mono ?_
    rintro e w' ⟨rfl, hw'⟩
    subst w'
    clear HNM
    go_upto_if 45 with fail
    go_cut [1] (fun s1 wx => ∃ m : Nat, m ≤ 60 ∧ s1 = .slice a m cap ∧ Hid (Acts w a b off m X) ∧ wx = w2)
    case first =>
      by_cases hl : 60 < len
      · obtain rfl := HA.out.at' (by omega)
        go_wp2
        go_meet
        exact ⟨60, by omega, rfl, ⟨fun _ => rfl, fun i hi => HA.out.cell i (by omega), fun i hi => HA.out.is i (by omega)⟩, rfl⟩
      · go_wp2
        go_meet
        exact ⟨len, by omega, rfl, HA.out, rfl⟩
    case rest =>
      obtain ⟨m, hm, rfl, HAm, hwc⟩ := hcut
      subst wc
      clear HA hcap
      go_wp2
      go_loopw [5, 7, 9] (fun dv rv iv wq => ∃ i : Nat, i ≤ m ∧ iv = .int .i64 i ∧ Hid (Pl w dv rv i wq)) (fun _ _ iv _ => m - (intOf iv).toNat)
      case atStart => exact ⟨0, Nat.zero_le _, rfl, HP⟩
      case round =>
        obtain ⟨i, hi, rfl, hP⟩ := hrel
        obtain ⟨⟨g, g1, c1, g2, c2, ev, D, gr, fv, lv, R, Fl, rfl, rfl, hT, hTw, hH, hE⟩, hold⟩ := hP.out
        by_cases hlt : i < m
        · obtain rfl := HAm.out.at' (by omega)
          have hsq := hold.size
          have hAq := HAm.out.belowAll hold
          have HRG : Hid _ := hAq.range i hlt
          have HIN : Hid _ := HAm.out.is i hlt
          have hA6 := info34c (X i)
          have hA6a := info34a (X i)
          have hAo := (X i).cells_one
          have hAs : (X i).cells.size = 6 := rfl
          have a0 : (X i).cells[0]? = some (.int .i64 (X i).kind) := rfl
          have hkd := HIN.out.kind
          have hRA : Row (wr.alloc (.cells (X i).cells 34)) wr.heap.size (X i).cells 34 := Row.new wr _ 34
          have hbW : Below wr.heap.size wr (wr.alloc (.cells (X i).cells 34)) := (Below.refl _ _).alloc (Nat.le_refl _) _
          have hT1 := hT.below hbW
          have hold1 := hold.trans (hbW.mono hsq)
          have c0 := (hRA.cell 0).trans a0
          generalize hAA : (X i).cells = A at *
          have HAA : Hid _ := hAA
          have HT1 : Hid _ := hT1
          have HRA : Hid _ := hRA
          clear hAA hT hT1 hRA hbW hAq hP
          go_upto_if 64 with (first
            | (refine wpList_load_mid rfl 34 _ rfl b (off + i * 6) rfl A.toList _ HRG.out Try.underlying34 rfl hA6 ?_; simp only [Array.toArray_toList])
            | refine wpList_store_new rfl 34 _ _ rfl wr _ A 34 rfl wr.heap.size rfl rfl rfl hA6a hAs.symm hAo ?_)
          by_cases hk0 : (X i).kind = 0
          · skip
            have HSC := sector_any (X i).kind (X i).n (X i).a (X i).b (X i).off (X i).len (X i).cap (X i).f (X i).fill (X i).odd (X i).ka (X i).klen (X i).kcap (wr.alloc (.cells A 34)) HIN.out.len ((HIN.out.below hold1).bytes) HIN.out.nil
            rw [show actV (X i).kind (X i).n (X i).a (X i).len (X i).cap (X i).fill (X i).odd (X i).ka (X i).klen (X i).kcap = A from HAA.out] at HSC
            have HHS : Hid _ := HSC
            have a1 : A[1]? = some (.int .i64 (X i).n) := by rw [← show (X i).cells = A from HAA.out]; rfl
            have hfb := secOf_bd (X i).len (X i).f (X i).fill HIN.out.bytes.bd HIN.out.fill
            obtain ⟨lb, hlb⟩ : ∃ lb, (if (X i).odd = true then (X i).len else 256) = lb := ⟨_, rfl⟩
            have hlb2 : lb ≤ 140737488351232 := by rw [← hlb]; have := HIN.out.len; split <;> omega
            obtain ⟨FS, hFS⟩ : ∃ F, secOf (X i).len (X i).f (X i).fill = F := ⟨_, rfl⟩
            rw [hFS] at hfb
            clear HSC
            go_wp2_with (first
              | refine wpList_load_row rfl 34 _ rfl wr.heap.size rfl 34 A (0, 0) _ HRA.out Try.underlying34 rfl hA6a ?_)
            refine Calls.mono HHS.out ?_
            rintro e w3 ⟨gb, cb, rfl, hc1, hc2, hgb, ⟨curb, hrb⟩, hcb, hb3⟩
            rw [hlb] at hc1 hcb
            simp only [hlb]
            rw [hFS] at hcb
            clear hlb hFS HHS
            have hT3 := HT1.out.below hb3
            have hRA3 : Row w3 wr.heap.size A 34 := Row.below HRA.out hb3 (Row.lt HRA.out)
            have hold3 := hold1.trans (hb3.mono hold1.size)
            have hBs : Bs (w3.alloc (.cells #[] 5)) (some ⟨gb, 0, none⟩) gb 0 lb FS := Bs.belowAll ⟨fun _ => rfl, fun j hj => by rw [Nat.zero_add]; exact hcb j hj, hfb⟩ ((Below.refl _ _).alloc (Nat.le_refl _) _)
            have HBs : Hid _ := hBs
            clear hBs
            go_wp2_with (at_builtin; refine wpList_append_bytes rfl (.tmp 68) (.tmp 69) rfl w3.heap.size _ 0 [] rfl (own_empty w3 5) _ gb 0 lb cb FS rfl HBs.out (fun h => nomatch h) (by omega) (by simp) ?_)
            intro v1 w4 own1 grow1 ne1
            have hb4 : Below w3.heap.size w3 w4 := own_grown (own_empty w3 5) ((Below.refl _ _).alloc (Nat.le_refl _) _) (by simp) grow1
            have own1 : w4.ownsRow w3.heap.size 5 1 v1 lb (byts FS lb) := by simpa using own1
            obtain ⟨gi, ci, curi, rfl, hgi3, hri4, hci1, hci2, hcs, hct⟩ : ∃ gi ci curi, v1 = .slice (some ⟨gi, 0, none⟩) lb ci ∧ w3.heap.size ≤ gi ∧ Row w4 gi curi 5 ∧ lb ≤ ci ∧ ci ≤ maxLen ∧ lb ≤ curi.size ∧ curi.toList.take lb = byts FS lb := by
              obtain ⟨_, ⟨h1, _⟩ | ⟨g', c', cur, h1, h2, e3, e4, e5, e6, e7⟩⟩ := own1
              · exact absurd h1 ne1
              · exact ⟨g', c', cur, h1, h2, e3, e4, e5, by omega, by simpa using e7⟩
            obtain ⟨hany0, hcells⟩ := take_any curi FS lb hcs hct
            have hany : Hid _ := hany0
            have hT4 := (hT3.below hb4).below (Below.refl _ _).drew
            have HT4 : Hid _ := hT4
            have hRA4 : Row w4.drew wr.heap.size A 34 := hRA3.below hb4.drew hRA3.lt
            have hrb4 : Row w4.drew gb curb 5 := hrb.below hb4.drew hrb.lt
            have hold4 : Below w.heap.size w w4.drew := (hold3.trans (hb4.mono hold3.size)).drew
            have hgi2 : gi ≠ g2 := by have := hT3.d.lt2; omega
            have hgi1 : g1 ≠ gi := by have := hT3.d.lt1; omega
            have hgb2 : gb ≠ g2 := by have := HT1.out.d.lt2; omega
            have hgiw : w.heap.size ≤ gi := by have := hold3.size; omega
            have hri4 : Row w4.drew gi curi 5 := hri4
            clear own1 grow1 ne1 hany0 hT4 hT3 hRA3 HBs HT1 HRA hcs hct hb4
            unfold maxLen at hc2 hci2
            by_cases hv : (0 ≤ (X i).n ∧ (X i).n < D.s) ∧ lb = 256
            · obtain ⟨⟨hn0, hns⟩, rfl⟩ := hv
              obtain ⟨k, hk⟩ : ∃ k : Nat, (X i).n = k := ⟨(X i).n.toNat, by omega⟩
              have hks : k < D.s := by omega
              rw [hk] at a1
              have HW := write_ok HT4.out.d hold4.size (by omega) k hks gi 0 ci FS curi hri4 hgi2 (fun j hj => by rw [Nat.zero_add]; exact hcells j hj) hfb
              have HHW : Hid _ := HW
              clear HW
              go_wp2_with fail
              refine wp_region_permA [(false, 0), (false, 1), (false, 2), (false, 3), (false, 5), (false, 6), (false, 7), (false, 8), (true, 4), (true, 9), (false, 10)] (fun wx => Row wx wr.heap.size A 34) (by kernel_rfl) (by kernel_rfl) hRA4 ?_
              refine a_move (some 71) _ rfl rfl rfl (by rfl) ?_
              simp only [Act.put, List.setIfInBounds_toArray, List.set_cons_zero, List.set_cons_succ]
              refine a_value (some 72) ?_ rfl rfl (by rfl) (fun w hw => ?_) ?_
              rotate_left
              · go_simp
                with_reducible rfl
              simp only [Act.put, List.setIfInBounds_toArray, List.set_cons_zero, List.set_cons_succ]
              refine a_value (some 73) ?_ rfl rfl (by rfl) (fun w hw => ?_) ?_
              rotate_left
              · have hc := (hw.cell 1).trans a1
                go_simp
                with_reducible rfl
              simp only [Act.put, List.setIfInBounds_toArray, List.set_cons_zero, List.set_cons_succ]
              refine a_move (some 74) _ rfl rfl rfl (by rfl) ?_
              simp only [Act.put, List.setIfInBounds_toArray, List.set_cons_zero, List.set_cons_succ]
              refine a_move (some 76) _ rfl rfl rfl (by rfl) ?_
              simp only [Act.put, List.setIfInBounds_toArray, List.set_cons_zero, List.set_cons_succ]
              refine a_value (some 77) ?_ rfl rfl (by rfl) (fun w hw => ?_) ?_
              rotate_left
              · go_simp
                with_reducible rfl
              simp only [Act.put, List.setIfInBounds_toArray, List.set_cons_zero, List.set_cons_succ]
              refine a_value (some 78) ?_ rfl rfl (by rfl) (fun w hw => ?_) ?_
              rotate_left
              · have hc := (hw.cell 1).trans a1
                go_simp
                with_reducible rfl
              simp only [Act.put, List.setIfInBounds_toArray, List.set_cons_zero, List.set_cons_succ]
              refine a_move (some 79) _ rfl rfl rfl (by rfl) ?_
              simp only [Act.put, List.setIfInBounds_toArray, List.set_cons_zero, List.set_cons_succ]
              refine a_call (some 75) rfl rfl (by rfl) 11 #[.pointer (some ⟨g, 0, none⟩), .int .i64 k, .slice (some ⟨gi, 0, none⟩) 256 ci] (by go_simp) (Calls.mono HHW.out fun r w5 ⟨he, ev', hD5, hc5⟩ => ⟨_, he, Row.chg hRA4 HT4.out.d hc5 (by decide) (by decide) (fun h => absurd h (by decide)), ?_⟩)
              have hR5 := HT4.out.r.chg HT4.out.d hc5
              have hb5 : Below w.heap.size w w5 := hold4.trans (HT4.out.d.chg hc5 hold4.size)
              have hrb5 : Row w5 gb curb 5 := Row.chg hrb4 HT4.out.d hc5 (by decide) (by decide) (fun _ => hgb2)
              have hri5 : Row w5 gi curi 5 := Row.chg hri4 HT4.out.d hc5 (by decide) (by decide) (fun _ => hgi2)
              have hRA5 : Row w5 wr.heap.size A 34 := Row.chg hRA4 HT4.out.d hc5 (by decide) (by decide) (fun h => absurd h (by decide))
              have HRW := refWrite_ok hR5 hb5.size (by rw [hTw.llen]; omega) k (by rw [hTw.len]; exact hks) gb 0 cb FS curb hrb5 (fun j hj => by rw [Nat.zero_add, ← hrb5.cell j, hrb5.cell j, ← hrb.cell j]; exact hcb j hj)
              have HD5 : Hid _ := hD5
              have HR5 : Hid _ := hR5
              clear hD5 hc5
              simp only [Act.put, List.setIfInBounds_toArray, List.set_cons_zero, List.set_cons_succ]
              refine a_call (some 80) rfl rfl (by rfl) 12 #[.pointer (some ⟨gr, 0, none⟩), .int .i64 k, .slice (some ⟨gb, 0, none⟩) 256 cb] (by go_simp) (HRW.mono fun r w6 ⟨he, lv', hR6, hc6⟩ => ⟨_, he, (hRA5.chgR HR5.out hc6 (by decide) (by decide)).trans hRA5, ?_⟩)
              have hD6 := HD5.out.chgR HR5.out hc6
              have hri6 : Row w6 gi curi 5 := (hri5.chgR HR5.out hc6 (by decide) (by decide)).trans hri5
              have hT6 : Two w6 w.heap.size g g1 c1 g2 c2 ev' (D.write k FS) gr fv lv' { R with L := R.L ++ [⟨k, sStr FS⟩] } := ⟨hD6, hR6⟩
              have hb6 : Below w.heap.size w w6 := hb5.trans (HR5.out.to_below hc6 hb5.size)
              have HTw6 : Hid _ := hTw.write Fl hH k FS
              have HH6 : Hid _ := hH.write k FS
              have hE6 : (D.write k FS).E.length ≤ i + 1 := by show (D.E ++ [_]).length ≤ i + 1; rw [List.length_append]; show D.E.length + 1 ≤ i + 1; omega
              clear HRW hR6 hD6 hc6 HD5 HR5 hrb5 hRA5 hri5 hR5 HHW HT4 hRA4 hri4 hrb4
              generalize D.write k FS = D6 at *
              generalize ({ R with L := R.L ++ [⟨k, sStr FS⟩] } : Rk) = R6 at *
              simp only [Act.put, List.setIfInBounds_toArray, List.set_cons_zero, List.set_cons_succ]
              refine a_value (some 81) ?_ rfl rfl (by rfl) (fun w hw => ?_) ?_
              rotate_left
              · go_simp
                with_reducible rfl
              simp only [Act.put, List.setIfInBounds_toArray, List.set_cons_zero, List.set_cons_succ]
              refine a_done ?_
              try simp only [Exit.then]
              have HT6 : Hid _ := hT6
              have HB6 : Hid _ := hb6
              clear hT6 hb6
              go_wp2
              go_loopw [13] (fun kv wx => ∃ (q : Nat) (C : Array Value), q ≤ 256 ∧ kv = .int .i64 q ∧ Hid (Row wx gi C 5) ∧ Hid (anyBytes C 256) ∧ Hid (∀ x, x ≠ gi → wx.heap[x]? = w6.heap[x]?) ∧ Hid (Below w.heap.size w wx)) (fun kv _ => 256 - (intOf kv).toNat)
              case atStart => exact ⟨0, curi, by omega, rfl, hri6, hany, (fun _ _ => rfl), HB6⟩
              case round =>
                obtain ⟨q, C, hq, rfl, hRq, hAn, hKq, hBq⟩ := hrel
                skip
                by_cases hql : q < 256
                · obtain ⟨z, hz⟩ := hAn.out.2 q hql
                  have cq := (Row.cell hRq.out q).trans hz
                  have fq := Row.frozen hRq.out q
                  have hR' : ∀ z, Hid (Row (wr.setCell ⟨gi, q, none⟩ (.int .u8 z)) gi (C.setIfInBounds q (.int .u8 z)) 5) := fun z => Row.setCell hRq.out _
                  have hK' : ∀ z : Int, Hid (∀ x, x ≠ gi → (wr.setCell ⟨gi, q, none⟩ (.int .u8 z)).heap[x]? = w6.heap[x]?) := fun z x hx => (Below.heap_setCell _ _ _ _ hx).trans (hKq.out x hx)
                  have hB' : ∀ z : Int, Hid (Below w.heap.size w (wr.setCell ⟨gi, q, none⟩ (.int .u8 z))) := fun z => Below.setCell hBq.out (p := ⟨gi, q, none⟩) hgiw _
                  have HR' : Hid _ := hR'
                  have HK' : Hid _ := hK'
                  have HB' : Hid _ := hB'
                  clear hR' hK' hB'
                  have hqI : (q : Int) < 256 := by omega
                  go_wp2
                  go_roundw
                  case rel => exact ⟨q + 1, _, by omega, by go_num, HR'.out _, hAn.out.set q _, HK'.out _, HB'.out _⟩
                  case measure => simp [intOf]; omega
                · have hP5 : Hid (Pl w (.pointer (some ⟨g, 0, none⟩)) (.pointer (some ⟨gr, 0, none⟩)) (i + 1) wr) := ⟨⟨g, g1, c1, g2, c2, ev', D6, gr, fv, lv', R6, Fl, rfl, rfl, HT6.out.apart gi curi hri6 hgi1 (Ne.symm hgi2) hKq.out, HTw6.out, HH6.out, hE6⟩, hBq.out⟩
                  clear HT6 HTw6 HH6 hKq hBq hRq
                  have HS := hP5.out.same (by omega)
                  have HHS : Hid _ := HS
                  clear HS
                  go_wp2_with fail
                  refine Calls.mono HHS.out ?_
                  rintro e w9 ⟨rfl, HP9⟩
                  clear HHS hP5
                  go_wp2
                  go_roundw
                  case rel => exact ⟨i + 1, by omega, by go_num, HP9⟩
                  case measure => simp [intOf]; omega
            · have HW := write_bad HT4.out.d (X i).n (some ⟨gi, 0, none⟩) lb ci (by exact (Classical.em (0 ≤ (X i).n ∧ (X i).n < D.s)).elim (fun h => .inr (fun e => hv ⟨h, e⟩)) .inl)
              have HRW := refWrite_bad HT4.out.r (X i).n (some ⟨gb, 0, none⟩) lb cb (by rw [hTw.len]; exact (Classical.em (0 ≤ (X i).n ∧ (X i).n < D.s)).elim (fun h => .inr (fun e => hv ⟨h, e⟩)) .inl)
              have HHW : Hid _ := HW
              have HHR : Hid _ := HRW
              clear HW HRW
              go_wp2_with fail
              refine wp_region_permA [(false, 0), (false, 1), (false, 2), (false, 3), (false, 5), (false, 6), (false, 7), (false, 8), (true, 4), (true, 9), (false, 10)] (fun wx => Row wx wr.heap.size A 34) (by kernel_rfl) (by kernel_rfl) hRA4 ?_
              refine a_move (some 71) _ rfl rfl rfl (by rfl) ?_
              simp only [Act.put, List.setIfInBounds_toArray, List.set_cons_zero, List.set_cons_succ]
              refine a_value (some 72) ?_ rfl rfl (by rfl) (fun w hw => ?_) ?_
              rotate_left
              · go_simp
                with_reducible rfl
              simp only [Act.put, List.setIfInBounds_toArray, List.set_cons_zero, List.set_cons_succ]
              refine a_value (some 73) ?_ rfl rfl (by rfl) (fun w hw => ?_) ?_
              rotate_left
              · have hc := (hw.cell 1).trans a1
                go_simp
                with_reducible rfl
              simp only [Act.put, List.setIfInBounds_toArray, List.set_cons_zero, List.set_cons_succ]
              refine a_move (some 74) _ rfl rfl rfl (by rfl) ?_
              simp only [Act.put, List.setIfInBounds_toArray, List.set_cons_zero, List.set_cons_succ]
              refine a_move (some 76) _ rfl rfl rfl (by rfl) ?_
              simp only [Act.put, List.setIfInBounds_toArray, List.set_cons_zero, List.set_cons_succ]
              refine a_value (some 77) ?_ rfl rfl (by rfl) (fun w hw => ?_) ?_
              rotate_left
              · go_simp
                with_reducible rfl
              simp only [Act.put, List.setIfInBounds_toArray, List.set_cons_zero, List.set_cons_succ]
              refine a_value (some 78) ?_ rfl rfl (by rfl) (fun w hw => ?_) ?_
              rotate_left
              · have hc := (hw.cell 1).trans a1
                go_simp
                with_reducible rfl
              simp only [Act.put, List.setIfInBounds_toArray, List.set_cons_zero, List.set_cons_succ]
              refine a_move (some 79) _ rfl rfl rfl (by rfl) ?_
              simp only [Act.put, List.setIfInBounds_toArray, List.set_cons_zero, List.set_cons_succ]
              refine a_call (some 75) rfl rfl (by rfl) 11 #[.pointer (some ⟨g, 0, none⟩), .int .i64 (X i).n, .slice (some ⟨gi, 0, none⟩) lb ci] (by go_simp) (Calls.mono HHW.out fun r w5 ⟨he, hw5⟩ => ⟨_, he, by rw [hw5]; exact hRA4, ?_⟩)
              subst w5
              simp only [Act.put, List.setIfInBounds_toArray, List.set_cons_zero, List.set_cons_succ]
              refine a_call (some 80) rfl rfl (by rfl) 12 #[.pointer (some ⟨gr, 0, none⟩), .int .i64 (X i).n, .slice (some ⟨gb, 0, none⟩) lb cb] (by go_simp) (Calls.mono HHR.out fun r w6 ⟨he, hw6⟩ => ⟨_, he, by rw [hw6]; exact hRA4, ?_⟩)
              subst w6
              have hT6 : Two w4.drew w.heap.size g g1 c1 g2 c2 ev D gr fv lv R := HT4.out
              have hri6 : Row w4.drew gi curi 5 := hri4
              have hb6 : Below w.heap.size w w4.drew := hold4
              have HTw6 : Hid _ := hTw
              have HH6 : Hid _ := hH
              have hE6 : D.E.length ≤ i + 1 := by omega
              clear HHW HHR HT4 hRA4 hri4 hrb4 hold4
              generalize w4.drew = w6 at *
              simp only [Act.put, List.setIfInBounds_toArray, List.set_cons_zero, List.set_cons_succ]
              refine a_value (some 81) ?_ rfl rfl (by rfl) (fun w hw => ?_) ?_
              rotate_left
              · go_simp
                with_reducible rfl
              simp only [Act.put, List.setIfInBounds_toArray, List.set_cons_zero, List.set_cons_succ]
              refine a_done ?_
              try simp only [Exit.then]
              have HT6 : Hid _ := hT6
              have HB6 : Hid _ := hb6
              clear hT6 hb6
              go_wp2
              go_loopw [13] (fun kv wx => ∃ (q : Nat) (C : Array Value), q ≤ lb ∧ kv = .int .i64 q ∧ Hid (Row wx gi C 5) ∧ Hid (anyBytes C lb) ∧ Hid (∀ x, x ≠ gi → wx.heap[x]? = w6.heap[x]?) ∧ Hid (Below w.heap.size w wx)) (fun kv _ => lb - (intOf kv).toNat)
              case atStart => exact ⟨0, curi, by omega, rfl, hri6, hany, (fun _ _ => rfl), HB6⟩
              case round =>
                obtain ⟨q, C, hq, rfl, hRq, hAn, hKq, hBq⟩ := hrel
                skip
                by_cases hql : q < lb
                · obtain ⟨z, hz⟩ := hAn.out.2 q hql
                  have cq := (Row.cell hRq.out q).trans hz
                  have fq := Row.frozen hRq.out q
                  have hR' : ∀ z, Hid (Row (wr.setCell ⟨gi, q, none⟩ (.int .u8 z)) gi (C.setIfInBounds q (.int .u8 z)) 5) := fun z => Row.setCell hRq.out _
                  have hK' : ∀ z : Int, Hid (∀ x, x ≠ gi → (wr.setCell ⟨gi, q, none⟩ (.int .u8 z)).heap[x]? = w6.heap[x]?) := fun z x hx => (Below.heap_setCell _ _ _ _ hx).trans (hKq.out x hx)
                  have hB' : ∀ z : Int, Hid (Below w.heap.size w (wr.setCell ⟨gi, q, none⟩ (.int .u8 z))) := fun z => Below.setCell hBq.out (p := ⟨gi, q, none⟩) hgiw _
                  have HR' : Hid _ := hR'
                  have HK' : Hid _ := hK'
                  have HB' : Hid _ := hB'
                  clear hR' hK' hB'
                  have hqI : (q : Int) < lb := by omega
                  go_wp2
                  go_roundw
                  case rel => exact ⟨q + 1, _, by omega, by go_num, HR'.out _, hAn.out.set q _, HK'.out _, HB'.out _⟩
                  case measure => simp [intOf]; omega
                · have hP5 : Hid (Pl w (.pointer (some ⟨g, 0, none⟩)) (.pointer (some ⟨gr, 0, none⟩)) (i + 1) wr) := ⟨⟨g, g1, c1, g2, c2, ev, D, gr, fv, lv, R, Fl, rfl, rfl, HT6.out.apart gi curi hri6 hgi1 (Ne.symm hgi2) hKq.out, HTw6.out, HH6.out, hE6⟩, hBq.out⟩
                  clear HT6 HTw6 HH6 hKq hBq hRq
                  have HS := hP5.out.same (by omega)
                  have HHS : Hid _ := HS
                  clear HS
                  go_wp2_with fail
                  refine Calls.mono HHS.out ?_
                  rintro e w9 ⟨rfl, HP9⟩
                  clear HHS hP5
                  go_wp2
                  go_roundw
                  case rel => exact ⟨i + 1, by omega, by go_num, HP9⟩
                  case measure => simp [intOf]; omega
          · by_cases hk1 : (X i).kind = 1
            · skip
              have HF := flush_ok HT1.out.d hold1.size (by omega)
              have HHF : Hid _ := HF
              clear HF
              go_wp2_with fail
              refine Calls.mono HHF.out ?_
              rintro e w4 ⟨rfl, ev', hD4, hc4⟩
              have hR4 := HT1.out.r.chg HT1.out.d hc4
              have hb4 : Below w.heap.size w w4 := hold1.trans (HT1.out.d.chg hc4 hold1.size)
              have HRF := refFlush_ok hR4 hb4.size (by rw [hTw.llen]; omega)
              have HHR : Hid _ := HRF
              have HD4 : Hid _ := hD4
              have HR4 : Hid _ := hR4
              clear HRF hD4 hR4 hc4 HHF
              go_wp2_with fail
              refine Calls.mono HHR.out ?_
              rintro e w5 ⟨⟨v, rfl⟩, lv', hR5, hc5⟩
              have hD5 := HD4.out.chgR HR4.out hc5
              have hP5 : Hid (Pl w (.pointer (some ⟨g, 0, none⟩)) (.pointer (some ⟨gr, 0, none⟩)) (i + 1) w5) := ⟨⟨g, g1, c1, g2, c2, ev', _, gr, fv, lv', _, _, rfl, rfl, ⟨hD5, hR5⟩, hTw.flush Fl hH, hH.flush, by show (D.E ++ [flushEv]).length ≤ i + 1; rw [List.length_append]; show D.E.length + 1 ≤ i + 1; omega⟩, hb4.trans (HR4.out.to_below hc5 hb4.size)⟩
              clear hD5 hR5 hc5 HHR HD4 HR4
              have HS := hP5.out.same (by omega)
              have HHS : Hid _ := HS
              clear HS
              go_wp2_with fail
              refine Calls.mono HHS.out ?_
              rintro e w9 ⟨rfl, HP9⟩
              clear HHS hP5
              go_wp2
              go_roundw
              case rel => exact ⟨i + 1, by omega, by go_num, HP9⟩
              case measure => simp [intOf]; omega
            · by_cases hk2 : (X i).kind = 2
              · skip
                have a1 : A[1]? = some (.int .i64 (X i).n) := by rw [← show (X i).cells = A from HAA.out]; rfl
                have a5 : A[5]? = some (.slice (X i).ka (X i).klen (X i).kcap) := by rw [← show (X i).cells = A from HAA.out]; rfl
                have hbL : Bl (wr.alloc (.cells A 34)) (X i).ka (X i).kb (X i).koff (X i).klen (X i).kf := (HIN.out.below hold1).keep
                generalize wr.alloc (.cells A 34) = w3 at *
                have hknil := HIN.out.knil
                have HKN : Hid _ := hknil
                have hklen := HIN.out.klen
                have hRA3 : Row (w3.alloc (.cells #[] 4)) wr.heap.size A 34 := Row.alloc HRA.out _
                have c5 := (hRA3.cell 5).trans a5
                have c5' := (Row.cell HRA.out 5).trans a5
                have HBL : Hid (Bl (w3.alloc (.cells #[] 4)) (X i).ka (X i).kb (X i).koff (X i).klen (X i).kf) := hbL.belowAll ((Below.refl _ _).alloc (Nat.le_refl _) _)
                have HBL3 : Hid _ := hbL
                clear hknil hbL hRA3
                go_wp2_with (at_builtin; refine wpList_append_bools rfl (.tmp 105) (.tmp 107) rfl w3.heap.size _ 0 [] rfl (own_empty w3 4) _ (X i).kb (X i).koff (X i).klen (X i).kcap (X i).kf rfl HBL.out HKN.out (by omega) (by simp) ?_)
                intro v1 w4 own1 grow1 ne1
                have hb4 : Below w3.heap.size w3 w4 := own_grown (own_empty w3 4) ((Below.refl _ _).alloc (Nat.le_refl _) _) (by simp) grow1
                have own1 : w4.ownsRow w3.heap.size 4 1 v1 (X i).klen (bls (X i).kf (X i).klen) := by simpa using own1
                obtain ⟨gi, ci, rfl, hBi⟩ : ∃ gi ci, v1 = .slice (some ⟨gi, 0, none⟩) (X i).klen ci ∧ Bl w4 (some ⟨gi, 0, none⟩) gi 0 (X i).klen (X i).kf := by
                  have own2 := own1
                  obtain ⟨_, ⟨h1, _⟩ | ⟨g', c', cur, h1, _⟩⟩ := own1
                  · exact absurd h1 ne1
                  · subst h1
                    exact ⟨g', c', rfl, ⟨fun _ => rfl, fun j hj => by rw [Nat.zero_add, own2.cellAt j (by omega), bls_at _ _ _ hj]⟩⟩
                have hT4 := HT1.out.below hb4
                have HT4 : Hid _ := hT4
                have hRA4 : Row w4 wr.heap.size A 34 := Row.below HRA.out hb4 (Row.lt HRA.out)
                have hold4 : Below w.heap.size w w4 := hold1.trans (hb4.mono hold1.size)
                have HBL4 : Hid (Bl w4 (X i).ka (X i).kb (X i).koff (X i).klen (X i).kf) := HBL3.out.belowAll hb4
                have c1' := (hRA4.cell 1).trans a1
                clear own1 grow1 ne1 hT4 HT1 HRA HBL HBL3 c5 c5' hb4 HKN
                by_cases hv : 0 ≤ (X i).n ∧ (X i).n ≤ D.E.length
                · obtain ⟨k, hk⟩ : ∃ k : Nat, (X i).n = k := ⟨(X i).n.toNat, by omega⟩
                  have hkE : k ≤ D.E.length := by omega
                  rw [hk] at a1 c1'
                  have HAf := after_ok HT4.out.d k hkE (by omega) (some ⟨gi, 0, none⟩) gi 0 (X i).klen ci (X i).kf hBi hklen
                  have HHA : Hid _ := HAf
                  clear HAf
                  go_wp2_with fail
                  refine Calls.mono HHA.out ?_
                  rintro e w5 ⟨gx, gx1, cx1, gx2, cx2, rfl, hX5, hb5⟩
                  have hT5 := HT4.out.below hb5
                  have hRA5 : Row w5 wr.heap.size A 34 := hRA4.below hb5 hRA4.lt
                  have hold5 : Below w.heap.size w w5 := hold4.trans (hb5.mono hold4.size)
                  have HRf := refAfter_ok hT5.r k (by rw [hTw.llen]; exact hkE) (by rw [hTw.llen]; omega) (by rw [hTw.len]; exact hT5.d.ok.lo) (by rw [hTw.len]; have := hT5.d.ok.hi; omega) (hTw.evOk hT5.d.ok k hkE) (X i).ka (X i).kb (X i).koff (X i).klen (X i).kcap (X i).kf (HBL4.out.belowAll hb5) hklen
                  have HHR : Hid _ := HRf
                  have HT5 : Hid _ := hT5
                  have HX5 : Hid _ := hX5
                  have c1'' := (hRA5.cell 1).trans a1
                  have c5'' := (hRA5.cell 5).trans a5
                  clear HRf hT5 hX5 HHA hRA4 HBL4 c1'
                  go_wp2_with fail
                  refine Calls.mono HHR.out ?_
                  rintro e w6 ⟨gq, fq, rfl, hQ6, hb6⟩
                  have hT6 := HT5.out.below hb6
                  have hX6 := HX5.out.below hb6 (Nat.le_refl _)
                  have hold6 : Below w.heap.size w w6 := hold5.trans (hb6.mono hold5.size)
                  have HS6 := same_ok hT6 hTw (by omega)
                  have HTn : Hid _ := hTw.after hT6.d.ok k (X i).klen (X i).kf hkE
                  have HHS6 : Hid _ := HS6
                  have hle4 : w.heap.size ≤ w4.heap.size := hold4.size
                  have hle5 : w.heap.size ≤ w5.heap.size := hold5.size
                  have HN6 : Hid (Two w6 w.heap.size gx gx1 cx1 gx2 cx2 (.slice none 0 0) (D.after k (X i).klen (X i).kf) gq fq (.slice none 0 0) ⟨(refA R (lastR R k) (X i).klen (X i).kf k).1, []⟩) := ⟨hX6.base hle4, hQ6.base hle5⟩
                  clear HS6 hT6 hX6 hQ6 HHR HT5 HX5 HT4 c1'' c5'' hRA5
                  go_wp2_with fail
                  refine Calls.mono HHS6.out ?_
                  rintro e w7 ⟨rfl, hb7⟩
                  have hP5 : Hid (Pl w (.pointer (some ⟨gx, 0, none⟩)) (.pointer (some ⟨gq, 0, none⟩)) (i + 1) w7) := ⟨⟨gx, gx1, cx1, gx2, cx2, _, _, gq, fq, _, _, _, rfl, rfl, HN6.out.below hb7, HTn.out, hist_fresh _ _, Nat.zero_le _⟩, hold6.trans (hb7.mono hold6.size)⟩
                  clear HHS6 HN6 HTn hb7
                  have HS := hP5.out.same (by omega)
                  have HHS : Hid _ := HS
                  clear HS
                  go_wp2_with fail
                  refine Calls.mono HHS.out ?_
                  rintro e w9 ⟨rfl, HP9⟩
                  clear HHS hP5
                  go_wp2
                  go_roundw
                  case rel => exact ⟨i + 1, by omega, by go_num, HP9⟩
                  case measure => simp [intOf]; omega
                · have hv' : (X i).n < 0 ∨ (D.E.length : Int) < (X i).n := by omega
                  have HAf := after_bad HT4.out.d (X i).n hv' (.slice (some ⟨gi, 0, none⟩) (X i).klen ci)
                  have HRf := refAfter_bad HT4.out.r (X i).n (by rw [hTw.llen]; exact hv') (.slice (X i).ka (X i).klen (X i).kcap)
                  have HHA : Hid _ := HAf
                  have HHR : Hid _ := HRf
                  have c5'' := (hRA4.cell 5).trans a5
                  have hP5 : Hid (Pl w (.pointer (some ⟨g, 0, none⟩)) (.pointer (some ⟨gr, 0, none⟩)) (i + 1) w4) := ⟨⟨g, g1, c1, g2, c2, ev, D, gr, fv, lv, R, Fl, rfl, rfl, HT4.out, hTw, hH, by omega⟩, hold4⟩
                  clear HAf HRf HT4 hRA4 hBi HBL4
                  go_wp2_with fail
                  refine Calls.mono HHA.out ?_
                  rintro e w' ⟨rfl, hw'⟩
                  subst w'
                  go_wp2_with fail
                  refine Calls.mono HHR.out ?_
                  rintro e w' ⟨rfl, hw'⟩
                  subst w'
                  clear HHA HHR
                  have HS := hP5.out.same (by omega)
                  have HHS : Hid _ := HS
                  clear HS
                  go_wp2_with fail
                  refine Calls.mono HHS.out ?_
                  rintro e w9 ⟨rfl, HP9⟩
                  clear HHS hP5
                  go_wp2
                  go_roundw
                  case rel => exact ⟨i + 1, by omega, by go_num, HP9⟩
                  case measure => simp [intOf]; omega
              · skip
                have hP5 : Hid (Pl w (.pointer (some ⟨g, 0, none⟩)) (.pointer (some ⟨gr, 0, none⟩)) (i + 1) (wr.alloc (.cells A 34))) := ⟨⟨g, g1, c1, g2, c2, ev, D, gr, fv, lv, R, Fl, rfl, rfl, HT1.out, hTw, hH, by omega⟩, hold1⟩
                have HS := hP5.out.same (by omega)
                have HHS : Hid _ := HS
                clear HS
                go_wp2_with fail
                refine Calls.mono HHS.out ?_
                rintro e w9 ⟨rfl, HP9⟩
                clear HHS hP5
                go_wp2
                go_roundw
                case rel => exact ⟨i + 1, by omega, by go_num, HP9⟩
                case measure => simp [intOf]; omega
        · go_wp2
          go_ret
          exact ⟨rfl, hold⟩
end Go.Proofs.Ytpdcmhfmicemnaa
