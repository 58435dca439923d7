/- The walk of the law WalPlays. -/
import Derived.Test.YtlbapnecmhlgmaaM23
namespace Go.Proofs.Ytlbapnecmhlgmaa
open Go.RowKit

theorem names_ok (w : World) : Calls Try.prog 9 #[] w fun e w' => e = .returned (.bool true) ∧ w' = w := by
  go_enter Try.func9, Try.ntmps9
  go_wp2
  go_ret
  exact ⟨rfl, rfl⟩
theorem pv_below' {w0 w w' : World} {B A sec gp m gr : Nat} {fv : Value} {g g1 c1 g2 c2 : Nat} {ev : Value} {D : Dk} {gj gm : Nat} {L : List Pt} {gq : Nat} {lv : Value} {K : List Nat} (h : PairAt w0 B gr fv B g g1 c1 g2 c2 ev D B gj gm ⟨A, sec, L⟩ B gq lv K gp w) (hok : Jn.ok ⟨A, sec, L⟩ D.s) (h12 : D.s = 12) (hm : D.E.length ≤ m) (hb : Below w.heap.size w w') : Pv B A sec gp m w' := by
  have h' := h.below hb
  exact ⟨gr, fv, g, g1, c1, g2, c2, ev, D, gj, gm, L, gq, lv, K, ⟨h'.row, h'.d, h'.j, h'.r.self, h'.q, h'.keys, h'.b⟩, hok, h12, hm⟩
theorem Pv.next {B A sec gp m : Nat} {w w' : World} (h : Pv B A sec gp m w) (hb : Below w.heap.size w w') : Pv B A sec gp m w' := by
  obtain ⟨gr, fv, g, g1, c1, g2, c2, ev, D, gj, gm, L, gq, lv, K, h1, h2, h3, h4⟩ := h
  exact pv_below' h1 h2 h3 h4 hb
theorem PairAt.self {w0 w : World} {base gr : Nat} {fv : Value} {b0 g g1 c1 g2 c2 : Nat} {ev : Value} {D : Dk} {jb gj gm : Nat} {J : Jn} {qb gq : Nat} {lv : Value} {K : List Nat} {gp : Nat} (h : PairAt w0 base gr fv b0 g g1 c1 g2 c2 ev D jb gj gm J qb gq lv K gp w) : PairAt w base gr fv b0 g g1 c1 g2 c2 ev D jb gj gm J qb gq lv K gp w := ⟨h.row, h.d, h.j, h.r.self, h.q, h.keys, h.b⟩
theorem Pv.le {B A sec gp m m' : Nat} {w : World} (h : Pv B A sec gp m w) (hm : m ≤ m') : Pv B A sec gp m' w := by
  obtain ⟨gr, fv, g, g1, c1, g2, c2, ev, D, gj, gm, L, gq, lv, K, h1, h2, h3, h4⟩ := h
  exact ⟨gr, fv, g, g1, c1, g2, c2, ev, D, gj, gm, L, gq, lv, K, h1, h2, h3, Nat.le_trans h4 hm⟩
/-- The pair as it is made. -/
theorem pv_start {w2 w3 w4 : World} {B gr : Nat} {fv : Value} {g g1 c1 g2 c2 : Nat} {ev : Value} {D D4 : Dk} {A sec gj gm gq b3 b4 : Nat} {lv : Value} (hT : To w2 w3 B g g1 c1 g2 c2 ev lv D4) (hJ : JAt w3 b3 gj gm g ⟨A, sec, []⟩) (hR : RJ w3 B gr fv D4 w4) (hQ : QAt w4 b4 gq gr A sec (.slice none 0 0) []) (hf : FrR w3 w4) (hO : opened D A sec D4)
    (hs : D.s = 12) (hE : D.E.length = 0) (h2 : 2 ≤ sec) (h31 : sec ≤ 31) (hfit : A + sec ≤ 12) (hb3 : B ≤ b3) (hb4 : B ≤ b4) (hB : B ≤ w4.heap.size) :
    Pv B A sec w4.heap.size 40 (w4.alloc (.cells #[.pointer (some ⟨g, 0, none⟩), .pointer (some ⟨gr, 0, none⟩), .pointer (some ⟨gj, 0, none⟩), .pointer (some ⟨gq, 0, none⟩)] 39)) := by
  have hb : Below w4.heap.size w4 (w4.alloc (.cells #[.pointer (some ⟨g, 0, none⟩), .pointer (some ⟨gr, 0, none⟩), .pointer (some ⟨gj, 0, none⟩), .pointer (some ⟨gq, 0, none⟩)] 39)) := (Below.refl _ _).alloc (Nat.le_refl _) _
  have hl := opened_len hO h31
  refine ⟨gr, fv, g, g1, c1, g2, c2, lv, D4, gj, gm, [], gq, .slice none 0 0, [], ⟨Row.new w4 _ 39, (hT.disk.frR hf).below hb (Nat.le_refl _), ((hJ.frR hf).base hb3).below hb, (hR.below hb hB).self, (hQ.base hb4).below hb, keys_nil, Nat.le_trans hB hb.size⟩, ⟨h2, h31, by rw [hl.2, hs]; exact hfit, Nat.zero_le _, fun p hp => by cases hp⟩, hl.2.trans hs, by have := hl.1; omega⟩

set_option maxRecDepth 20000 in
set_option maxHeartbeats 16000000 in
theorem law_plays (A0 sec0 : Int) (a : Option Addr) (b off len cap : Nat) (X : Nat → ActD) (w : World) (hA : Acts w a b off len X) (hcap : len ≤ cap) (hcap2 : cap ≤ maxLen) :
    Calls Try.prog 3 #[.int .i64 A0, .int .i64 sec0, .slice a len cap] w fun e w' => e = .returned (.bool true) ∧ Below w.heap.size w w' := by
  have HA : Hid _ := hA
  unfold maxLen at hcap2
  clear hA
  have HN := new_ok 12 w (by decide) (by decide)
  go_enter Try.func3, Try.ntmps3
  go_wp2_with fail
  refine HN.mono ?_
  rintro e w1 ⟨g, g1, c1, g2, c2, rfl, hD, hb1⟩
  have hs1 := hb1.size
  have HD : Hid _ := hD
  have HHR : Hid _ := refNew_ok 12 w1 (by omega) (by omega)
  clear hD HN
  go_wp2_with fail
  refine Calls.mono HHR.out ?_
  rintro e w2 ⟨gr, fv, rfl, hR, hb2⟩
  have hb2' : Below w.heap.size w w2 := hb1.trans (hb2.mono hs1)
  have hsz2 := hb2.size
  have HD2 : Hid _ := HD.out.below hb2 (Nat.le_refl _)
  have HR2 : Hid (RJ w2 w.heap.size gr fv (freshD 12 fun _ => 0) w2) := ⟨⟨_, _, _, hR.base hs1, twin_new 12, hist_fresh 12 _⟩, HD.out.ok, FrR.refl _, Below.refl _ _⟩
  have HNM := names_ok w2
  have HB2 : Hid _ := hb2'
  clear hR hb2 hb2' HD HHR
  go_wp2_with fail
  refine HNM.mono ?_
  rintro e w' ⟨rfl, hw'⟩
  subst w'
  clear HNM
  have hDs : (freshD 12 fun _ => 0).s = 12 := rfl
  have hDE : (freshD 12 fun _ => 0).E.length = 0 := rfl
  by_cases hbad : sec0 < 2 ∨ 31 < sec0 ∨ A0 < 0 ∨ (12 : Int) - sec0 < A0
  · have HO : Hid _ := open_bad HD2.out A0 sec0 (by rw [hDs]; exact hbad)
    have HRo : Hid _ := ropen_bad HR2.out A0 sec0 (by rw [hDs]; exact hbad)
    clear HD2 HR2 hbad HA
    go_wp2_with fail
    refine Calls.mono HO.out ?_
    rintro e w' ⟨rfl, hw'⟩
    subst w'
    go_wp2_with fail
    refine Calls.mono HRo.out ?_
    rintro e w' ⟨rfl, hw'⟩
    subst w'
    clear HO HRo
    go_wp2
    go_ret
    exact ⟨rfl, HB2.out⟩
  · obtain ⟨A, rfl⟩ : ∃ A : Nat, A0 = A := ⟨A0.toNat, by omega⟩
    obtain ⟨sec, rfl⟩ : ∃ sec : Nat, sec0 = sec := ⟨sec0.toNat, by omega⟩
    have h2 : 2 ≤ sec := by omega
    have h31 : sec ≤ 31 := by omega
    have hfit : A + sec ≤ 12 := by omega
    clear hbad
    have hB2 : w.heap.size ≤ w2.heap.size := HB2.out.size
    have HO : Hid _ := open_any HD2.out hB2 (by rw [hDE]; omega) A sec h2 h31 (by rw [hDs]; exact hfit)
    go_wp2_with fail
    refine Calls.mono HO.out ?_
    rintro e w3 ⟨gj, gm, ev', D4, rfl, hO3, hT3, hJ3, hF3, hb3⟩
    have HT3 : Hid _ := hT3
    have HJ3 : Hid _ := hJ3
    have HO3 : Hid _ := hO3
    have hs3 := hb3.size
    have HR3 : Hid _ := RJ.ro HR2.out (Ro.of_fr hF3)
    have HB3 : Hid (Below w.heap.size w w3) := HB2.out.trans hb3
    have HRo : Hid _ := ropen_ok HR3.out HB3.out.size (by rw [hDE]; omega) A sec h2 h31 (by rw [hDs]; exact hfit)
    clear HO hT3 hJ3 hO3 hF3 hb3 HR2 HD2
    go_wp2_with fail
    refine Calls.mono HRo.out ?_
    rintro e w4 ⟨gq, D5, rfl, hO4, hR4, hQ4, hF4⟩
    obtain rfl := opened_uniq HO3.out hO4
    have HB4 : Hid (Below w.heap.size w w4) := HB3.out.trans hR4.old
    have hs4 := hF4.size
    have HPv : Hid _ := pv_start HT3.out HJ3.out hR4 hQ4 hF4 HO3.out hDs hDE h2 h31 hfit (Nat.le_trans HB2.out.size (Nat.le_refl _)) (Nat.le_trans HB3.out.size (Nat.le_refl _)) HB4.out.size
    have HOl : Hid (Below w.heap.size w (w4.alloc (.cells #[.pointer (some ⟨g, 0, none⟩), .pointer (some ⟨gr, 0, none⟩), .pointer (some ⟨gj, 0, none⟩), .pointer (some ⟨gq, 0, none⟩)] 39))) := HB4.out.alloc HB4.out.size _
    clear HRo hO4 hR4 hQ4 hF4 HT3 HJ3 HO3 HR3 HB3 HB2 hs3 hs4
    have hgp : w.heap.size ≤ w4.heap.size := HB4.out.size
    clear HB4
    go_upto_if 65 with fail
    go_cut [2] (fun s1 wx => ∃ m : Nat, m ≤ 60 ∧ s1 = .slice a m cap ∧ Hid (Acts w a b off m X) ∧ wx = w4)
    case first =>
      by_cases hl : 60 < len
      · obtain rfl := HA.out.at' (by omega)
        go_wp2
        go_meet
        exact ⟨60, by omega, rfl, ⟨fun _ => rfl, fun i hi => HA.out.cell i (by omega), fun i hi => HA.out.is i (by omega)⟩, rfl⟩
      · go_wp2
        go_meet
        exact ⟨len, by omega, rfl, HA.out, rfl⟩
    case rest =>
      obtain ⟨m, hm, rfl, HAm, hwc⟩ := hcut
      subst wc
      clear HA hcap
      go_wp2
      generalize (w4.alloc (.cells #[.pointer (some ⟨g, 0, none⟩), .pointer (some ⟨gr, 0, none⟩), .pointer (some ⟨gj, 0, none⟩), .pointer (some ⟨gq, 0, none⟩)] 39)) = w5 at *
      generalize w4.heap.size = gp at *
      go_loopw [15] (fun iv wq => ∃ i : Nat, i ≤ m ∧ iv = .int .i64 i ∧ Hid (Pv w.heap.size A sec gp (40 + 40 * i) wq) ∧ Hid (Below w.heap.size w wq)) (fun iv _ => m - (intOf iv).toNat)
      case atStart => exact ⟨0, Nat.zero_le _, rfl, HPv, HOl⟩
      case round =>
        obtain ⟨i, hi, rfl, hP, hold⟩ := hrel
        clear HPv HOl
        by_cases hlt : i < m
        · obtain rfl := HAm.out.at' (by omega)
          have hsq := hold.out.size
          have hAq := HAm.out.belowAll hold.out
          have HRG : Hid _ := hAq.range i hlt
          have HIN : Hid _ := HAm.out.is i hlt
          have hA6 := info43c (X i)
          have hA6a := info43a (X i)
          have hAo := (X i).cells_one
          have hAs : (X i).cells.size = 6 := rfl
          have a0 : (X i).cells[0]? = some (.int .i64 (X i).kind) := rfl
          have a1 : (X i).cells[1]? = some (.int .i64 (X i).n) := rfl
          have hkd := HIN.out.kind
          have hRA : Row (wr.alloc (.cells (X i).cells 43)) wr.heap.size (X i).cells 43 := Row.new wr _ 43
          have hbW : Below wr.heap.size wr (wr.alloc (.cells (X i).cells 43)) := (Below.refl _ _).alloc (Nat.le_refl _) _
          have HoW : Hid (Below w.heap.size w (wr.alloc (.cells (X i).cells 43))) := hold.out.trans (hbW.mono hsq)
          have HSC : Hid _ := sector_full (X i) _ (HIN.out.below HoW.out)
          have hfb := secOf_bd (X i).len (X i).f (X i).fill HIN.out.bytes.bd HIN.out.fill
          have HPW : Hid _ := hP.out.next hbW
          obtain ⟨FS, hFS⟩ : ∃ FS, secOf (X i).len (X i).f (X i).fill = FS := ⟨_, rfl⟩
          rw [hFS] at hfb HSC
          obtain ⟨C, hC⟩ : ∃ C, C = (X i).cells := ⟨_, rfl⟩
          have HCC : Hid _ := hC
          rw [← hC] at hA6 hA6a hAo hAs a0 a1 hRA HSC HRG HoW HPW hbW
          have HRA : Hid _ := hRA
          have HFB : Hid _ := hfb
          clear hFS hC hAq hRA hfb hP hold hbW
          go_upto_if 89 with (first
            | (refine wpList_load_mid rfl 43 _ rfl b (off + i * 6) rfl C.toList _ HRG.out Try.underlying43 rfl hA6 ?_; simp only [Array.toArray_toList])
            | refine wpList_store_new rfl 43 _ _ rfl wr _ C 43 rfl wr.heap.size rfl rfl rfl hA6a hAs.symm hAo ?_
            | refine wpList_load_row rfl 43 _ rfl wr.heap.size rfl 43 C (0, 0) _ HRA.out Try.underlying43 rfl hA6a ?_)
          refine Calls.mono HSC.out ?_
          rintro e w6 ⟨gb, cb, sb, rfl, hgb, hrb, hcb, hb6⟩
          obtain ⟨gr, fv, g, g1, c1, g2, c2, ev, D, gj, gm, L, gq, lv, K, hP, hok, h12, hE⟩ := HPW.out.ex
          have hg1 : g1 < gb := Nat.lt_of_lt_of_le hP.d.lt1 hgb
          have hg2 : g2 < gb := Nat.lt_of_lt_of_le hP.d.lt2 hgb
          have hg1' : g1 < w6.heap.size := Nat.lt_of_lt_of_le hP.d.lt1 hb6.size
          have hg2' : g2 < w6.heap.size := Nat.lt_of_lt_of_le hP.d.lt2 hb6.size
          have hP6 := (hP.below hb6).self
          have HP6 : Hid _ := hP6
          have HOK : Hid _ := hok
          have p0 := hP6.cells.1
          have p1 := hP6.cells.2.1
          have p2 := hP6.cells.2.2.1
          have p3 := hP6.cells.2.2.2
          have hE6 : D.E.length ≤ 10000 := by omega
          clear hP hok hP6
          have hRA6 : Row w6 wr.heap.size C 43 := Row.below HRA.out hb6 (Row.lt HRA.out)
          have HOld : Hid (Below w.heap.size w w6) := HoW.out.trans (hb6.mono HoW.out.size)
          have HRB : Hid _ := hrb
          have HCB : Hid _ := hcb
          have c0 := (hRA6.cell 0).trans a0
          have hs6 : w.heap.size ≤ w6.heap.size := HOld.out.size
          clear HSC HPW HRA hrb hcb hb6 HoW
          by_cases hk0 : (X i).kind = 0
          · skip
            skip
            have HBs : Hid (Bs (w6.alloc (.cells #[] 5)) (some ⟨gb, 0, none⟩) gb 0 256 FS) := Bs.belowAll ⟨fun _ => rfl, fun j hj => by rw [Nat.zero_add, Row.cell HRB.out j]; exact HCB.out j hj, HFB.out⟩ ((Below.refl _ _).alloc (Nat.le_refl _) _)
            clear p0 p1 p2 p3
            go_wp2_with (at_builtin; refine wpList_append_bytes rfl (.tmp 90) (.tmp 91) rfl w6.heap.size _ 0 [] rfl (own_empty w6 5) _ gb 0 256 cb FS rfl HBs.out (fun h => nomatch h) (by omega) (by simp) ?_)
            intro v1 w7 own1 grow1 ne1
            have hb7 : Below w6.heap.size w6 w7 := own_grown (own_empty w6 5) ((Below.refl _ _).alloc (Nat.le_refl _) _) (by simp) grow1
            have own1 : w7.ownsRow w6.heap.size 5 1 v1 256 (byts FS 256) := by simpa using own1
            obtain ⟨gi, ci, si, rfl, hgi, hri, hci, hcc⟩ : ∃ gi ci si, v1 = .slice (some ⟨gi, 0, none⟩) 256 ci ∧ w6.heap.size ≤ gi ∧ Row w7 gi si 5 ∧ (∀ j, j < 256 → si[j]? = some (.int .u8 (FS j))) ∧ 256 ≤ ci := by
              have own2 := own1
              obtain ⟨_, ⟨h1, _⟩ | ⟨g', c', cur, h1, h2, e3, e4, _⟩⟩ := own1
              · exact absurd h1 ne1
              · subst h1
                exact ⟨g', c', cur, rfl, h2, e3, fun j hj => by rw [← Row.cell e3 j, own2.cellAt j (by omega), byts_at _ _ _ hj], e4⟩
            have hb7d : Below w6.heap.size w6 w7.drew := hb7.drew
            have hP7 := (PairAt.below HP6.out hb7d).self
            have HPut : Hid _ := pair_put hP7 HOK.out h12 hE (X i).n gi ci gb cb FS HFB.out si hri hci sb ((Row.below HRB.out hb7 (Row.lt HRB.out)).drew) HCB.out
            have hS7 : Row w7.drew gp #[.pointer (some ⟨g, 0, none⟩), .pointer (some ⟨gr, 0, none⟩), .pointer (some ⟨gj, 0, none⟩), .pointer (some ⟨gq, 0, none⟩)] 39 ∧ Row w7.drew wr.heap.size C 43 := ⟨hP7.row, hRA6.below hb7d hRA6.lt⟩
            have HO7 : Hid (Below w.heap.size w w7.drew) := HOld.out.trans (hb7d.mono HOld.out.size)
            have HRI : Hid (Row w7.drew gi si 5) := hri
            have hci0 := hci 0 (by omega)
            have hgi1 : gi ≠ g1 := by omega
            have hgi2 : gi ≠ g2 := by omega
            have hgiB : w.heap.size ≤ gi := by omega
            clear own1 grow1 ne1 HBs hb7 hb7d hP7 hri hci HP6 hRA6 HRB HCB HOld
            go_wp2_with fail
            refine wp_region_permA [(false, 0), (false, 1), (false, 2), (false, 3), (false, 4), (false, 5), (false, 6), (false, 8), (false, 9), (false, 10), (false, 11), (false, 12), (false, 13), (false, 14), (true, 7), (true, 15), (false, 16)] (fun wx => Row wx gp #[.pointer (some ⟨g, 0, none⟩), .pointer (some ⟨gr, 0, none⟩), .pointer (some ⟨gj, 0, none⟩), .pointer (some ⟨gq, 0, none⟩)] 39 ∧ Row wx wr.heap.size C 43) (by kernel_rfl) (by kernel_rfl) hS7 ?_
            refine a_move (some 93) _ rfl rfl rfl (by rfl) ?_
            simp only [Act.put, List.setIfInBounds_toArray, List.set_cons_zero, List.set_cons_succ]
            refine a_value (some 94) ?_ rfl rfl (by rfl) (fun w hw => ?_) ?_
            rotate_left
            · go_simp
              with_reducible rfl
            simp only [Act.put, List.setIfInBounds_toArray, List.set_cons_zero, List.set_cons_succ]
            refine a_value (some 95) ?_ rfl rfl (by rfl) (fun w hw => ?_) ?_
            rotate_left
            · go_simp
              with_reducible rfl
            simp only [Act.put, List.setIfInBounds_toArray, List.set_cons_zero, List.set_cons_succ]
            refine a_value (some 96) ?_ rfl rfl (by rfl) (fun w hw => ?_) ?_
            rotate_left
            · have hc := (hw.1.cell 2).trans (rfl : _ = some (Value.pointer (some ⟨gj, 0, none⟩)))
              go_simp
              with_reducible rfl
            simp only [Act.put, List.setIfInBounds_toArray, List.set_cons_zero, List.set_cons_succ]
            refine a_value (some 97) ?_ rfl rfl (by rfl) (fun w hw => ?_) ?_
            rotate_left
            · go_simp
              with_reducible rfl
            simp only [Act.put, List.setIfInBounds_toArray, List.set_cons_zero, List.set_cons_succ]
            refine a_value (some 98) ?_ rfl rfl (by rfl) (fun w hw => ?_) ?_
            rotate_left
            · have hc := (hw.2.cell 1).trans a1
              go_simp
              with_reducible rfl
            simp only [Act.put, List.setIfInBounds_toArray, List.set_cons_zero, List.set_cons_succ]
            refine a_move (some 99) _ rfl rfl rfl (by rfl) ?_
            simp only [Act.put, List.setIfInBounds_toArray, List.set_cons_zero, List.set_cons_succ]
            refine a_move (some 101) _ rfl rfl rfl (by rfl) ?_
            simp only [Act.put, List.setIfInBounds_toArray, List.set_cons_zero, List.set_cons_succ]
            refine a_value (some 102) ?_ rfl rfl (by rfl) (fun w hw => ?_) ?_
            rotate_left
            · go_simp
              with_reducible rfl
            simp only [Act.put, List.setIfInBounds_toArray, List.set_cons_zero, List.set_cons_succ]
            refine a_value (some 103) ?_ rfl rfl (by rfl) (fun w hw => ?_) ?_
            rotate_left
            · go_simp
              with_reducible rfl
            simp only [Act.put, List.setIfInBounds_toArray, List.set_cons_zero, List.set_cons_succ]
            refine a_value (some 104) ?_ rfl rfl (by rfl) (fun w hw => ?_) ?_
            rotate_left
            · have hc := (hw.1.cell 3).trans (rfl : _ = some (Value.pointer (some ⟨gq, 0, none⟩)))
              go_simp
              with_reducible rfl
            simp only [Act.put, List.setIfInBounds_toArray, List.set_cons_zero, List.set_cons_succ]
            refine a_value (some 105) ?_ rfl rfl (by rfl) (fun w hw => ?_) ?_
            rotate_left
            · go_simp
              with_reducible rfl
            simp only [Act.put, List.setIfInBounds_toArray, List.set_cons_zero, List.set_cons_succ]
            refine a_value (some 106) ?_ rfl rfl (by rfl) (fun w hw => ?_) ?_
            rotate_left
            · have hc := (hw.2.cell 1).trans a1
              go_simp
              with_reducible rfl
            simp only [Act.put, List.setIfInBounds_toArray, List.set_cons_zero, List.set_cons_succ]
            refine a_move (some 107) _ rfl rfl rfl (by rfl) ?_
            simp only [Act.put, List.setIfInBounds_toArray, List.set_cons_zero, List.set_cons_succ]
            refine a_call (some 100) rfl rfl (by rfl) 13 #[.pointer (some ⟨gj, 0, none⟩), .int .i64 (X i).n, .slice (some ⟨gi, 0, none⟩) 256 ci] (by go_simp) (Calls.mono HPut.out ?_)
            rintro e w8 ⟨r, rfl, hK8, hC8⟩
            have hS8 : Row w8 gp #[.pointer (some ⟨g, 0, none⟩), .pointer (some ⟨gr, 0, none⟩), .pointer (some ⟨gj, 0, none⟩), .pointer (some ⟨gq, 0, none⟩)] 39 ∧ Row w8 wr.heap.size C 43 := ⟨hK8.row _ _ _ hS7.1 (.inl rfl), hK8.row _ _ _ hS7.2 (.inr (.inl rfl))⟩
            refine ⟨_, rfl, hS8, ?_⟩
            have HC8 : Hid _ := hC8
            have HRI8 : Hid (Row w8 gi si 5) := hK8.row _ _ _ HRI.out (.inr (.inr rfl))
            have HO8 : Hid (Below w.heap.size w w8) := HO7.out.trans hK8.old
            clear hC8 hK8 HPut HO7 HRI
            simp only [Act.put, List.setIfInBounds_toArray, List.set_cons_zero, List.set_cons_succ]
            refine a_call (some 108) rfl rfl (by rfl) 14 #[.pointer (some ⟨gq, 0, none⟩), .int .i64 (X i).n, .slice (some ⟨gb, 0, none⟩) 256 cb] (by go_simp) (Calls.mono HC8.out ?_)
            rintro e w10 ⟨rfl, hK10, hPv10⟩
            refine ⟨_, rfl, ⟨hK10.row _ _ _ hS8.1 (.inl rfl), hK10.row _ _ _ hS8.2 (.inr (.inl rfl))⟩, ?_⟩
            have HRI10 : Hid (Row w10 gi si 5) := hK10.row _ _ _ HRI8.out (.inr (.inr rfl))
            have HO10 : Hid (Below w.heap.size w w10) := HO8.out.trans hK10.old
            have HPv10 : Hid _ := hPv10
            clear hPv10 hK10 HC8 HRI8 HO8 hS8 hS7
            simp only [Act.put, List.setIfInBounds_toArray, List.set_cons_zero, List.set_cons_succ]
            refine a_value (some 109) ?_ rfl rfl (by rfl) (fun w hw => ?_) ?_
            rotate_left
            · go_simp
              with_reducible rfl
            simp only [Act.put, List.setIfInBounds_toArray, List.set_cons_zero, List.set_cons_succ]
            refine a_done ?_
            try simp only [Exit.then]
            have qi := (Row.cell HRI10.out 0).trans hci0
            have fi := Row.frozen HRI10.out 0
            obtain ⟨z, hz⟩ : ∃ z, z = IntKind.u8.wrap (FS 0 + 1) := ⟨_, rfl⟩
            have HOld : Hid (Below w.heap.size w (w10.setCell ⟨gi, 0, none⟩ (.int .u8 z))) := HO10.out.trans (Below.set _ hgiB)
            have HPt : Hid (Pv w.heap.size A sec gp (40 + 40 * i) (w10.setCell ⟨gi, 0, none⟩ (.int .u8 z))) := HPv10.out.set HRI10.out hgi1 hgi2 _
            subst hz
            clear HO10 HPv10 HRI10
            obtain ⟨gr', fv', g', g1', c1', g2', c2', ev', D', gj', gm', L', gq', lv', K', hP', hok', h12', hE'⟩ := HPt.out.ex
            have hfw' := hok'.few
            have hhi' := hok'.hi
            have HS : Hid _ := same_yes hP' (by omega) (by have := hok'.fits; simp only at this hfw' ⊢; omega)
            have HPP : Hid _ := hP'
            have HOK : Hid _ := hok'
            clear HPt hok' hfw' hhi' hP'
            go_wp2_with fail
            refine Calls.mono HS.out ?_
            rintro e w9 ⟨rfl, hb9⟩
            have hP9 := HPP.out.below hb9
            have HMo : Hid _ := most_yes hP9.d hP9.j h31
            have p2 := hP9.cells.2.2.1
            have HPv : Hid (Pv w.heap.size A sec gp (40 + 40 * (i + 1)) w9) := pv_below' HPP.out HOK.out h12' (by omega) hb9
            have HOl : Hid (Below w.heap.size w w9) := HOld.out.trans (hb9.mono HOld.out.size)
            clear HS HPP HOK hP9 hb9 h12' hE'
            go_wp2_with fail
            refine Calls.mono HMo.out ?_
            rintro e w8 ⟨rfl, hw8⟩
            subst hw8
            clear HMo p2
            go_wp2
            go_roundw
            case rel => exact ⟨i + 1, by omega, by go_num, HPv, HOl⟩
            case measure => simp [intOf]; omega
          by_cases hk1 : (X i).kind = 1
          · skip
            skip
            have HCo : Hid _ := pair_commit HP6.out HOK.out h12 hE (by omega)
            clear p0 p1 HIN HRB HCB HFB
            go_wp2_with fail
            refine Calls.mono HCo.out ?_
            rintro e w7 ⟨rfl, hK7, hC7⟩
            have p3' := ((hK7.row _ _ _ HP6.out.row (.inl rfl)).cell 3).trans (rfl : _ = some (Value.pointer (some ⟨gq, 0, none⟩)))
            have HC7 : Hid _ := hC7
            have HO7 : Hid (Below w.heap.size w w7) := HOld.out.trans hK7.old
            clear hC7 hK7 HCo HP6 HOK HOld p2 p3 c0 hRA6
            go_wp2_with fail
            refine Calls.mono HC7.out ?_
            rintro e w8 ⟨⟨r, rfl⟩, hK8, hPv8⟩
            have HOld : Hid (Below w.heap.size w w8) := HO7.out.trans hK8.old
            have HPt : Hid _ := hPv8
            clear hK8 hPv8 HC7 HO7 p3'
            obtain ⟨gr', fv', g', g1', c1', g2', c2', ev', D', gj', gm', L', gq', lv', K', hP', hok', h12', hE'⟩ := HPt.out.ex
            have hfw' := hok'.few
            have hhi' := hok'.hi
            have HS : Hid _ := same_yes hP' (by omega) (by have := hok'.fits; simp only at this hfw' ⊢; omega)
            have HPP : Hid _ := hP'
            have HOK : Hid _ := hok'
            clear HPt hok' hfw' hhi' hP'
            go_wp2_with fail
            refine Calls.mono HS.out ?_
            rintro e w9 ⟨rfl, hb9⟩
            have hP9 := HPP.out.below hb9
            have HMo : Hid _ := most_yes hP9.d hP9.j h31
            have p2 := hP9.cells.2.2.1
            have HPv : Hid (Pv w.heap.size A sec gp (40 + 40 * (i + 1)) w9) := pv_below' HPP.out HOK.out h12' (by omega) hb9
            have HOl : Hid (Below w.heap.size w w9) := HOld.out.trans (hb9.mono HOld.out.size)
            clear HS HPP HOK hP9 hb9 h12' hE'
            go_wp2_with fail
            refine Calls.mono HMo.out ?_
            rintro e w8 ⟨rfl, hw8⟩
            subst hw8
            clear HMo p2
            go_wp2
            go_roundw
            case rel => exact ⟨i + 1, by omega, by go_num, HPv, HOl⟩
            case measure => simp [intOf]; omega
          by_cases hk2 : (X i).kind = 2
          · skip
            skip
            have HAb : Hid _ := pair_abort HP6.out HOK.out h12 hE
            clear p0 p1 p3 HIN HRB HCB HFB
            go_wp2_with fail
            refine Calls.mono HAb.out ?_
            rintro e w7 ⟨rfl, hK7, ⟨q1, q2, q3⟩, hPv7⟩
            have HOld : Hid (Below w.heap.size w (w7.setCell ⟨gq, 3, none⟩ (.slice none 0 0))) := (HOld.out.trans hK7.old).trans hPv7.out.2.old
            have HPt : Hid (Pv w.heap.size A sec gp (40 + 40 * i) (w7.setCell ⟨gq, 3, none⟩ (.slice none 0 0))) := hPv7.out.1
            clear hK7 hPv7 HAb HP6 HOK p2 c0 hRA6
            obtain ⟨gr', fv', g', g1', c1', g2', c2', ev', D', gj', gm', L', gq', lv', K', hP', hok', h12', hE'⟩ := HPt.out.ex
            have hfw' := hok'.few
            have hhi' := hok'.hi
            have HS : Hid _ := same_yes hP' (by omega) (by have := hok'.fits; simp only at this hfw' ⊢; omega)
            have HPP : Hid _ := hP'
            have HOK : Hid _ := hok'
            clear HPt hok' hfw' hhi' hP'
            go_wp2_with fail
            refine Calls.mono HS.out ?_
            rintro e w9 ⟨rfl, hb9⟩
            have hP9 := HPP.out.below hb9
            have HMo : Hid _ := most_yes hP9.d hP9.j h31
            have p2 := hP9.cells.2.2.1
            have HPv : Hid (Pv w.heap.size A sec gp (40 + 40 * (i + 1)) w9) := pv_below' HPP.out HOK.out h12' (by omega) hb9
            have HOl : Hid (Below w.heap.size w w9) := HOld.out.trans (hb9.mono HOld.out.size)
            clear HS HPP HOK hP9 hb9 h12' hE'
            go_wp2_with fail
            refine Calls.mono HMo.out ?_
            rintro e w8 ⟨rfl, hw8⟩
            subst hw8
            clear HMo p2
            go_wp2
            go_roundw
            case rel => exact ⟨i + 1, by omega, by go_num, HPv, HOl⟩
            case measure => simp [intOf]; omega
          by_cases hk3 : (X i).kind = 3
          · skip
            skip
            have HLo : Hid _ := loses_yes HP6.out (by omega) (X i) (HIN.out.below HOld.out) A sec h2 h31 (by rw [h12]; exact hfit) w.heap.size hgp
            rw [h12, ← show C = (X i).cells from HCC.out] at HLo
            have HRA : Hid _ := hRA6
            clear p0 p1 p2 p3 HIN HRB HCB HFB
            go_wp2_with (refine wpList_load_row rfl 43 _ rfl wr.heap.size rfl 43 C (0, 0) _ HRA.out Try.underlying43 rfl hA6a ?_)
            refine Calls.mono HLo.out ?_
            rintro e w7 ⟨rfl, hl7⟩
            have hl7' := hl7.out.pv h2 h31 hfit
            have HOld : Hid (Below w.heap.size w w7) := HOld.out.trans (hl7'.2.mono hgp)
            have HPt : Hid (Pv w.heap.size A sec gp 40 w7) := hl7'.1
            clear hl7 hl7' HLo HP6 HOK c0 hRA6 HRA
            obtain ⟨gr', fv', g', g1', c1', g2', c2', ev', D', gj', gm', L', gq', lv', K', hP', hok', h12', hE'⟩ := HPt.out.ex
            have hfw' := hok'.few
            have hhi' := hok'.hi
            have HS : Hid _ := same_yes hP' (by omega) (by have := hok'.fits; simp only at this hfw' ⊢; omega)
            have HPP : Hid _ := hP'
            have HOK : Hid _ := hok'
            clear HPt hok' hfw' hhi' hP'
            go_wp2_with fail
            refine Calls.mono HS.out ?_
            rintro e w9 ⟨rfl, hb9⟩
            have hP9 := HPP.out.below hb9
            have HMo : Hid _ := most_yes hP9.d hP9.j h31
            have p2 := hP9.cells.2.2.1
            have HPv : Hid (Pv w.heap.size A sec gp (40 + 40 * (i + 1)) w9) := pv_below' HPP.out HOK.out h12' (by omega) hb9
            have HOl : Hid (Below w.heap.size w w9) := HOld.out.trans (hb9.mono HOld.out.size)
            clear HS HPP HOK hP9 hb9 h12' hE'
            go_wp2_with fail
            refine Calls.mono HMo.out ?_
            rintro e w8 ⟨rfl, hw8⟩
            subst hw8
            clear HMo p2
            go_wp2
            go_roundw
            case rel => exact ⟨i + 1, by omega, by go_num, HPv, HOl⟩
            case measure => simp [intOf]; omega
          by_cases hk4 : (X i).kind = 4
          · skip
            skip
            have hb6d : Below w6.heap.size w6 w6.drew := (Below.refl _ _).drew
            have hP7 := (PairAt.below HP6.out hb6d).self
            have HWr : Hid _ := pair_write hP7 HOK.out h12 hE (by omega) (X i).n gb cb FS HFB.out sb (Row.drew HRB.out) HCB.out (by omega)
            have hS7 : Row w6.drew gp #[.pointer (some ⟨g, 0, none⟩), .pointer (some ⟨gr, 0, none⟩), .pointer (some ⟨gj, 0, none⟩), .pointer (some ⟨gq, 0, none⟩)] 39 ∧ Row w6.drew wr.heap.size C 43 := ⟨hP7.row, hRA6.drew⟩
            have HO7 : Hid (Below w.heap.size w w6.drew) := HOld.out.drew
            clear p0 p1 p2 p3 HIN HRB HCB HFB hb6d hP7 HP6 HOK HOld hRA6
            go_wp2_with fail
            refine wp_region_permA [(false, 0), (false, 1), (false, 2), (false, 3), (false, 4), (false, 5), (false, 6), (false, 8), (false, 9), (false, 10), (false, 11), (false, 12), (false, 13), (false, 14), (true, 7), (true, 15), (false, 16)] (fun wx => Row wx gp #[.pointer (some ⟨g, 0, none⟩), .pointer (some ⟨gr, 0, none⟩), .pointer (some ⟨gj, 0, none⟩), .pointer (some ⟨gq, 0, none⟩)] 39 ∧ Row wx wr.heap.size C 43) (by kernel_rfl) (by kernel_rfl) hS7 ?_
            refine a_move (some 152) _ rfl rfl rfl (by rfl) ?_
            simp only [Act.put, List.setIfInBounds_toArray, List.set_cons_zero, List.set_cons_succ]
            refine a_value (some 153) ?_ rfl rfl (by rfl) (fun w hw => ?_) ?_
            rotate_left
            · go_simp
              with_reducible rfl
            simp only [Act.put, List.setIfInBounds_toArray, List.set_cons_zero, List.set_cons_succ]
            refine a_value (some 154) ?_ rfl rfl (by rfl) (fun w hw => ?_) ?_
            rotate_left
            · go_simp
              with_reducible rfl
            simp only [Act.put, List.setIfInBounds_toArray, List.set_cons_zero, List.set_cons_succ]
            refine a_value (some 155) ?_ rfl rfl (by rfl) (fun w hw => ?_) ?_
            rotate_left
            · have hc := (hw.1.cell 0).trans (rfl : _ = some (Value.pointer (some ⟨g, 0, none⟩)))
              go_simp
              with_reducible rfl
            simp only [Act.put, List.setIfInBounds_toArray, List.set_cons_zero, List.set_cons_succ]
            refine a_value (some 156) ?_ rfl rfl (by rfl) (fun w hw => ?_) ?_
            rotate_left
            · go_simp
              with_reducible rfl
            simp only [Act.put, List.setIfInBounds_toArray, List.set_cons_zero, List.set_cons_succ]
            refine a_value (some 157) ?_ rfl rfl (by rfl) (fun w hw => ?_) ?_
            rotate_left
            · have hc := (hw.2.cell 1).trans a1
              go_simp
              with_reducible rfl
            simp only [Act.put, List.setIfInBounds_toArray, List.set_cons_zero, List.set_cons_succ]
            refine a_move (some 158) _ rfl rfl rfl (by rfl) ?_
            simp only [Act.put, List.setIfInBounds_toArray, List.set_cons_zero, List.set_cons_succ]
            refine a_move (some 160) _ rfl rfl rfl (by rfl) ?_
            simp only [Act.put, List.setIfInBounds_toArray, List.set_cons_zero, List.set_cons_succ]
            refine a_value (some 161) ?_ rfl rfl (by rfl) (fun w hw => ?_) ?_
            rotate_left
            · go_simp
              with_reducible rfl
            simp only [Act.put, List.setIfInBounds_toArray, List.set_cons_zero, List.set_cons_succ]
            refine a_value (some 162) ?_ rfl rfl (by rfl) (fun w hw => ?_) ?_
            rotate_left
            · go_simp
              with_reducible rfl
            simp only [Act.put, List.setIfInBounds_toArray, List.set_cons_zero, List.set_cons_succ]
            refine a_value (some 163) ?_ rfl rfl (by rfl) (fun w hw => ?_) ?_
            rotate_left
            · have hc := (hw.1.cell 1).trans (rfl : _ = some (Value.pointer (some ⟨gr, 0, none⟩)))
              go_simp
              with_reducible rfl
            simp only [Act.put, List.setIfInBounds_toArray, List.set_cons_zero, List.set_cons_succ]
            refine a_value (some 164) ?_ rfl rfl (by rfl) (fun w hw => ?_) ?_
            rotate_left
            · go_simp
              with_reducible rfl
            simp only [Act.put, List.setIfInBounds_toArray, List.set_cons_zero, List.set_cons_succ]
            refine a_value (some 165) ?_ rfl rfl (by rfl) (fun w hw => ?_) ?_
            rotate_left
            · have hc := (hw.2.cell 1).trans a1
              go_simp
              with_reducible rfl
            simp only [Act.put, List.setIfInBounds_toArray, List.set_cons_zero, List.set_cons_succ]
            refine a_move (some 166) _ rfl rfl rfl (by rfl) ?_
            simp only [Act.put, List.setIfInBounds_toArray, List.set_cons_zero, List.set_cons_succ]
            refine a_call (some 159) rfl rfl (by rfl) 19 #[.pointer (some ⟨g, 0, none⟩), .int .i64 (X i).n, .slice (some ⟨gb, 0, none⟩) 256 cb] (by go_simp) (Calls.mono HWr.out ?_)
            rintro e w8 ⟨r, rfl, hK8, hC8⟩
            have hS8 : Row w8 gp #[.pointer (some ⟨g, 0, none⟩), .pointer (some ⟨gr, 0, none⟩), .pointer (some ⟨gj, 0, none⟩), .pointer (some ⟨gq, 0, none⟩)] 39 ∧ Row w8 wr.heap.size C 43 := ⟨hK8.row _ _ _ hS7.1 (.inl rfl), hK8.row _ _ _ hS7.2 (.inr rfl)⟩
            refine ⟨_, rfl, hS8, ?_⟩
            have HC8 : Hid _ := hC8
            have HO8 : Hid (Below w.heap.size w w8) := HO7.out.trans hK8.old
            clear hC8 hK8 HWr HO7
            simp only [Act.put, List.setIfInBounds_toArray, List.set_cons_zero, List.set_cons_succ]
            refine a_call (some 167) rfl rfl (by rfl) 20 #[.pointer (some ⟨gr, 0, none⟩), .int .i64 (X i).n, .slice (some ⟨gb, 0, none⟩) 256 cb] (by go_simp) (Calls.mono HC8.out ?_)
            rintro e w10 ⟨rfl, hK10, hPv10⟩
            refine ⟨_, rfl, ⟨hK10.row _ _ _ hS8.1 (.inl rfl), hK10.row _ _ _ hS8.2 (.inr rfl)⟩, ?_⟩
            have HOld : Hid (Below w.heap.size w w10) := HO8.out.trans hK10.old
            have HPt : Hid _ := hPv10
            clear hPv10 hK10 HC8 HO8 hS8 hS7
            simp only [Act.put, List.setIfInBounds_toArray, List.set_cons_zero, List.set_cons_succ]
            refine a_value (some 168) ?_ rfl rfl (by rfl) (fun w hw => ?_) ?_
            rotate_left
            · go_simp
              with_reducible rfl
            simp only [Act.put, List.setIfInBounds_toArray, List.set_cons_zero, List.set_cons_succ]
            refine a_done ?_
            try simp only [Exit.then]
            obtain ⟨gr', fv', g', g1', c1', g2', c2', ev', D', gj', gm', L', gq', lv', K', hP', hok', h12', hE'⟩ := HPt.out.ex
            have hfw' := hok'.few
            have hhi' := hok'.hi
            have HS : Hid _ := same_yes hP' (by omega) (by have := hok'.fits; simp only at this hfw' ⊢; omega)
            have HPP : Hid _ := hP'
            have HOK : Hid _ := hok'
            clear HPt hok' hfw' hhi' hP'
            go_wp2_with fail
            refine Calls.mono HS.out ?_
            rintro e w9 ⟨rfl, hb9⟩
            have hP9 := HPP.out.below hb9
            have HMo : Hid _ := most_yes hP9.d hP9.j h31
            have p2 := hP9.cells.2.2.1
            have HPv : Hid (Pv w.heap.size A sec gp (40 + 40 * (i + 1)) w9) := pv_below' HPP.out HOK.out h12' (by omega) hb9
            have HOl : Hid (Below w.heap.size w w9) := HOld.out.trans (hb9.mono HOld.out.size)
            clear HS HPP HOK hP9 hb9 h12' hE'
            go_wp2_with fail
            refine Calls.mono HMo.out ?_
            rintro e w8 ⟨rfl, hw8⟩
            subst hw8
            clear HMo p2
            go_wp2
            go_roundw
            case rel => exact ⟨i + 1, by omega, by go_num, HPv, HOl⟩
            case measure => simp [intOf]; omega
          have HPt : Hid (Pv w.heap.size A sec gp (40 + 40 * i) w6) := ⟨gr, fv, g, g1, c1, g2, c2, ev, D, gj, gm, L, gq, lv, K, HP6.out, HOK.out, h12, hE⟩
          clear p0 p1 p2 p3 HIN HRB HCB HFB HP6 HOK
          obtain ⟨gr', fv', g', g1', c1', g2', c2', ev', D', gj', gm', L', gq', lv', K', hP', hok', h12', hE'⟩ := HPt.out.ex
          have hfw' := hok'.few
          have hhi' := hok'.hi
          have HS : Hid _ := same_yes hP' (by omega) (by have := hok'.fits; simp only at this hfw' ⊢; omega)
          have HPP : Hid _ := hP'
          have HOK : Hid _ := hok'
          clear HPt hok' hfw' hhi' hP'
          go_wp2_with fail
          refine Calls.mono HS.out ?_
          rintro e w9 ⟨rfl, hb9⟩
          have hP9 := HPP.out.below hb9
          have HMo : Hid _ := most_yes hP9.d hP9.j h31
          have p2 := hP9.cells.2.2.1
          have HPv : Hid (Pv w.heap.size A sec gp (40 + 40 * (i + 1)) w9) := pv_below' HPP.out HOK.out h12' (by omega) hb9
          have HOl : Hid (Below w.heap.size w w9) := HOld.out.trans (hb9.mono HOld.out.size)
          clear HS HPP HOK hP9 hb9 h12' hE'
          go_wp2_with fail
          refine Calls.mono HMo.out ?_
          rintro e w8 ⟨rfl, hw8⟩
          subst hw8
          clear HMo p2
          go_wp2
          go_roundw
          case rel => exact ⟨i + 1, by omega, by go_num, HPv, HOl⟩
          case measure => simp [intOf]; omega
        · go_wp2
          go_ret
          exact ⟨rfl, hold.out⟩
end Go.Proofs.Ytlbapnecmhlgmaa
