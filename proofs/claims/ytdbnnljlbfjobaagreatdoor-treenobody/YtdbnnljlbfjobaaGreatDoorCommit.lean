/- The walk of Commit. -/
import Derived.Test.YtdbnnljlbfjobaaGreatDoorPut
namespace Go.Proofs.YtdbnnljlbfjobaaGreatDoor
open Go.RowKit

def lookD (L : List Pt) (k : Nat) : Nat → Int := (lookL L k).getD (fun _ => 0)
/-- The first n data sectors are written. -/
def wrN (D : Dk) (at' : Nat) (L : List Pt) (K : List Nat) : Nat → Dk
  | 0 => D
  | n + 1 => (wrN D at' L K n).write (at' + 1 + n) (lookD L (K.getD n 0))
/-- The header stands. -/
def hdD (D : Dk) (at' : Nat) (L : List Pt) (K : List Nat) : Dk := ((wrN D at' L K K.length).flush.write at' (hdr K)).flush
def comD (D : Dk) (at' : Nat) (L : List Pt) (K : List Nat) : Dk := doD (hdD D at' L K) at' K
theorem wrN_s (D : Dk) (at' : Nat) (L : List Pt) (K : List Nat) (n : Nat) : (wrN D at' L K n).s = D.s := by
  induction n with
  | zero => rfl
  | succ n ih => exact ih
theorem wrN_len (D : Dk) (at' : Nat) (L : List Pt) (K : List Nat) (n : Nat) : (wrN D at' L K n).E.length = D.E.length + n := by
  induction n with
  | zero => rfl
  | succ n ih =>
    show ((wrN D at' L K n).E ++ [_]).length = _
    rw [List.length_append, ih]
    rfl
theorem hdD_len (D : Dk) (at' : Nat) (L : List Pt) (K : List Nat) : (hdD D at' L K).E.length = D.E.length + K.length + 3 := by
  show (((wrN D at' L K K.length).E ++ [_]) ++ [_] ++ [_]).length = _
  simp [wrN_len]
theorem comD_len (D : Dk) (at' : Nat) (L : List Pt) (K : List Nat) : (comD D at' L K).E.length = D.E.length + 2 * K.length + 6 := by
  unfold comD
  rw [doD_len, hdD_len]
  omega
theorem comD_s (D : Dk) (at' : Nat) (L : List Pt) (K : List Nat) : (comD D at' L K).s = D.s := (doD_s _ _ _).trans (wrN_s D at' L K _)

set_option maxRecDepth 20000 in
set_option maxHeartbeats 8000000 in
theorem commit_ok {w : World} {base g1 c1 g2 c2 gd : Nat} {ev : Value} {D : Dk} {gj gm : Nat} {J : Jn} (hD : DiskAt w base gd g1 c1 g2 c2 ev D) (hbase : base ≤ w.heap.size) (hlen : D.E.length ≤ 400000) (hJ : JAt w base gj gm gd J) (hok : J.ok D.s) (h12 : J.L.length ≤ 12) :
    Calls Tryz.prog 40 #[.pointer (some ⟨gj, 0, none⟩)] w fun e w' => e = .returned (.int .i64 0) ∧ ∃ K, KeysOf J.L K ∧ ((K = [] ∧ Below w.heap.size w w') ∨
      (K ≠ [] ∧ ∃ ev', DiskAt w' base gd g1 c1 g2 c2 ev' (comD D J.at' J.L K) ∧ JAt w' base gj gm gd { J with L := [] } ∧ Below base w w')) := by
  have H1 := jmade_yes hD hJ
  have HP := pending_ok hD hJ h12
  have hsl := hok.lo
  have hsh := hok.hi
  have hfi := hok.fits
  have hfew := hok.few
  have hDh := hD.ok.hi
  have HD : Hid _ := hD
  have HJ : Hid _ := hJ
  have HOK : Hid _ := hok
  clear hD hJ hok
  go_enter Tryz.func40, Tryz.ntmps40
  go_wp2_with fail
  refine H1.mono ?_
  rintro e w' ⟨rfl, hw'⟩
  subst w'
  go_wp2_with fail
  refine HP.mono ?_
  rintro e w1 ⟨vK, K, rfl, hK, hN1, hb1⟩
  clear H1 HP
  have hKl := hK.len
  obtain ⟨a, c, hvK, hKI⟩ := hN1.ex
  have hD1 := HD.out.below hb1 (Nat.le_refl _)
  have hJ1 := HJ.out.below hb1
  have hs1 := hb1.size
  have HK : Hid _ := hK
  have HN1 : Hid _ := hN1
  have HKI : Hid _ := hKI
  have HD1 : Hid _ := hD1
  have HJ1 : Hid _ := hJ1
  have hbw : Below base w w1 := hb1.mono hbase
  have HKL : Hid _ := hKl
  have hK30 : K.length ≤ 30 := by omega
  have hKsec : K.length + 1 ≤ J.sec := by omega
  clear hK hN1 hKI hD1 hJ1 HD HJ hKl
  by_cases h0 : K.length = 0
  · have hKe : K = [] := List.eq_nil_of_length_eq_zero h0
    have HB1 : Hid _ := hb1
    rw [h0] at hvK
    subst hvK
    clear hb1
    go_wp2
    go_ret
    exact ⟨rfl, K, HK.out, .inl ⟨hKe, HB1.out⟩⟩
  · have hKne : K ≠ [] := fun e => h0 (by rw [e]; rfl)
    have h0I : ¬ (K.length : Int) = 0 := by omega
    obtain ⟨b, hab, _, hI1⟩ := HKI.out (by omega)
    subst hab
    subst hvK
    have HI1 : Hid _ := hI1
    clear hI1 hb1
    go_wp2
    go_loopw [17] (fun iv wx => ∃ (i : Nat) (evi : Value), i ≤ K.length ∧ iv = .int .i64 i ∧ Hid (DiskAt wx base gd g1 c1 g2 c2 evi (wrN D J.at' J.L K i)) ∧ Hid (Fr g2 w1 wx) ∧ Hid (Below base w1 wx)) (fun iv _ => K.length - (intOf iv).toNat)
    case atStart => exact ⟨0, ev, Nat.zero_le _, rfl, HD1, Fr.refl _ _, Below.refl _ _⟩
    case round =>
     obtain ⟨i, evi, hi, rfl, hDi, hFi, hBi⟩ := hrel
     have hsz : base ≤ wr.heap.size := Nat.le_trans hbase (Nat.le_trans hs1 hBi.out.size)
     by_cases hlt : i < K.length
     · skip
       have ci := (HI1.out.fr hFi.out).cell i hlt
       have hJr := HJ1.out.fr hFi.out
       obtain ⟨kn, hkn⟩ : ∃ kn, K.getD i 0 = kn := ⟨_, rfl⟩
       rw [hkn] at ci
       have HKN : Hid _ := hkn
       have hmem : kn ∈ J.L.map Pt.k := (HK.out.mem kn).1 (by rw [← hkn]; simp [List.getD, List.getElem?_eq_getElem hlt])
       obtain ⟨p, hpL, hrun, hpf⟩ : ∃ p : Pt, p ∈ J.L ∧ (Instr.lookup 130 (.map (some gm)) (.int .i64 (kn : Int)) false).run Tryz.prog wr = .ok (entV p.f) wr ∧ lookD J.L kn = p.f := by
         rcases hJr.map.lookup kn false with ⟨j, p, hj, hp, hrun⟩ | ⟨hno, _⟩
         · have hk : p.k = kn := by omega
           exact ⟨p, List.mem_of_getElem? hj, hrun, by unfold lookD; rw [← hk, lookL_some hJr.map.nodup hj]; rfl⟩
         · obtain ⟨p, hp, e⟩ := List.mem_map.1 hmem
           exact absurd (by rw [e]) (hno p hp)
       have hpb := (HOK.out.puts p hpL).2.2
       have c3 := (hJr.row.cell 3).trans (rfl : _ = some (Value.map (some gm)))
       simp only [entV] at hrun
       have hi83 := i83 p.f
       have hz := z83s p.f
       have ho := one83 p.f
       have hCb : ∀ j, j < 256 → (byts p.f 256).toArray[0 + j]? = some (.int .u8 (p.f j)) := fun j hj => by rw [Nat.zero_add]; simpa using byts_at p.f 256 j hj
       generalize (byts p.f 256).toArray = C at *
       have hbA : Below wr.heap.size wr (wr.alloc (.cells C 99)).drew := ((Below.refl _ _).alloc (Nat.le_refl _) _).drew
       have hJd : Hid (JAt (wr.alloc (.cells C 99)).drew base gj gm gd J) := hJr.below hbA
       have hDd : DiskAt (wr.alloc (.cells C 99)).drew base gd g1 c1 g2 c2 evi (wrN D J.at' J.L K i) := hDi.out.below hbA (Nat.le_refl _)
       have hRC : Row (wr.alloc (.cells C 99)).drew wr.heap.size C 99 := Row.new wr C 99
       have hsA : base ≤ (wr.alloc (.cells C 99)).drew.heap.size := Nat.le_trans hsz hbA.size
       have HDT : Hid _ := data_any hJd.out (by omega) i (by omega)
       have hWr := write_okT hDd hsA (by rw [wrN_len]; omega) (J.at' + 1 + i) (by rw [wrN_s]; omega) wr.heap.size 0 256 p.f C 99 (by decide) hRC (by have := hDi.out.lt2; omega) hCb hpb
       rw [show ((J.at' + 1 + i : Nat) : Int) = (J.at' : Int) + 1 + i by omega] at hWr
       have HHW : Hid _ := hWr
       have HDd : Hid _ := hDd
       have HbA : Hid _ := hbA
       have HPF : Hid _ := hpf
       clear hWr hDd hRC hJr hbA hkn hmem hpf hpb hCb
       go_wp2_with (first
         | refine wpList_store_new rfl 99 _ _ rfl wr _ C 99 rfl wr.heap.size rfl rfl rfl hi83 hz ho ?_)
       clear hrun c3
       refine wp_region_permA [(false, 0), (false, 1), (false, 2), (false, 3), (false, 4), (false, 5), (false, 7), (true, 6), (true, 8)] (fun wx => Row wx gj #[.pointer (some ⟨gd, 0, none⟩), .int .i64 J.at', .int .i64 J.sec, .map (some gm)] 132) (by kernel_rfl) (by kernel_rfl) hJd.out.row ?_
       refine a_move (some 28) _ rfl rfl rfl (by rfl) ?_
       simp only [Act.put, List.setIfInBounds_toArray, List.set_cons_zero, List.set_cons_succ]
       refine a_value (some 29) ?_ rfl rfl (by rfl) (fun w hw => ?_) ?_
       rotate_left
       · go_simp
         with_reducible rfl
       simp only [Act.put, List.setIfInBounds_toArray, List.set_cons_zero, List.set_cons_succ]
       refine a_value (some 30) ?_ rfl rfl (by rfl) (fun w hw => ?_) ?_
       rotate_left
       · go_simp
         with_reducible rfl
       simp only [Act.put, List.setIfInBounds_toArray, List.set_cons_zero, List.set_cons_succ]
       refine a_value (some 31) ?_ rfl rfl (by rfl) (fun w hw => ?_) ?_
       rotate_left
       · have hc := (hw.cell 0).trans (rfl : _ = some (Value.pointer (some ⟨gd, 0, none⟩)))
         go_simp
         with_reducible rfl
       simp only [Act.put, List.setIfInBounds_toArray, List.set_cons_zero, List.set_cons_succ]
       refine a_move (some 32) _ rfl rfl rfl (by rfl) ?_
       simp only [Act.put, List.setIfInBounds_toArray, List.set_cons_zero, List.set_cons_succ]
       refine a_move (some 33) _ rfl rfl rfl (by rfl) ?_
       simp only [Act.put, List.setIfInBounds_toArray, List.set_cons_zero, List.set_cons_succ]
       refine a_value (some 35) ?_ rfl rfl (by rfl) (fun w hw => ?_) ?_
       rotate_left
       · go_simp
         with_reducible rfl
       simp only [Act.put, List.setIfInBounds_toArray, List.set_cons_zero, List.set_cons_succ]
       refine a_call (some 34) rfl rfl (by rfl) 90 #[.pointer (some ⟨gj, 0, none⟩), .int .i64 i] (by go_simp) (Calls.mono HDT.out fun e w' ⟨he, hw'⟩ => ⟨_, he, by rw [hw']; exact hJd.out.row, ?_⟩)
       subst hw'
       simp only [Act.put, List.setIfInBounds_toArray, List.set_cons_zero, List.set_cons_succ]
       refine a_call (some 36) rfl rfl (by rfl) 89 #[.pointer (some ⟨gd, 0, none⟩), .int .i64 (J.at' + 1 + i), .slice (some ⟨wr.heap.size, 0, none⟩) 256 256] (by go_simp) (Calls.mono HHW.out fun e w3 ⟨he, ev3, hD3, hc3⟩ => ⟨_, he, hJd.out.row.chg HDd.out hc3 (by decide) (by decide) (fun e => absurd e (by decide)), ?_⟩)
       have hD3' : Hid (DiskAt w3 base gd g1 c1 g2 c2 ev3 (wrN D J.at' J.L K (i + 1))) := by
         show DiskAt w3 base gd g1 c1 g2 c2 ev3 ((wrN D J.at' J.L K i).write (J.at' + 1 + i) (lookD J.L (K.getD i 0)))
         rw [show K.getD i 0 = kn from HKN.out, show lookD J.L kn = p.f from HPF.out]
         exact hD3
       have hF3 : Hid (Fr g2 w1 w3) := hFi.out.trans ((Fr.of_below HbA.out).trans (Fr.of_chg HDd.out hc3))
       have hB3 : Hid (Below base w1 w3) := hBi.out.trans ((HbA.out.mono hsz).trans (HDd.out.chg hc3 hsA))
       subst he
       clear hD3 hc3 HHW HDd HbA HDT hJd
       simp only [Act.put, List.setIfInBounds_toArray, List.set_cons_zero, List.set_cons_succ]
       refine a_done ?_
       try simp only [Exit.then]
       go_wp2
       go_roundw
       case rel => exact ⟨_, _, _, .int .i64 ((i : Int) + 1), ⟨i + 1, by omega, by go_num, ev3, hD3'⟩, rfl, rfl, rfl, rfl⟩
       case measure => simp [intOf]; omega
     · skip
       have hiK : i = K.length := by omega
       subst hiK
       have hJr := HJ1.out.fr hFi.out
       have c0 := (hJr.row.cell 0).trans (rfl : _ = some (Value.pointer (some ⟨gd, 0, none⟩)))
       have HFl := flush_ok hDi.out hsz (by rw [wrN_len]; omega)
       have HHF : Hid _ := HFl
       clear HFl hJr HKI HD1
       go_wp2_with fail
       refine Calls.mono HHF.out ?_
       rintro e w4 ⟨rfl, ev4, hD4, hc4⟩
       have hF4 : Fr g2 w1 w4 := hFi.out.trans (Fr.of_chg hDi.out hc4)
       have hB4 : Below base w1 w4 := hBi.out.trans (hDi.out.chg hc4 hsz)
       have hJ4 : Hid (JAt w4.drew base gj gm gd J) := (HJ1.out.fr hF4).below (Below.refl _ _).drew
       have hs4 : base ≤ w4.heap.size := Nat.le_trans hbase (Nat.le_trans hs1 hB4.size)
       have hN4 := (HN1.out.fr hF4).fr (Fr.of_below (g2 := g2) (w := w4) (w' := w4.drew) (Below.refl _ _).drew)
       have hHd := headerOf_ok hN4 hK30 (fun j => by
         by_cases hj : j < K.length
         · have hm : K.getD j 0 ∈ J.L.map Pt.k := (HK.out.mem _).1 (by simp [List.getD, List.getElem?_eq_getElem hj])
           obtain ⟨p, hp, e⟩ := List.mem_map.1 hm
           have := (HOK.out.puts p hp).1
           omega
         · simp [List.getD, List.getElem?_eq_none (Nat.le_of_not_lt hj)])
       have HHD : Hid _ := hHd
       have hDd4 := hD4.below (w' := w4.drew) (Below.refl _ _).drew (Nat.le_refl _)
       have HD4 : Hid _ := hDd4
       have HF4 : Hid _ := hF4
       have HB4 : Hid _ := hB4
       clear hD4 hDd4 hc4 hF4 hB4 hHd HHF c0 hN4
       go_wp2_with fail
       refine wp_region_mix [false, false, false, false, false, false, false, false, false, true, true] (fun wx => Row wx gj #[.pointer (some ⟨gd, 0, none⟩), .int .i64 J.at', .int .i64 J.sec, .map (some gm)] 132) (by kernel_rfl) (by kernel_rfl) hJ4.out.row ?_
       refine m_move _ rfl (by rfl) ?_
       simp only [Act.put, List.setIfInBounds_toArray, List.set_cons_zero, List.set_cons_succ]
       refine m_value ?_ (by rfl) (fun w hw => ?_) ?_
       rotate_left
       · go_simp
         with_reducible rfl
       simp only [Act.put, List.setIfInBounds_toArray, List.set_cons_zero, List.set_cons_succ]
       refine m_value ?_ (by rfl) (fun w hw => ?_) ?_
       rotate_left
       · go_simp
         with_reducible rfl
       simp only [Act.put, List.setIfInBounds_toArray, List.set_cons_zero, List.set_cons_succ]
       refine m_value ?_ (by rfl) (fun w hw => ?_) ?_
       rotate_left
       · have hc := (hw.cell 0).trans (rfl : _ = some (Value.pointer (some ⟨gd, 0, none⟩)))
         go_simp
         with_reducible rfl
       simp only [Act.put, List.setIfInBounds_toArray, List.set_cons_zero, List.set_cons_succ]
       refine m_move _ rfl (by rfl) ?_
       simp only [Act.put, List.setIfInBounds_toArray, List.set_cons_zero, List.set_cons_succ]
       refine m_value ?_ (by rfl) (fun w hw => ?_) ?_
       rotate_left
       · go_simp
         with_reducible rfl
       simp only [Act.put, List.setIfInBounds_toArray, List.set_cons_zero, List.set_cons_succ]
       refine m_value ?_ (by rfl) (fun w hw => ?_) ?_
       rotate_left
       · go_simp
         with_reducible rfl
       simp only [Act.put, List.setIfInBounds_toArray, List.set_cons_zero, List.set_cons_succ]
       refine m_value ?_ (by rfl) (fun w hw => ?_) ?_
       rotate_left
       · have hc := (hw.cell 1).trans (rfl : _ = some (Value.int .i64 (J.at' : Int)))
         go_simp
         with_reducible rfl
       simp only [Act.put, List.setIfInBounds_toArray, List.set_cons_zero, List.set_cons_succ]
       refine m_move _ rfl (by rfl) ?_
       simp only [Act.put, List.setIfInBounds_toArray, List.set_cons_zero, List.set_cons_succ]
       refine m_call (by rfl) 91 #[.slice (some ⟨b, 0, none⟩) K.length c] (by go_simp) (Calls.mono HHD.out fun e w5 ⟨he, hR5, hb5⟩ => ⟨_, he, hJ4.out.row.below hb5 hJ4.out.row.lt, ?_⟩)
       have hD5 := HD4.out.below hb5 (Nat.le_refl _)
       have hs5 : base ≤ w5.heap.size := Nat.le_trans hs4 hb5.size
       have hb45 : Below w4.heap.size w4 w5 := (Below.refl _ _).drew.trans hb5
       have hW5 := write_ok hD5 hs5 (by show ((wrN D J.at' J.L K K.length).E ++ [_]).length ≤ _; rw [List.length_append, wrN_len]; simp; omega) J.at' (by show J.at' < (wrN D J.at' J.L K K.length).s; rw [wrN_s]; omega) w4.drew.heap.size 0 256 (hdr K) _ hR5 (by have := HD4.out.lt2; omega) (fun j hj => by rw [Nat.zero_add]; simpa using byts_at (hdr K) 256 j hj) (hdr_bd K)
       have HW5 : Hid _ := hW5
       have HD5 : Hid _ := hD5
       have hJ5 : JAt w5 base gj gm gd J := hJ4.out.below hb5
       have HJ5 : Hid _ := hJ5
       have HB45 : Hid _ := hb45
       subst he
       clear hW5 hD5 hR5 hb5 hJ5 hb45 HHD
       simp only [Act.put, List.setIfInBounds_toArray, List.set_cons_zero, List.set_cons_succ]
       refine m_call (by rfl) 89 #[.pointer (some ⟨gd, 0, none⟩), .int .i64 J.at', .slice (some ⟨w4.drew.heap.size, 0, none⟩) 256 256] (by go_simp) (Calls.mono HW5.out fun e w6 ⟨he, ev6, hD6, hc6⟩ => ⟨_, he, HJ5.out.row.chg HD5.out hc6 (by decide) (by decide) (fun e => absurd e (by decide)), ?_⟩)
       have hF6 : Hid (Fr g2 w1 w6) := HF4.out.trans ((Fr.of_below HB45.out).trans (Fr.of_chg HD5.out hc6))
       have hB6 : Hid (Below base w1 w6) := HB4.out.trans ((HB45.out.mono hs4).trans (HD5.out.chg hc6 hs5))
       have hJ6 := HJ1.out.fr hF6.out
       have c06 := (hJ6.row.cell 0).trans (rfl : _ = some (Value.pointer (some ⟨gd, 0, none⟩)))
       have hs6 : base ≤ w6.heap.size := Nat.le_trans hbase (Nat.le_trans hs1 hB6.out.size)
       have hFl6 := flush_ok hD6 hs6 (by show ((wrN D J.at' J.L K K.length).E ++ [_] ++ [_]).length ≤ _; rw [List.length_append, List.length_append, wrN_len]; simp; omega)
       have HFl6 : Hid _ := hFl6
       have HD6 : Hid _ := hD6
       subst he
       clear hFl6 hD6 hc6 hJ6 HW5 HD5 HB45 HF4 HB4 hJ4
       simp only [Act.put, List.setIfInBounds_toArray, List.set_cons_zero, List.set_cons_succ]
       refine m_done ?_
       try simp only [Exit.then]
       go_wp2_with fail
       refine Calls.mono HFl6.out ?_
       rintro e w7 ⟨rfl, ev7, hD7, hc7⟩
       have hF7 : Fr g2 w1 w7 := hF6.out.trans (Fr.of_chg HD6.out hc7)
       have hB7 : Below base w1 w7 := hB6.out.trans (HD6.out.chg hc7 hs6)
       have hs7 : base ≤ w7.heap.size := Nat.le_trans hbase (Nat.le_trans hs1 hB7.size)
       have hDo := do_ok hD7 hs7 (by show (hdD D J.at' J.L K).E.length ≤ _; rw [hdD_len]; omega) (HJ1.out.fr hF7) (by show J.at' + J.sec ≤ (wrN D J.at' J.L K K.length).s; rw [wrN_s]; omega) (HN1.out.fr hF7) hKsec hsh (fun j hj => by
         show K.getD j 0 < (wrN D J.at' J.L K K.length).s
         rw [wrN_s]
         have hm : K.getD j 0 ∈ J.L.map Pt.k := (HK.out.mem _).1 (by simp [List.getD, List.getElem?_eq_getElem hj])
         obtain ⟨p, hp, e⟩ := List.mem_map.1 hm
         rw [← e]
         exact (HOK.out.puts p hp).1)
       have HDo : Hid _ := hDo
       have HF7 : Hid _ := hF7
       have HB7 : Hid _ := hB7
       clear hDo hD7 hc7 hF7 hB7 HFl6 HD6 c06 hF6 hB6
       go_wp2_with fail
       refine Calls.mono HDo.out ?_
       rintro e w8 ⟨⟨r, rfl⟩, ev8, hD8, hF8, hB8⟩
       have hJ8 := HJ1.out.fr (HF7.out.trans hF8)
       have c38 := (hJ8.row.cell 3).trans (rfl : _ = some (Value.map (some gm)))
       obtain ⟨w9, hcl, hM9, hO9⟩ := hJ8.map.clear 0
       have hJ9 : JAt w9 base gj gm gd { J with L := [] } := ⟨(hO9.block gj (hJ8.map.row_ne hJ8.row).symm).trans hJ8.row, hM9, hJ8.geJ, hJ8.geM⟩
       have hD9 := hD8.one hJ8.map hO9
       have hB9 : Below base w w9 := hbw.trans (HB7.out.trans (hB8.trans (hO9.below hJ8.geM)))
       have HJ9 : Hid _ := hJ9
       have HD9 : Hid _ := hD9
       have HB9 : Hid _ := hB9
       clear hJ8 hM9 hO9 hJ9 hD9 hB9 hD8 hF8 hB8 HDo HF7 HB7
       go_wp2
       go_ret
       exact ⟨rfl, K, HK.out, .inr ⟨hKne, ev8, HD9.out, HJ9.out, HB9.out⟩⟩
end Go.Proofs.YtdbnnljlbfjobaaGreatDoor
