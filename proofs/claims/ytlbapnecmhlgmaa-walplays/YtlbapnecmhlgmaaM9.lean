/- The walk of Commit. The walk of Open where no header stands. The walk of look: a header's numbers, and whether it stands. -/
import Derived.Test.YtlbapnecmhlgmaaM8
namespace Go.Proofs.Ytlbapnecmhlgmaa
open Go.RowKit

def lookD (L : List Pt) (k : Nat) : Nat → Int := (lookL L k).getD (fun _ => 0)
/-- The first n data sectors are written. -/
def wrN (D : Dk) (at' : Nat) (L : List Pt) (K : List Nat) : Nat → Dk
  | 0 => D
  | n + 1 => (wrN D at' L K n).write (at' + 1 + n) (lookD L (K.getD n 0))
/-- The header stands. -/
def hdD (D : Dk) (at' : Nat) (L : List Pt) (K : List Nat) : Dk := ((wrN D at' L K K.length).flush.write at' (hdr K)).flush
def comD (D : Dk) (at' : Nat) (L : List Pt) (K : List Nat) : Dk := doD (hdD D at' L K) at' K
theorem wrN_s (D : Dk) (at' : Nat) (L : List Pt) (K : List Nat) (n : Nat) : (wrN D at' L K n).s = D.s := by
  induction n with
  | zero => rfl
  | succ n ih => exact ih
theorem wrN_len (D : Dk) (at' : Nat) (L : List Pt) (K : List Nat) (n : Nat) : (wrN D at' L K n).E.length = D.E.length + n := by
  induction n with
  | zero => rfl
  | succ n ih =>
    show ((wrN D at' L K n).E ++ [_]).length = _
    rw [List.length_append, ih]
    rfl
theorem hdD_len (D : Dk) (at' : Nat) (L : List Pt) (K : List Nat) : (hdD D at' L K).E.length = D.E.length + K.length + 3 := by
  show (((wrN D at' L K K.length).E ++ [_]) ++ [_] ++ [_]).length = _
  simp [wrN_len]
theorem comD_len (D : Dk) (at' : Nat) (L : List Pt) (K : List Nat) : (comD D at' L K).E.length = D.E.length + 2 * K.length + 6 := by
  unfold comD
  rw [doD_len, hdD_len]
  omega
theorem comD_s (D : Dk) (at' : Nat) (L : List Pt) (K : List Nat) : (comD D at' L K).s = D.s := (doD_s _ _ _).trans (wrN_s D at' L K _)

set_option maxRecDepth 20000 in
set_option maxHeartbeats 8000000 in
theorem commit_ok {w : World} {base g1 c1 g2 c2 gd : Nat} {ev : Value} {D : Dk} {gj gm : Nat} {J : Jn} (hD : DiskAt w base gd g1 c1 g2 c2 ev D) (hbase : base ≤ w.heap.size) (hlen : D.E.length ≤ 400000) (hJ : JAt w base gj gm gd J) (hok : J.ok D.s) (h12 : J.L.length ≤ 12) :
    Calls Try.prog 15 #[.pointer (some ⟨gj, 0, none⟩)] w fun e w' => e = .returned (.int .i64 0) ∧ ∃ K, KeysOf J.L K ∧ ((K = [] ∧ Below w.heap.size w w') ∨
      (K ≠ [] ∧ ∃ ev', DiskAt w' base gd g1 c1 g2 c2 ev' (comD D J.at' J.L K) ∧ JAt w' base gj gm gd { J with L := [] } ∧ Below base w w')) := by
  have H1 := jmade_yes hD hJ
  have HP := pending_ok hD hJ h12
  have hsl := hok.lo
  have hsh := hok.hi
  have hfi := hok.fits
  have hfew := hok.few
  have hDh := hD.ok.hi
  have HD : Hid _ := hD
  have HJ : Hid _ := hJ
  have HOK : Hid _ := hok
  clear hD hJ hok
  go_enter Try.func15, Try.ntmps15
  go_wp2_with fail
  refine H1.mono ?_
  rintro e w' ⟨rfl, hw'⟩
  subst w'
  go_wp2_with fail
  refine HP.mono ?_
  rintro e w1 ⟨vK, K, rfl, hK, hN1, hb1⟩
  clear H1 HP
  have hKl := hK.len
  obtain ⟨a, c, hvK, hKI⟩ := hN1.ex
  have hD1 := HD.out.below hb1 (Nat.le_refl _)
  have hJ1 := HJ.out.below hb1
  have hs1 := hb1.size
  have HK : Hid _ := hK
  have HN1 : Hid _ := hN1
  have HKI : Hid _ := hKI
  have HD1 : Hid _ := hD1
  have HJ1 : Hid _ := hJ1
  have hbw : Below base w w1 := hb1.mono hbase
  have HKL : Hid _ := hKl
  have hK30 : K.length ≤ 30 := by omega
  have hKsec : K.length + 1 ≤ J.sec := by omega
  clear hK hN1 hKI hD1 hJ1 HD HJ hKl
  by_cases h0 : K.length = 0
  · have hKe : K = [] := List.eq_nil_of_length_eq_zero h0
    have HB1 : Hid _ := hb1
    rw [h0] at hvK
    subst hvK
    clear hb1
    go_wp2
    go_ret
    exact ⟨rfl, K, HK.out, .inl ⟨hKe, HB1.out⟩⟩
  · have hKne : K ≠ [] := fun e => h0 (by rw [e]; rfl)
    have h0I : ¬ (K.length : Int) = 0 := by omega
    obtain ⟨b, hab, _, hI1⟩ := HKI.out (by omega)
    subst hab
    subst hvK
    have HI1 : Hid _ := hI1
    clear hI1 hb1
    go_wp2
    go_loopw [17] (fun iv wx => ∃ (i : Nat) (evi : Value), i ≤ K.length ∧ iv = .int .i64 i ∧ Hid (DiskAt wx base gd g1 c1 g2 c2 evi (wrN D J.at' J.L K i)) ∧ Hid (Fr g2 w1 wx) ∧ Hid (Below base w1 wx)) (fun iv _ => K.length - (intOf iv).toNat)
    case atStart => exact ⟨0, ev, Nat.zero_le _, rfl, HD1, Fr.refl _ _, Below.refl _ _⟩
    case round =>
     obtain ⟨i, evi, hi, rfl, hDi, hFi, hBi⟩ := hrel
     have hsz : base ≤ wr.heap.size := Nat.le_trans hbase (Nat.le_trans hs1 hBi.out.size)
     by_cases hlt : i < K.length
     · skip
       have ci := (HI1.out.fr hFi.out).cell i hlt
       have hJr := HJ1.out.fr hFi.out
       obtain ⟨kn, hkn⟩ : ∃ kn, K.getD i 0 = kn := ⟨_, rfl⟩
       rw [hkn] at ci
       have HKN : Hid _ := hkn
       have hmem : kn ∈ J.L.map Pt.k := (HK.out.mem kn).1 (by rw [← hkn]; simp [List.getD, List.getElem?_eq_getElem hlt])
       obtain ⟨p, hpL, hrun, hpf⟩ : ∃ p : Pt, p ∈ J.L ∧ (Instr.lookup 54 (.map (some gm)) (.int .i64 (kn : Int)) false).run Try.prog wr = .ok (entV p.f) wr ∧ lookD J.L kn = p.f := by
         rcases hJr.map.lookup kn false with ⟨j, p, hj, hp, hrun⟩ | ⟨hno, _⟩
         · have hk : p.k = kn := by omega
           exact ⟨p, List.mem_of_getElem? hj, hrun, by unfold lookD; rw [← hk, lookL_some hJr.map.nodup hj]; rfl⟩
         · obtain ⟨p, hp, e⟩ := List.mem_map.1 hmem
           exact absurd (by rw [e]) (hno p hp)
       have hpb := (HOK.out.puts p hpL).2.2
       have c3 := (hJr.row.cell 3).trans (rfl : _ = some (Value.map (some gm)))
       simp only [entV] at hrun
       have hi83 := i83 p.f
       have hz := z83s p.f
       have ho := one83 p.f
       have hCb : ∀ j, j < 256 → (byts p.f 256).toArray[0 + j]? = some (.int .u8 (p.f j)) := fun j hj => by rw [Nat.zero_add]; simpa using byts_at p.f 256 j hj
       generalize (byts p.f 256).toArray = C at *
       have hbA : Below wr.heap.size wr (wr.alloc (.cells C 83)).drew := ((Below.refl _ _).alloc (Nat.le_refl _) _).drew
       have hJd : Hid (JAt (wr.alloc (.cells C 83)).drew base gj gm gd J) := hJr.below hbA
       have hDd : DiskAt (wr.alloc (.cells C 83)).drew base gd g1 c1 g2 c2 evi (wrN D J.at' J.L K i) := hDi.out.below hbA (Nat.le_refl _)
       have hRC : Row (wr.alloc (.cells C 83)).drew wr.heap.size C 83 := Row.new wr C 83
       have hsA : base ≤ (wr.alloc (.cells C 83)).drew.heap.size := Nat.le_trans hsz hbA.size
       have HDT : Hid _ := data_any hJd.out (by omega) i (by omega)
       have hWr := write_okT hDd hsA (by rw [wrN_len]; omega) (J.at' + 1 + i) (by rw [wrN_s]; omega) wr.heap.size 0 256 p.f C 83 (by decide) hRC (by have := hDi.out.lt2; omega) hCb hpb
       rw [show ((J.at' + 1 + i : Nat) : Int) = (J.at' : Int) + 1 + i by omega] at hWr
       have HHW : Hid _ := hWr
       have HDd : Hid _ := hDd
       have HbA : Hid _ := hbA
       have HPF : Hid _ := hpf
       clear hWr hDd hRC hJr hbA hkn hmem hpf hpb hCb
       go_wp2_with (first
         | refine wpList_store_new rfl 83 _ _ rfl wr _ C 83 rfl wr.heap.size rfl rfl rfl hi83 hz ho ?_)
       clear hrun c3
       refine wp_region_permA [(false, 0), (false, 1), (false, 2), (false, 3), (false, 4), (false, 5), (false, 7), (true, 6), (true, 8)] (fun wx => Row wx gj #[.pointer (some ⟨gd, 0, none⟩), .int .i64 J.at', .int .i64 J.sec, .map (some gm)] 56) (by kernel_rfl) (by kernel_rfl) hJd.out.row ?_
       refine a_move (some 28) _ rfl rfl rfl (by rfl) ?_
       simp only [Act.put, List.setIfInBounds_toArray, List.set_cons_zero, List.set_cons_succ]
       refine a_value (some 29) ?_ rfl rfl (by rfl) (fun w hw => ?_) ?_
       rotate_left
       · go_simp
         with_reducible rfl
       simp only [Act.put, List.setIfInBounds_toArray, List.set_cons_zero, List.set_cons_succ]
       refine a_value (some 30) ?_ rfl rfl (by rfl) (fun w hw => ?_) ?_
       rotate_left
       · go_simp
         with_reducible rfl
       simp only [Act.put, List.setIfInBounds_toArray, List.set_cons_zero, List.set_cons_succ]
       refine a_value (some 31) ?_ rfl rfl (by rfl) (fun w hw => ?_) ?_
       rotate_left
       · have hc := (hw.cell 0).trans (rfl : _ = some (Value.pointer (some ⟨gd, 0, none⟩)))
         go_simp
         with_reducible rfl
       simp only [Act.put, List.setIfInBounds_toArray, List.set_cons_zero, List.set_cons_succ]
       refine a_move (some 32) _ rfl rfl rfl (by rfl) ?_
       simp only [Act.put, List.setIfInBounds_toArray, List.set_cons_zero, List.set_cons_succ]
       refine a_move (some 33) _ rfl rfl rfl (by rfl) ?_
       simp only [Act.put, List.setIfInBounds_toArray, List.set_cons_zero, List.set_cons_succ]
       refine a_value (some 35) ?_ rfl rfl (by rfl) (fun w hw => ?_) ?_
       rotate_left
       · go_simp
         with_reducible rfl
       simp only [Act.put, List.setIfInBounds_toArray, List.set_cons_zero, List.set_cons_succ]
       refine a_call (some 34) rfl rfl (by rfl) 40 #[.pointer (some ⟨gj, 0, none⟩), .int .i64 i] (by go_simp) (Calls.mono HDT.out fun e w' ⟨he, hw'⟩ => ⟨_, he, by rw [hw']; exact hJd.out.row, ?_⟩)
       subst hw'
       simp only [Act.put, List.setIfInBounds_toArray, List.set_cons_zero, List.set_cons_succ]
       refine a_call (some 36) rfl rfl (by rfl) 19 #[.pointer (some ⟨gd, 0, none⟩), .int .i64 (J.at' + 1 + i), .slice (some ⟨wr.heap.size, 0, none⟩) 256 256] (by go_simp) (Calls.mono HHW.out fun e w3 ⟨he, ev3, hD3, hc3⟩ => ⟨_, he, hJd.out.row.chg HDd.out hc3 (by decide) (by decide) (fun e => absurd e (by decide)), ?_⟩)
       have hD3' : Hid (DiskAt w3 base gd g1 c1 g2 c2 ev3 (wrN D J.at' J.L K (i + 1))) := by
         show DiskAt w3 base gd g1 c1 g2 c2 ev3 ((wrN D J.at' J.L K i).write (J.at' + 1 + i) (lookD J.L (K.getD i 0)))
         rw [show K.getD i 0 = kn from HKN.out, show lookD J.L kn = p.f from HPF.out]
         exact hD3
       have hF3 : Hid (Fr g2 w1 w3) := hFi.out.trans ((Fr.of_below HbA.out).trans (Fr.of_chg HDd.out hc3))
       have hB3 : Hid (Below base w1 w3) := hBi.out.trans ((HbA.out.mono hsz).trans (HDd.out.chg hc3 hsA))
       subst he
       clear hD3 hc3 HHW HDd HbA HDT hJd
       simp only [Act.put, List.setIfInBounds_toArray, List.set_cons_zero, List.set_cons_succ]
       refine a_done ?_
       try simp only [Exit.then]
       go_wp2
       go_roundw
       case rel => exact ⟨_, _, _, .int .i64 ((i : Int) + 1), ⟨i + 1, by omega, by go_num, ev3, hD3'⟩, rfl, rfl, rfl, rfl⟩
       case measure => simp [intOf]; omega
     · skip
       have hiK : i = K.length := by omega
       subst hiK
       have hJr := HJ1.out.fr hFi.out
       have c0 := (hJr.row.cell 0).trans (rfl : _ = some (Value.pointer (some ⟨gd, 0, none⟩)))
       have HFl := flush_ok hDi.out hsz (by rw [wrN_len]; omega)
       have HHF : Hid _ := HFl
       clear HFl hJr HKI HD1
       go_wp2_with fail
       refine Calls.mono HHF.out ?_
       rintro e w4 ⟨rfl, ev4, hD4, hc4⟩
       have hF4 : Fr g2 w1 w4 := hFi.out.trans (Fr.of_chg hDi.out hc4)
       have hB4 : Below base w1 w4 := hBi.out.trans (hDi.out.chg hc4 hsz)
       have hJ4 : Hid (JAt w4.drew base gj gm gd J) := (HJ1.out.fr hF4).below (Below.refl _ _).drew
       have hs4 : base ≤ w4.heap.size := Nat.le_trans hbase (Nat.le_trans hs1 hB4.size)
       have hN4 := (HN1.out.fr hF4).fr (Fr.of_below (g2 := g2) (w := w4) (w' := w4.drew) (Below.refl _ _).drew)
       have hHd := headerOf_ok hN4 hK30 (fun j => by
         by_cases hj : j < K.length
         · have hm : K.getD j 0 ∈ J.L.map Pt.k := (HK.out.mem _).1 (by simp [List.getD, List.getElem?_eq_getElem hj])
           obtain ⟨p, hp, e⟩ := List.mem_map.1 hm
           have := (HOK.out.puts p hp).1
           omega
         · simp [List.getD, List.getElem?_eq_none (Nat.le_of_not_lt hj)])
       have HHD : Hid _ := hHd
       have hDd4 := hD4.below (w' := w4.drew) (Below.refl _ _).drew (Nat.le_refl _)
       have HD4 : Hid _ := hDd4
       have HF4 : Hid _ := hF4
       have HB4 : Hid _ := hB4
       clear hD4 hDd4 hc4 hF4 hB4 hHd HHF c0 hN4
       go_wp2_with fail
       refine wp_region_mix [false, false, false, false, false, false, false, false, false, true, true] (fun wx => Row wx gj #[.pointer (some ⟨gd, 0, none⟩), .int .i64 J.at', .int .i64 J.sec, .map (some gm)] 56) (by kernel_rfl) (by kernel_rfl) hJ4.out.row ?_
       refine m_move _ rfl (by rfl) ?_
       simp only [Act.put, List.setIfInBounds_toArray, List.set_cons_zero, List.set_cons_succ]
       refine m_value ?_ (by rfl) (fun w hw => ?_) ?_
       rotate_left
       · go_simp
         with_reducible rfl
       simp only [Act.put, List.setIfInBounds_toArray, List.set_cons_zero, List.set_cons_succ]
       refine m_value ?_ (by rfl) (fun w hw => ?_) ?_
       rotate_left
       · go_simp
         with_reducible rfl
       simp only [Act.put, List.setIfInBounds_toArray, List.set_cons_zero, List.set_cons_succ]
       refine m_value ?_ (by rfl) (fun w hw => ?_) ?_
       rotate_left
       · have hc := (hw.cell 0).trans (rfl : _ = some (Value.pointer (some ⟨gd, 0, none⟩)))
         go_simp
         with_reducible rfl
       simp only [Act.put, List.setIfInBounds_toArray, List.set_cons_zero, List.set_cons_succ]
       refine m_move _ rfl (by rfl) ?_
       simp only [Act.put, List.setIfInBounds_toArray, List.set_cons_zero, List.set_cons_succ]
       refine m_value ?_ (by rfl) (fun w hw => ?_) ?_
       rotate_left
       · go_simp
         with_reducible rfl
       simp only [Act.put, List.setIfInBounds_toArray, List.set_cons_zero, List.set_cons_succ]
       refine m_value ?_ (by rfl) (fun w hw => ?_) ?_
       rotate_left
       · go_simp
         with_reducible rfl
       simp only [Act.put, List.setIfInBounds_toArray, List.set_cons_zero, List.set_cons_succ]
       refine m_value ?_ (by rfl) (fun w hw => ?_) ?_
       rotate_left
       · have hc := (hw.cell 1).trans (rfl : _ = some (Value.int .i64 (J.at' : Int)))
         go_simp
         with_reducible rfl
       simp only [Act.put, List.setIfInBounds_toArray, List.set_cons_zero, List.set_cons_succ]
       refine m_move _ rfl (by rfl) ?_
       simp only [Act.put, List.setIfInBounds_toArray, List.set_cons_zero, List.set_cons_succ]
       refine m_call (by rfl) 42 #[.slice (some ⟨b, 0, none⟩) K.length c] (by go_simp) (Calls.mono HHD.out fun e w5 ⟨he, hR5, hb5⟩ => ⟨_, he, hJ4.out.row.below hb5 hJ4.out.row.lt, ?_⟩)
       have hD5 := HD4.out.below hb5 (Nat.le_refl _)
       have hs5 : base ≤ w5.heap.size := Nat.le_trans hs4 hb5.size
       have hb45 : Below w4.heap.size w4 w5 := (Below.refl _ _).drew.trans hb5
       have hW5 := write_ok hD5 hs5 (by show ((wrN D J.at' J.L K K.length).E ++ [_]).length ≤ _; rw [List.length_append, wrN_len]; simp; omega) J.at' (by show J.at' < (wrN D J.at' J.L K K.length).s; rw [wrN_s]; omega) w4.drew.heap.size 0 256 (hdr K) _ hR5 (by have := HD4.out.lt2; omega) (fun j hj => by rw [Nat.zero_add]; simpa using byts_at (hdr K) 256 j hj) (hdr_bd K)
       have HW5 : Hid _ := hW5
       have HD5 : Hid _ := hD5
       have hJ5 : JAt w5 base gj gm gd J := hJ4.out.below hb5
       have HJ5 : Hid _ := hJ5
       have HB45 : Hid _ := hb45
       subst he
       clear hW5 hD5 hR5 hb5 hJ5 hb45 HHD
       simp only [Act.put, List.setIfInBounds_toArray, List.set_cons_zero, List.set_cons_succ]
       refine m_call (by rfl) 19 #[.pointer (some ⟨gd, 0, none⟩), .int .i64 J.at', .slice (some ⟨w4.drew.heap.size, 0, none⟩) 256 256] (by go_simp) (Calls.mono HW5.out fun e w6 ⟨he, ev6, hD6, hc6⟩ => ⟨_, he, HJ5.out.row.chg HD5.out hc6 (by decide) (by decide) (fun e => absurd e (by decide)), ?_⟩)
       have hF6 : Hid (Fr g2 w1 w6) := HF4.out.trans ((Fr.of_below HB45.out).trans (Fr.of_chg HD5.out hc6))
       have hB6 : Hid (Below base w1 w6) := HB4.out.trans ((HB45.out.mono hs4).trans (HD5.out.chg hc6 hs5))
       have hJ6 := HJ1.out.fr hF6.out
       have c06 := (hJ6.row.cell 0).trans (rfl : _ = some (Value.pointer (some ⟨gd, 0, none⟩)))
       have hs6 : base ≤ w6.heap.size := Nat.le_trans hbase (Nat.le_trans hs1 hB6.out.size)
       have hFl6 := flush_ok hD6 hs6 (by show ((wrN D J.at' J.L K K.length).E ++ [_] ++ [_]).length ≤ _; rw [List.length_append, List.length_append, wrN_len]; simp; omega)
       have HFl6 : Hid _ := hFl6
       have HD6 : Hid _ := hD6
       subst he
       clear hFl6 hD6 hc6 hJ6 HW5 HD5 HB45 HF4 HB4 hJ4
       simp only [Act.put, List.setIfInBounds_toArray, List.set_cons_zero, List.set_cons_succ]
       refine m_done ?_
       try simp only [Exit.then]
       go_wp2_with fail
       refine Calls.mono HFl6.out ?_
       rintro e w7 ⟨rfl, ev7, hD7, hc7⟩
       have hF7 : Fr g2 w1 w7 := hF6.out.trans (Fr.of_chg HD6.out hc7)
       have hB7 : Below base w1 w7 := hB6.out.trans (HD6.out.chg hc7 hs6)
       have hs7 : base ≤ w7.heap.size := Nat.le_trans hbase (Nat.le_trans hs1 hB7.size)
       have hDo := do_ok hD7 hs7 (by show (hdD D J.at' J.L K).E.length ≤ _; rw [hdD_len]; omega) (HJ1.out.fr hF7) (by show J.at' + J.sec ≤ (wrN D J.at' J.L K K.length).s; rw [wrN_s]; omega) (HN1.out.fr hF7) hKsec hsh (fun j hj => by
         show K.getD j 0 < (wrN D J.at' J.L K K.length).s
         rw [wrN_s]
         have hm : K.getD j 0 ∈ J.L.map Pt.k := (HK.out.mem _).1 (by simp [List.getD, List.getElem?_eq_getElem hj])
         obtain ⟨p, hp, e⟩ := List.mem_map.1 hm
         rw [← e]
         exact (HOK.out.puts p hp).1)
       have HDo : Hid _ := hDo
       have HF7 : Hid _ := hF7
       have HB7 : Hid _ := hB7
       clear hDo hD7 hc7 hF7 hB7 HFl6 HD6 c06 hF6 hB6
       go_wp2_with fail
       refine Calls.mono HDo.out ?_
       rintro e w8 ⟨⟨r, rfl⟩, ev8, hD8, hF8, hB8⟩
       have hJ8 := HJ1.out.fr (HF7.out.trans hF8)
       have c38 := (hJ8.row.cell 3).trans (rfl : _ = some (Value.map (some gm)))
       obtain ⟨w9, hcl, hM9, hO9⟩ := hJ8.map.clear 0
       have hJ9 : JAt w9 base gj gm gd { J with L := [] } := ⟨(hO9.block gj (hJ8.map.row_ne hJ8.row).symm).trans hJ8.row, hM9, hJ8.geJ, hJ8.geM⟩
       have hD9 := hD8.one hJ8.map hO9
       have hB9 : Below base w w9 := hbw.trans (HB7.out.trans (hB8.trans (hO9.below hJ8.geM)))
       have HJ9 : Hid _ := hJ9
       have HD9 : Hid _ := hD9
       have HB9 : Hid _ := hB9
       clear hJ8 hM9 hO9 hJ9 hD9 hB9 hD8 hF8 hB8 HDo HF7 HB7
       go_wp2
       go_ret
       exact ⟨rfl, K, HK.out, .inr ⟨hKne, ev8, HD9.out, HJ9.out, HB9.out⟩⟩
end Go.Proofs.Ytlbapnecmhlgmaa
namespace Go.Proofs.Ytlbapnecmhlgmaa
open Go.RowKit

def s8 (f : Nat → Int) : ByteArray := strOfNums ((List.range 8).map f)
theorem conv8 (w : World) (b cap : Nat) (f : Nat → Int) (h : ∀ i, i < 8 → w.cell? ⟨b, i, none⟩ = some (.int .u8 (f i))) : (convert 40 9 (.slice (some ⟨b, 0, none⟩) 8 cap)).run Try.prog w = .ok (.string (s8 f)) w := by
  refine run_convert_bytes_arg (P := Try.prog) w 40 5 Try.underlying40 Try.underlying5 b 0 8 cap ((List.range 8).map f) (by simp) (fun i hi => ?_) 9 Try.underlying9
  rw [Nat.zero_add, h i hi]
  simp [List.getD, hi]
/-- Bytes that do not begin with the mark. -/
def unmarked (f : Nat → Int) : Prop := ((s8 f).toList == [115, 116, 105, 108, 108, 119, 97, 108]) = false
theorem unmarked_zero (f : Nat → Int) (h : ∀ i, i < 8 → f i = 0) : unmarked f := by
  unfold unmarked s8
  rw [show (List.range 8).map f = [0, 0, 0, 0, 0, 0, 0, 0] by simp [List.range, List.range.loop, h]]
  kernel_rfl

set_option maxRecDepth 20000 in
theorem look_no (j : Value) (b c : Nat) (f : Nat → Int) (w : World) (hc : 256 ≤ c) (hc2 : c ≤ maxLen) (hcell : ∀ i, i < 256 → w.cell? ⟨b, i, none⟩ = some (.int .u8 (f i))) (hne : unmarked f) :
    Calls Try.prog 31 #[j, .slice (some ⟨b, 0, none⟩) 256 c] w fun e w' => e = .returned (.tuple #[.slice none 0 0, .bool false]) ∧ w' = w := by
  unfold maxLen at hc2
  have hcv := fun cap => conv8 w b cap f (fun i hi => hcell i (by omega))
  unfold unmarked at hne
  obtain ⟨S, hS⟩ : ∃ S, s8 f = S := ⟨_, rfl⟩
  simp only [hS] at hcv hne
  clear hcell hS
  go_enter Try.func31, Try.ntmps31
  go_wp2
  go_step3
  go_wp2
  (try rw [Exit.noGoto_ret])
  go_ret2
  exact ⟨rfl, rfl⟩

set_option maxRecDepth 20000 in
set_option maxHeartbeats 2000000 in
theorem open_new {w : World} {base g1 c1 g2 c2 gd : Nat} {ev : Value} {D : Dk} (hD : DiskAt w base gd g1 c1 g2 c2 ev D) (at' sec : Nat) (h2 : 2 ≤ sec) (h31 : sec ≤ 31) (hfit : at' + sec ≤ D.s) (hne : unmarked (secF D.B at')) :
    Calls Try.prog 10 #[.pointer (some ⟨gd, 0, none⟩), .int .i64 at', .int .i64 sec] w fun e w' => ∃ gj gm, e = .returned (.tuple #[.pointer (some ⟨gj, 0, none⟩), .int .i64 0]) ∧ JAt w' w.heap.size gj gm gd ⟨at', sec, []⟩ ∧ Below w.heap.size w w' := by
  have hlo := hD.ok.lo
  have hhi := hD.ok.hi
  have H1 := sectors_yes gd g2 D.s c2 w hD.cell1 hlo hhi
  have hbM : Below w.heap.size w (w.alloc (.map #[] 0)) := (Below.refl _ _).alloc (Nat.le_refl _) _
  have hbJ : Below w.heap.size w ((w.alloc (.map #[] 0)).alloc (.cells #[.pointer (some ⟨gd, 0, none⟩), .int .i64 at', .int .i64 sec, .map (some w.heap.size)] 56)) := hbM.alloc hbM.size _
  have hJ : JAt ((w.alloc (.map #[] 0)).alloc (.cells #[.pointer (some ⟨gd, 0, none⟩), .int .i64 at', .int .i64 sec, .map (some w.heap.size)] 56)) w.heap.size (w.heap.size + 1) w.heap.size gd ⟨at', sec, []⟩ := by
    refine ⟨?_, (MapAt.made w).below ((Below.refl _ _).alloc (Nat.le_refl _) _), by omega, Nat.le_refl _⟩
    have h := Row.new (w.alloc (.map #[] 0)) #[.pointer (some ⟨gd, 0, none⟩), .int .i64 at', .int .i64 sec, .map (some w.heap.size)] 56
    rw [World.size_alloc] at h
    exact h
  have hDJ := hD.below hbJ (Nat.le_refl _)
  have HR := read_ok hDJ at' (by omega)
  have hW2 : ∀ W : World, Row (W.alloc (.cells (byts (fun i => D.B (at' * 256 + i)) 256).toArray 5)) W.heap.size (byts (fun i => D.B (at' * 256 + i)) 256).toArray 5 := fun W => Row.new W _ 5
  have HL := fun W : World => look_no (.pointer (some ⟨w.heap.size + 1, 0, none⟩)) W.heap.size 256 (secF D.B at') (W.alloc (.cells (byts (fun i => D.B (at' * 256 + i)) 256).toArray 5)) (Nat.le_refl _) (by decide) (fun i hi => by
    rw [(hW2 W).cell i]
    show _ = some (Value.int .u8 (D.B (at' * 256 + i)))
    simpa using byts_at (fun i => D.B (at' * 256 + i)) 256 i hi) hne
  generalize (byts (fun i => D.B (at' * 256 + i)) 256).toArray = C at *
  have HHR : Hid _ := HR
  have HHL : Hid _ := HL
  have HJ : Hid _ := hJ
  have HB : Hid _ := hbJ
  have hmm : ∀ w : World, (Instr.makeMap 54 none).run Try.prog w = .ok (.map (some w.heap.size)) (w.alloc (.map #[] 0)) := fun _ => rfl
  have h1 : ¬ (D.s : Int) = 0 := by omega
  have h3 : ¬ (sec : Int) < 2 := by omega
  have h4 : ¬ (31 : Int) < sec := by omega
  have h5 : ¬ ((D.s : Int) - sec < at') := by omega
  clear hD hDJ HR HL hJ hbJ hbM hW2 hne
  go_enter Try.func10, Try.ntmps10
  go_wp2_with fail
  refine H1.mono ?_
  rintro e w' ⟨rfl, hw'⟩
  subst w'
  go_wp2_with fail
  refine H1.mono ?_
  rintro e w' ⟨rfl, hw'⟩
  subst w'
  clear H1
  go_wp2_with fail
  refine Calls.mono HHR.out ?_
  rintro e w' ⟨rfl, hw'⟩
  subst w'
  generalize (w.alloc (.map #[] 0)).alloc (.cells #[.pointer (some ⟨gd, 0, none⟩), .int .i64 at', .int .i64 sec, .map (some w.heap.size)] 56) = wJ at *
  go_wp2_with fail
  refine Calls.mono (HHL.out wJ) ?_
  rintro e w' ⟨rfl, hw'⟩
  subst w'
  have hJ2 : Hid (JAt (wJ.alloc (.cells C 5)) w.heap.size (w.heap.size + 1) w.heap.size gd ⟨at', sec, []⟩) := HJ.out.below ((Below.refl _ _).alloc (Nat.le_refl _) _)
  have hB2 : Hid (Below w.heap.size w (wJ.alloc (.cells C 5))) := HB.out.alloc HB.out.size _
  clear HHR HHL HJ HB
  go_wp2
  go_ret2
  exact ⟨_, _, rfl, hJ2.out, hB2.out⟩
end Go.Proofs.Ytlbapnecmhlgmaa
namespace Go.Proofs.Ytlbapnecmhlgmaa
open Go.RowKit

theorem word_bd (f : Nat → Int) (hf : ∀ i, 0 ≤ f i ∧ f i < 256) (i : Nat) : 0 ≤ word f i ∧ word f i < 18446744073709551616 := by
  have h := num_bd (fun j => f (i * 8 + j)) (fun j => hf _) 8
  have e : (256 : Int) ^ 8 = 18446744073709551616 := by decide
  rw [e] at h
  exact h
/-- The first k numbers of a header. -/
def wordsL (f : Nat → Int) (k : Nat) : List Nat := (List.range k).map fun i => (word f (2 + i)).toNat
theorem wordsL_len (f : Nat → Int) (k : Nat) : (wordsL f k).length = k := by simp [wordsL]
theorem wordsL_succ (f : Nat → Int) (k : Nat) : wordsL f (k + 1) = wordsL f k ++ [(word f (2 + k)).toNat] := by simp [wordsL, List.range_succ]
theorem wordsL_at (f : Nat → Int) (k i : Nat) (h : i < k) : (wordsL f k).getD i 0 = (word f (2 + i)).toNat := by simp [wordsL, List.getD, h]
/-- The i-th number may be. -/
def okW (f : Nat → Int) (s at' sec i : Nat) : Prop := word f (2 + i) < s ∧ (word f (2 + i) < at' ∨ (at' : Int) + sec ≤ word f (2 + i)) ∧ (0 < i → word f (2 + (i - 1)) < word f (2 + i))
/-- A header that stands, with so many numbers. -/
structure Stands (f : Nat → Int) (s at' sec cnt : Nat) : Prop where
  mark : unmarked f → False
  count : word f 1 = cnt
  lo : 1 ≤ cnt
  hi : cnt + 1 ≤ sec
  ok : ∀ i, i < cnt → okW f s at' sec i

set_option maxRecDepth 20000 in
set_option maxHeartbeats 4000000 in
/-- A header with the mark and a count that may be: its numbers, up to the first that may not be. -/
theorem look_go {w : World} {b0 g1 c1 g2 c2 gd : Nat} {ev : Value} {D : Dk} {jb gj gm : Nat} {J : Jn} (hD : DiskAt w b0 gd g1 c1 g2 c2 ev D) (hJ : JAt w jb gj gm gd J) (hs : J.at' + J.sec ≤ D.s) (h31 : J.sec ≤ 31) (b c : Nat) (f : Nat → Int) (hc : 256 ≤ c) (hc2 : c ≤ maxLen) (C : Array Value) (hR : Row w b C 5) (hC : ∀ i, i < 256 → C[i]? = some (.int .u8 (f i))) (hf : ∀ i, 0 ≤ f i ∧ f i < 256)
    (hm : ((s8 f).toList == [115, 116, 105, 108, 108, 119, 97, 108]) = true) (cnt : Nat) (hcnt : word f 1 = cnt) (hlo : 1 ≤ cnt) (hhi : cnt + 1 ≤ J.sec) :
    Calls Try.prog 31 #[.pointer (some ⟨gj, 0, none⟩), .slice (some ⟨b, 0, none⟩) 256 c] w fun e w' => ∃ k v, e = .returned (.tuple #[v, .bool (decide (k = cnt))]) ∧ k ≤ cnt ∧ (∀ i, i < k → okW f D.s J.at' J.sec i) ∧ (k < cnt → ¬ okW f D.s J.at' J.sec k) ∧ NumsAt w' w.heap.size v (wordsL f k) ∧ Below w.heap.size w w' := by
  have hDh := hD.ok.hi
  have hDl := hD.ok.lo
  have hcv := fun cap => conv8 w b cap f (fun i hi => by rw [hR.cell i]; exact hC i (by omega))
  obtain ⟨S, hS⟩ : ∃ S, s8 f = S := ⟨_, rfl⟩
  simp only [hS] at hcv hm
  have HW1 := wordOf_any b c 1 f w (by omega) hc hc2 (fun i hi => by rw [hR.cell i]; exact hC i hi) hf
  rw [hcnt, show ((1 : Nat) : Int) = 1 from rfl] at HW1
  have HM := most_yes hD hJ h31
  have HWn : Hid (∀ wx, Below w.heap.size w wx → ∀ i : Nat, i ≤ 29 → Calls Try.prog 56 #[.slice (some ⟨b, 0, none⟩) 256 c, .int .i64 (2 + (i : Int))] wx fun e w' => e = .returned (.int .u64 (word f (2 + i))) ∧ w' = wx) := fun wx hb i hi => by
    have hRx := hR.below hb hR.lt
    have h := wordOf_any b c (2 + i) f wx (by omega) hc hc2 (fun j hj => by rw [hRx.cell j]; exact hC j hj) hf
    rwa [show ((2 + i : Nat) : Int) = 2 + (i : Int) by omega] at h
  have HBD : Hid (∀ i, 0 ≤ word f i ∧ word f i < 18446744073709551616) := word_bd f hf
  unfold maxLen at hc2
  have HHW : Hid _ := HW1
  have HHM : Hid _ := HM
  have HD : Hid _ := hD
  have HJ : Hid _ := hJ
  have hcw : IntKind.u64.wrap ((J.sec : Int) - 1) = (J.sec : Int) - 1 := by rw [IntKind.wrap_u64]; omega
  have hci : IntKind.i64.wrap (cnt : Int) = cnt := by rw [IntKind.wrap_i64]; omega
  have hl1 : ¬ (cnt : Int) < 1 := by omega
  have hl2 : ¬ ((J.sec : Int) - 1 < cnt) := by omega
  have hfq := hf
  clear hS hR hC HW1 HM hD hJ hcnt hf
  go_enter Try.func31, Try.ntmps31
  go_wp2
  go_step3
  go_wp2_with fail
  refine Calls.mono HHW.out ?_
  rintro e w' ⟨rfl, hw'⟩
  subst w'
  go_wp2_with fail
  refine Calls.mono HHM.out ?_
  rintro e w' ⟨rfl, hw'⟩
  subst w'
  clear HHW HHM hcv
  go_wp2
  go_step3
  go_wp2
  go_loopw [4, 26] (fun nv iv wx => ∃ i : Nat, i ≤ cnt ∧ iv = .int .i64 i ∧ Hid (∀ q, q < i → okW f D.s J.at' J.sec q) ∧ Hid (wx.ownsRow w.heap.size 3 1 nv (wordsL f i).length ((wordsL f i).map fun k => Value.int .i64 (k : Nat))) ∧ Hid (Below w.heap.size w wx)) (fun _ iv _ => cnt - (intOf iv).toNat)
  case atStart => exact ⟨0, Nat.zero_le _, rfl, (fun q h => absurd h (Nat.not_lt_zero q)), World.ownsRow_nil _ _ _ _, Below.refl _ _⟩
  case round =>
    obtain ⟨i, hi, rfl, hOk, hOw, hB⟩ := hrel
    have hsz := hB.out.size
    have hNums : Hid (NumsAt wr w.heap.size u4 (wordsL f i)) := by
      rcases own_ints hOw.out with ⟨h1, h2⟩ | ⟨b', c', h1, h2, h3⟩
      · exact ⟨none, 0, by rw [h1, h2]; rfl, fun h => absurd h (by rw [h2]; simp)⟩
      · exact ⟨_, c', h1, fun _ => ⟨b', rfl, h2, h3⟩⟩
    obtain ⟨ua, uc, hu⟩ : ∃ ua uc, u4 = .slice ua i uc := by
      rcases own_ints hOw.out with ⟨h1, h2⟩ | ⟨b', c', h1, h2, h3⟩
      · have : i = 0 := by rw [← wordsL_len f i, h2]; rfl
        subst this
        exact ⟨none, 0, h1⟩
      · exact ⟨_, c', by rw [h1, wordsL_len]⟩
    by_cases hlt : i < cnt
    · have hWi := HWn.out wr hB.out i (by omega)
      have hSe := sectors_yes gd g2 D.s c2 wr (HD.out.below hB.out (Nat.le_refl _)).cell1 hDl hDh
      have hJr := HJ.out.below hB.out
      have c0 := (hJr.row.cell 0).trans (rfl : _ = some (Value.pointer (some ⟨gd, 0, none⟩)))
      have hwb := HBD.out (2 + i)
      obtain ⟨wi, hwi⟩ : ∃ wi, word f (2 + i) = wi := ⟨_, rfl⟩
      rw [hwi] at hWi hwb
      have HWI : Hid _ := hwi
      have hsu : IntKind.u64.wrap (D.s : Int) = D.s := by rw [IntKind.wrap_u64]; omega
      have HWi : Hid _ := hWi
      have HSe : Hid _ := hSe
      have HJr : Hid _ := hJr
      clear hWi hSe hJr hwi
      by_cases hge : (D.s : Int) ≤ wi
      · skip
        subst hu
        go_wp2_with fail
        refine Calls.mono HWi.out ?_
        rintro e w' ⟨rfl, hw'⟩
        subst w'
        go_wp2_with fail
        refine Calls.mono HSe.out ?_
        rintro e w' ⟨rfl, hw'⟩
        subst w'
        have hne : ((i : Int) == (cnt : Int)) = false := by rw [beq_eq_false_iff_ne]; omega
        have hnek : ¬ okW f D.s J.at' J.sec i := fun h => by have := h.1; rw [show word f (2 + i) = wi from HWI.out] at this; omega
        clear HWi HSe c0
        go_wp2
        (try rw [Exit.noGoto_ret])
        go_ret2
        exact ⟨i, .slice ua i uc, by rw [show decide (i = cnt) = false from decide_eq_false (by omega)]; rfl, hi, hOk.out, fun _ => hnek, hNums.out, hB.out⟩
      · have hwl : wi < D.s := by omega
        have hwc : IntKind.i64.wrap wi = wi := by rw [IntKind.wrap_i64]; omega
        have hOwn := owns_any HJr.out (by omega) wi
        by_cases hown : (J.at' : Int) ≤ wi ∧ wi < (J.at' : Int) + J.sec
        · skip
          rw [show decide ((J.at' : Int) ≤ wi ∧ wi < (J.at' : Int) + J.sec) = true from decide_eq_true hown] at hOwn
          have HOwn : Hid _ := hOwn
          clear hOwn
          subst hu
          go_wp2_with fail
          refine Calls.mono HWi.out ?_
          rintro e w' ⟨rfl, hw'⟩
          subst w'
          go_wp2_with fail
          refine Calls.mono HSe.out ?_
          rintro e w' ⟨rfl, hw'⟩
          subst w'
          go_wp2_with fail
          refine Calls.mono HOwn.out ?_
          rintro e w' ⟨rfl, hw'⟩
          subst w'
          have hne : ((i : Int) == (cnt : Int)) = false := by rw [beq_eq_false_iff_ne]; omega
          have hnek : ¬ okW f D.s J.at' J.sec i := fun h => by have := h.2.1; rw [show word f (2 + i) = wi from HWI.out] at this; omega
          have hN2 : Hid (NumsAt wr.drew w.heap.size (.slice ua i uc) (wordsL f i)) := hNums.out.fr (Fr.of_below (g2 := g2) (Below.refl wr.heap.size wr).drew)
          have hB2 : Hid (Below w.heap.size w wr.drew) := hB.out.drew
          clear HWi HSe HOwn c0
          go_wp2
          (try rw [Exit.noGoto_ret])
          go_ret2
          exact ⟨i, .slice ua i uc, by rw [show decide (i = cnt) = false from decide_eq_false (by omega)]; rfl, hi, hOk.out, fun _ => hnek, hN2.out, hB2.out⟩
        · skip
          rw [show decide ((J.at' : Int) ≤ wi ∧ wi < (J.at' : Int) + J.sec) = false from decide_eq_false hown] at hOwn
          have HOwn : Hid _ := hOwn
          clear hOwn
          obtain ⟨wn, rfl⟩ : ∃ wn : Nat, wi = (wn : Int) := ⟨wi.toNat, by omega⟩
          have hokA : word f (2 + i) < D.s ∧ (word f (2 + i) < J.at' ∨ (J.at' : Int) + J.sec ≤ word f (2 + i)) := by rw [show word f (2 + i) = (wn : Int) from HWI.out]; omega
          have hwsu : Hid (wordsL f (i + 1) = wordsL f i ++ [wn]) := by show _ = _; rw [wordsL_succ, show word f (2 + i) = (wn : Int) from HWI.out]; rfl
          have hOD : Hid (wr.drew.ownsRow w.heap.size 3 1 u4 (wordsL f i).length ((wordsL f i).map fun k => Value.int .i64 (k : Nat))) := ownsRow_below hOw.out (Below.refl wr.heap.size wr).drew
          have hwl1000 : (wordsL f i).length ≤ 1000 := by rw [wordsL_len]; omega
          have hBd : Hid (Below w.heap.size w wr.drew) := hB.out.drew
          have hszd : w.heap.size ≤ wr.drew.heap.size := hsz
          by_cases hbad : 0 < i ∧ (wn : Int) ≤ word f (2 + (i - 1))
          · skip
            obtain ⟨k, rfl⟩ : ∃ k, i = k + 1 := ⟨i - 1, by omega⟩
            obtain ⟨b', c', hu2, hb2, hI2⟩ : ∃ b' c', u4 = .slice (some ⟨b', 0, none⟩) (k + 1) c' ∧ w.heap.size ≤ b' ∧ Ints wr b' (k + 1) (fun q => ((wordsL f (k + 1)).getD q 0 : Nat)) := by
              rcases own_ints hOw.out with ⟨_, h2⟩ | ⟨b', c', h1, h2, h3⟩
              · have := wordsL_len f (k + 1); rw [h2] at this; simp at this
              · rw [wordsL_len] at h1 h3; exact ⟨b', c', h1, h2, h3⟩
            have ck := (hI2.keep (w' := wr.drew) rfl).cell k (by omega)
            rw [wordsL_at f (k + 1) k (by omega)] at ck
            have hpb := HBD.out (2 + k)
            have hbad2 : (wn : Int) ≤ ((word f (2 + k)).toNat : Int) := by have := hbad.2; rw [Nat.add_sub_cancel] at this; omega
            generalize (word f (2 + k)).toNat = pk at *
            subst hu2
            have hne : ((k : Int) + 1 == (cnt : Int)) = false := by rw [beq_eq_false_iff_ne]; omega
            have hkI : (k : Int) < (k : Int) + 1 := by omega
            have hwk : IntKind.i64.wrap (k : Int) = k := by rw [IntKind.wrap_i64]; omega
            have hk0 : (0 : Int) < (k : Int) + 1 := by omega
            have hk0' : (0 : Int) ≤ (k : Int) := by omega
            have hnek : ¬ okW f D.s J.at' J.sec (k + 1) := fun h => by have := h.2.2 (by omega); rw [show word f (2 + (k + 1)) = (wn : Int) from HWI.out] at this; have := hbad.2; omega
            have hN2 : Hid (NumsAt wr.drew w.heap.size (.slice (some ⟨b', 0, none⟩) (k + 1) c') (wordsL f (k + 1))) := hNums.out.fr (Fr.of_below (g2 := g2) (Below.refl wr.heap.size wr).drew)
            clear hu hOD hwsu hI2
            go_wp2_with fail
            refine Calls.mono HWi.out ?_
            rintro e w' ⟨rfl, hw'⟩
            subst w'
            go_wp2_with fail
            refine Calls.mono HSe.out ?_
            rintro e w' ⟨rfl, hw'⟩
            subst w'
            go_wp2_with fail
            refine Calls.mono HOwn.out ?_
            rintro e w' ⟨rfl, hw'⟩
            subst w'
            clear HWi HSe HOwn c0
            go_wp2
            (try rw [Exit.noGoto_ret])
            go_ret2
            exact ⟨k + 1, .slice (some ⟨b', 0, none⟩) (k + 1) c', by rw [show decide (k + 1 = cnt) = false from decide_eq_false (by omega)]; rfl, hi, hOk.out, fun _ => hnek, hN2.out, hBd.out⟩
          · skip
            have hokI : okW f D.s J.at' J.sec i := ⟨hokA.1, hokA.2, fun h0 => by
              rw [show word f (2 + i) = (wn : Int) from HWI.out]
              rcases Int.lt_or_le (word f (2 + (i - 1))) (wn : Int) with h | h
              · exact h
              · exact absurd ⟨h0, h⟩ hbad⟩
            have hOk2 : Hid (∀ q, q < i + 1 → okW f D.s J.at' J.sec q) := fun q hq => by
              by_cases e : q = i
              · subst e; exact hokI
              · exact hOk.out q (by omega)
            clear hokI hokA
            cases i with
            | zero =>
              subst hu
              go_wp2_with fail
              refine Calls.mono HWi.out ?_
              rintro e w' ⟨rfl, hw'⟩
              subst w'
              go_wp2_with fail
              refine Calls.mono HSe.out ?_
              rintro e w' ⟨rfl, hw'⟩
              subst w'
              go_wp2_with fail
              refine Calls.mono HOwn.out ?_
              rintro e w' ⟨rfl, hw'⟩
              subst w'
              clear HWi HSe HOwn c0
              generalize wr.drew = wD at *
              go_wp2_with (at_builtin; refine wpList_num rfl _ _ rfl w.heap.size (.slice ua 0 uc) (wordsL f 0) wn wD rfl rfl hOD wD.heap.size rfl rfl hwl1000 hszd ?_)
              intro v' w3 own3 grow3
              have hO1 : (wD.alloc (.cells #[.int .i64 (wn : Int)] 3)).ownsRow w.heap.size 3 1 (.slice ua 0 uc) (wordsL f 0).length ((wordsL f 0).map fun k => Value.int .i64 (k : Nat)) := World.ownsRow.alloc (show wD.ownsRow _ 3 1 _ _ _ from hOD) _
              have hB3 : Hid (Below w.heap.size w w3) := own_grown hO1 (hBd.out.alloc hszd _) (by simp; omega) grow3
              have hOw3 : Hid (w3.ownsRow w.heap.size 3 1 v' (wordsL f (0 + 1)).length ((wordsL f (0 + 1)).map fun k => Value.int .i64 (k : Nat))) := by
                show World.ownsRow _ _ _ _ _ _ _
                rw [show wordsL f (0 + 1) = _ from hwsu.out]
                simpa using own3.out
              clear own3 grow3 hO1 hOD hwsu
              go_wp2
              go_roundw
              case rel => exact ⟨0 + 1, by omega, by go_num, hOk2, hOw3, hB3⟩
              case measure => simp [intOf]; omega
            | succ k =>
              obtain ⟨b', c', hu2, hb2, hI2⟩ : ∃ b' c', u4 = .slice (some ⟨b', 0, none⟩) (k + 1) c' ∧ w.heap.size ≤ b' ∧ Ints wr b' (k + 1) (fun q => ((wordsL f (k + 1)).getD q 0 : Nat)) := by
                rcases own_ints hOw.out with ⟨_, h2⟩ | ⟨b', c', h1, h2, h3⟩
                · have := wordsL_len f (k + 1); rw [h2] at this; simp at this
                · rw [wordsL_len] at h1 h3; exact ⟨b', c', h1, h2, h3⟩
              have ck := (hI2.keep (w' := wr.drew) rfl).cell k (by omega)
              rw [wordsL_at f (k + 1) k (by omega)] at ck
              have hpb := HBD.out (2 + k)
              have hgood2 : ¬ (wn : Int) ≤ ((word f (2 + k)).toNat : Int) := fun h => hbad ⟨by omega, by rw [Nat.add_sub_cancel]; omega⟩
              generalize (word f (2 + k)).toNat = pk at *
              subst hu2
              have hkI : (k : Int) < (k : Int) + 1 := by omega
              have hwk : IntKind.i64.wrap (k : Int) = k := by rw [IntKind.wrap_i64]; omega
              have hk0 : (0 : Int) < (k : Int) + 1 := by omega
              have hk0' : (0 : Int) ≤ (k : Int) := by omega
              clear hu hI2 hbad
              go_wp2_with fail
              refine Calls.mono HWi.out ?_
              rintro e w' ⟨rfl, hw'⟩
              subst w'
              go_wp2_with fail
              refine Calls.mono HSe.out ?_
              rintro e w' ⟨rfl, hw'⟩
              subst w'
              go_wp2_with fail
              refine Calls.mono HOwn.out ?_
              rintro e w' ⟨rfl, hw'⟩
              subst w'
              clear HWi HSe HOwn c0
              generalize wr.drew = wD at *
              go_wp2_with (at_builtin; refine wpList_num rfl _ _ rfl w.heap.size (.slice (some ⟨b', 0, none⟩) (k + 1) c') (wordsL f (k + 1)) wn wD rfl rfl hOD wD.heap.size rfl rfl hwl1000 hszd ?_)
              intro v' w3 own3 grow3
              have hO1 : (wD.alloc (.cells #[.int .i64 (wn : Int)] 3)).ownsRow w.heap.size 3 1 (.slice (some ⟨b', 0, none⟩) (k + 1) c') (wordsL f (k + 1)).length ((wordsL f (k + 1)).map fun k => Value.int .i64 (k : Nat)) := World.ownsRow.alloc (show wD.ownsRow _ 3 1 _ _ _ from hOD) _
              have hB3 : Hid (Below w.heap.size w w3) := own_grown hO1 (hBd.out.alloc hszd _) (by simp; omega) grow3
              have hOw3 : Hid (w3.ownsRow w.heap.size 3 1 v' (wordsL f ((k + 1) + 1)).length ((wordsL f ((k + 1) + 1)).map fun k => Value.int .i64 (k : Nat))) := by
                show World.ownsRow _ _ _ _ _ _ _
                rw [show wordsL f ((k + 1) + 1) = _ from hwsu.out]
                simpa using own3.out
              clear own3 grow3 hO1 hOD hwsu
              go_wp2
              go_roundw
              case rel => exact ⟨(k + 1) + 1, by omega, by go_num, hOk2, hOw3, hB3⟩
              case measure => simp [intOf]; omega
    · skip
      have hic : i = cnt := by omega
      subst hic
      subst hu
      go_wp2
      (try rw [Exit.noGoto_ret])
      go_ret2
      exact ⟨i, .slice ua i uc, by simp, hi, hOk.out, fun h => absurd h (Nat.lt_irrefl _), hNums.out, hB.out⟩
end Go.Proofs.Ytlbapnecmhlgmaa
