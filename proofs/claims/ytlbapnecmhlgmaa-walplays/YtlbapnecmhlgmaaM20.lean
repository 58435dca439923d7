/- The walk of Commit once more: rows of other kinds stay. The walk of the law WalShows. -/
import Derived.Test.YtlbapnecmhlgmaaM19
import Derived.Test.YtlbapnecmhlgmaaM17
import Derived.Deep.DeepCutAuto
namespace Go.Proofs.Ytlbapnecmhlgmaa
open Go.RowKit

set_option maxRecDepth 20000 in
set_option maxHeartbeats 8000000 in
theorem commit_ro {w : World} {base g1 c1 g2 c2 gd : Nat} {ev : Value} {D : Dk} {gj gm : Nat} {J : Jn} (hD : DiskAt w base gd g1 c1 g2 c2 ev D) (hbase : base ≤ w.heap.size) (hlen : D.E.length ≤ 400000) (hJ : JAt w base gj gm gd J) (hok : J.ok D.s) (h12 : J.L.length ≤ 12) :
    Calls Try.prog 15 #[.pointer (some ⟨gj, 0, none⟩)] w fun e w' => e = .returned (.int .i64 0) ∧ ∃ K, KeysOf J.L K ∧ ((K = [] ∧ Below w.heap.size w w') ∨
      (K ≠ [] ∧ ∃ ev', DiskAt w' base gd g1 c1 g2 c2 ev' (comD D J.at' J.L K) ∧ JAt w' base gj gm gd { J with L := [] } ∧ Below base w w' ∧ Ro w w')) := by
  have H1 := jmade_yes hD hJ
  have HP := pending_ok hD hJ h12
  have hsl := hok.lo
  have hsh := hok.hi
  have hfi := hok.fits
  have hfew := hok.few
  have hDh := hD.ok.hi
  have HD : Hid _ := hD
  have HJ : Hid _ := hJ
  have HOK : Hid _ := hok
  clear hD hJ hok
  go_enter Try.func15, Try.ntmps15
  go_wp2_with fail
  refine H1.mono ?_
  rintro e w' ⟨rfl, hw'⟩
  subst w'
  go_wp2_with fail
  refine HP.mono ?_
  rintro e w1 ⟨vK, K, rfl, hK, hN1, hb1⟩
  clear H1 HP
  have hKl := hK.len
  obtain ⟨a, c, hvK, hKI⟩ := hN1.ex
  have hD1 := HD.out.below hb1 (Nat.le_refl _)
  have hJ1 := HJ.out.below hb1
  have hs1 := hb1.size
  have HK : Hid _ := hK
  have HN1 : Hid _ := hN1
  have HKI : Hid _ := hKI
  have HD1 : Hid _ := hD1
  have HJ1 : Hid _ := hJ1
  have hbw : Below base w w1 := hb1.mono hbase
  have HR1 : Hid (Ro w w1) := Ro.of_below hb1
  have HKL : Hid _ := hKl
  have hK30 : K.length ≤ 30 := by omega
  have hKsec : K.length + 1 ≤ J.sec := by omega
  clear hK hN1 hKI hD1 hJ1 HD HJ hKl
  by_cases h0 : K.length = 0
  · have hKe : K = [] := List.eq_nil_of_length_eq_zero h0
    have HB1 : Hid _ := hb1
    rw [h0] at hvK
    subst hvK
    clear hb1
    go_wp2
    go_ret
    exact ⟨rfl, K, HK.out, .inl ⟨hKe, HB1.out⟩⟩
  · have hKne : K ≠ [] := fun e => h0 (by rw [e]; rfl)
    have h0I : ¬ (K.length : Int) = 0 := by omega
    obtain ⟨b, hab, _, hI1⟩ := HKI.out (by omega)
    subst hab
    subst hvK
    have HI1 : Hid _ := hI1
    clear hI1 hb1
    go_wp2
    go_loopw [17] (fun iv wx => ∃ (i : Nat) (evi : Value), i ≤ K.length ∧ iv = .int .i64 i ∧ Hid (DiskAt wx base gd g1 c1 g2 c2 evi (wrN D J.at' J.L K i)) ∧ Hid (Fr g2 w1 wx) ∧ Hid (Below base w1 wx)) (fun iv _ => K.length - (intOf iv).toNat)
    case atStart => exact ⟨0, ev, Nat.zero_le _, rfl, HD1, Fr.refl _ _, Below.refl _ _⟩
    case round =>
     obtain ⟨i, evi, hi, rfl, hDi, hFi, hBi⟩ := hrel
     have hsz : base ≤ wr.heap.size := Nat.le_trans hbase (Nat.le_trans hs1 hBi.out.size)
     by_cases hlt : i < K.length
     · skip
       have ci := (HI1.out.fr hFi.out).cell i hlt
       have hJr := HJ1.out.fr hFi.out
       obtain ⟨kn, hkn⟩ : ∃ kn, K.getD i 0 = kn := ⟨_, rfl⟩
       rw [hkn] at ci
       have HKN : Hid _ := hkn
       have hmem : kn ∈ J.L.map Pt.k := (HK.out.mem kn).1 (by rw [← hkn]; simp [List.getD, List.getElem?_eq_getElem hlt])
       obtain ⟨p, hpL, hrun, hpf⟩ : ∃ p : Pt, p ∈ J.L ∧ (Instr.lookup 54 (.map (some gm)) (.int .i64 (kn : Int)) false).run Try.prog wr = .ok (entV p.f) wr ∧ lookD J.L kn = p.f := by
         rcases hJr.map.lookup kn false with ⟨j, p, hj, hp, hrun⟩ | ⟨hno, _⟩
         · have hk : p.k = kn := by omega
           exact ⟨p, List.mem_of_getElem? hj, hrun, by unfold lookD; rw [← hk, lookL_some hJr.map.nodup hj]; rfl⟩
         · obtain ⟨p, hp, e⟩ := List.mem_map.1 hmem
           exact absurd (by rw [e]) (hno p hp)
       have hpb := (HOK.out.puts p hpL).2.2
       have c3 := (hJr.row.cell 3).trans (rfl : _ = some (Value.map (some gm)))
       simp only [entV] at hrun
       have hi83 := i83 p.f
       have hz := z83s p.f
       have ho := one83 p.f
       have hCb : ∀ j, j < 256 → (byts p.f 256).toArray[0 + j]? = some (.int .u8 (p.f j)) := fun j hj => by rw [Nat.zero_add]; simpa using byts_at p.f 256 j hj
       generalize (byts p.f 256).toArray = C at *
       have hbA : Below wr.heap.size wr (wr.alloc (.cells C 83)).drew := ((Below.refl _ _).alloc (Nat.le_refl _) _).drew
       have hJd : Hid (JAt (wr.alloc (.cells C 83)).drew base gj gm gd J) := hJr.below hbA
       have hDd : DiskAt (wr.alloc (.cells C 83)).drew base gd g1 c1 g2 c2 evi (wrN D J.at' J.L K i) := hDi.out.below hbA (Nat.le_refl _)
       have hRC : Row (wr.alloc (.cells C 83)).drew wr.heap.size C 83 := Row.new wr C 83
       have hsA : base ≤ (wr.alloc (.cells C 83)).drew.heap.size := Nat.le_trans hsz hbA.size
       have HDT : Hid _ := data_any hJd.out (by omega) i (by omega)
       have hWr := write_okT hDd hsA (by rw [wrN_len]; omega) (J.at' + 1 + i) (by rw [wrN_s]; omega) wr.heap.size 0 256 p.f C 83 (by decide) hRC (by have := hDi.out.lt2; omega) hCb hpb
       rw [show ((J.at' + 1 + i : Nat) : Int) = (J.at' : Int) + 1 + i by omega] at hWr
       have HHW : Hid _ := hWr
       have HDd : Hid _ := hDd
       have HbA : Hid _ := hbA
       have HPF : Hid _ := hpf
       clear hWr hDd hRC hJr hbA hkn hmem hpf hpb hCb
       go_wp2_with (first
         | refine wpList_store_new rfl 83 _ _ rfl wr _ C 83 rfl wr.heap.size rfl rfl rfl hi83 hz ho ?_)
       clear hrun c3
       refine wp_region_permA [(false, 0), (false, 1), (false, 2), (false, 3), (false, 4), (false, 5), (false, 7), (true, 6), (true, 8)] (fun wx => Row wx gj #[.pointer (some ⟨gd, 0, none⟩), .int .i64 J.at', .int .i64 J.sec, .map (some gm)] 56) (by kernel_rfl) (by kernel_rfl) hJd.out.row ?_
       refine a_move (some 28) _ rfl rfl rfl (by rfl) ?_
       simp only [Act.put, List.setIfInBounds_toArray, List.set_cons_zero, List.set_cons_succ]
       refine a_value (some 29) ?_ rfl rfl (by rfl) (fun w hw => ?_) ?_
       rotate_left
       · go_simp
         with_reducible rfl
       simp only [Act.put, List.setIfInBounds_toArray, List.set_cons_zero, List.set_cons_succ]
       refine a_value (some 30) ?_ rfl rfl (by rfl) (fun w hw => ?_) ?_
       rotate_left
       · go_simp
         with_reducible rfl
       simp only [Act.put, List.setIfInBounds_toArray, List.set_cons_zero, List.set_cons_succ]
       refine a_value (some 31) ?_ rfl rfl (by rfl) (fun w hw => ?_) ?_
       rotate_left
       · have hc := (hw.cell 0).trans (rfl : _ = some (Value.pointer (some ⟨gd, 0, none⟩)))
         go_simp
         with_reducible rfl
       simp only [Act.put, List.setIfInBounds_toArray, List.set_cons_zero, List.set_cons_succ]
       refine a_move (some 32) _ rfl rfl rfl (by rfl) ?_
       simp only [Act.put, List.setIfInBounds_toArray, List.set_cons_zero, List.set_cons_succ]
       refine a_move (some 33) _ rfl rfl rfl (by rfl) ?_
       simp only [Act.put, List.setIfInBounds_toArray, List.set_cons_zero, List.set_cons_succ]
       refine a_value (some 35) ?_ rfl rfl (by rfl) (fun w hw => ?_) ?_
       rotate_left
       · go_simp
         with_reducible rfl
       simp only [Act.put, List.setIfInBounds_toArray, List.set_cons_zero, List.set_cons_succ]
       refine a_call (some 34) rfl rfl (by rfl) 40 #[.pointer (some ⟨gj, 0, none⟩), .int .i64 i] (by go_simp) (Calls.mono HDT.out fun e w' ⟨he, hw'⟩ => ⟨_, he, by rw [hw']; exact hJd.out.row, ?_⟩)
       subst hw'
       simp only [Act.put, List.setIfInBounds_toArray, List.set_cons_zero, List.set_cons_succ]
       refine a_call (some 36) rfl rfl (by rfl) 19 #[.pointer (some ⟨gd, 0, none⟩), .int .i64 (J.at' + 1 + i), .slice (some ⟨wr.heap.size, 0, none⟩) 256 256] (by go_simp) (Calls.mono HHW.out fun e w3 ⟨he, ev3, hD3, hc3⟩ => ⟨_, he, hJd.out.row.chg HDd.out hc3 (by decide) (by decide) (fun e => absurd e (by decide)), ?_⟩)
       have hD3' : Hid (DiskAt w3 base gd g1 c1 g2 c2 ev3 (wrN D J.at' J.L K (i + 1))) := by
         show DiskAt w3 base gd g1 c1 g2 c2 ev3 ((wrN D J.at' J.L K i).write (J.at' + 1 + i) (lookD J.L (K.getD i 0)))
         rw [show K.getD i 0 = kn from HKN.out, show lookD J.L kn = p.f from HPF.out]
         exact hD3
       have hF3 : Hid (Fr g2 w1 w3) := hFi.out.trans ((Fr.of_below HbA.out).trans (Fr.of_chg HDd.out hc3))
       have hB3 : Hid (Below base w1 w3) := hBi.out.trans ((HbA.out.mono hsz).trans (HDd.out.chg hc3 hsA))
       subst he
       clear hD3 hc3 HHW HDd HbA HDT hJd
       simp only [Act.put, List.setIfInBounds_toArray, List.set_cons_zero, List.set_cons_succ]
       refine a_done ?_
       try simp only [Exit.then]
       go_wp2
       go_roundw
       case rel => exact ⟨_, _, _, .int .i64 ((i : Int) + 1), ⟨i + 1, by omega, by go_num, ev3, hD3'⟩, rfl, rfl, rfl, rfl⟩
       case measure => simp [intOf]; omega
     · skip
       have hiK : i = K.length := by omega
       subst hiK
       have hJr := HJ1.out.fr hFi.out
       have c0 := (hJr.row.cell 0).trans (rfl : _ = some (Value.pointer (some ⟨gd, 0, none⟩)))
       have HFl := flush_ok hDi.out hsz (by rw [wrN_len]; omega)
       have HHF : Hid _ := HFl
       clear HFl hJr HKI HD1
       go_wp2_with fail
       refine Calls.mono HHF.out ?_
       rintro e w4 ⟨rfl, ev4, hD4, hc4⟩
       have hF4 : Fr g2 w1 w4 := hFi.out.trans (Fr.of_chg hDi.out hc4)
       have hB4 : Below base w1 w4 := hBi.out.trans (hDi.out.chg hc4 hsz)
       have hJ4 : Hid (JAt w4.drew base gj gm gd J) := (HJ1.out.fr hF4).below (Below.refl _ _).drew
       have hs4 : base ≤ w4.heap.size := Nat.le_trans hbase (Nat.le_trans hs1 hB4.size)
       have hN4 := (HN1.out.fr hF4).fr (Fr.of_below (g2 := g2) (w := w4) (w' := w4.drew) (Below.refl _ _).drew)
       have hHd := headerOf_ok hN4 hK30 (fun j => by
         by_cases hj : j < K.length
         · have hm : K.getD j 0 ∈ J.L.map Pt.k := (HK.out.mem _).1 (by simp [List.getD, List.getElem?_eq_getElem hj])
           obtain ⟨p, hp, e⟩ := List.mem_map.1 hm
           have := (HOK.out.puts p hp).1
           omega
         · simp [List.getD, List.getElem?_eq_none (Nat.le_of_not_lt hj)])
       have HHD : Hid _ := hHd
       have hDd4 := hD4.below (w' := w4.drew) (Below.refl _ _).drew (Nat.le_refl _)
       have HD4 : Hid _ := hDd4
       have HF4 : Hid _ := hF4
       have HB4 : Hid _ := hB4
       clear hD4 hDd4 hc4 hF4 hB4 hHd HHF c0 hN4
       go_wp2_with fail
       refine wp_region_mix [false, false, false, false, false, false, false, false, false, true, true] (fun wx => Row wx gj #[.pointer (some ⟨gd, 0, none⟩), .int .i64 J.at', .int .i64 J.sec, .map (some gm)] 56) (by kernel_rfl) (by kernel_rfl) hJ4.out.row ?_
       refine m_move _ rfl (by rfl) ?_
       simp only [Act.put, List.setIfInBounds_toArray, List.set_cons_zero, List.set_cons_succ]
       refine m_value ?_ (by rfl) (fun w hw => ?_) ?_
       rotate_left
       · go_simp
         with_reducible rfl
       simp only [Act.put, List.setIfInBounds_toArray, List.set_cons_zero, List.set_cons_succ]
       refine m_value ?_ (by rfl) (fun w hw => ?_) ?_
       rotate_left
       · go_simp
         with_reducible rfl
       simp only [Act.put, List.setIfInBounds_toArray, List.set_cons_zero, List.set_cons_succ]
       refine m_value ?_ (by rfl) (fun w hw => ?_) ?_
       rotate_left
       · have hc := (hw.cell 0).trans (rfl : _ = some (Value.pointer (some ⟨gd, 0, none⟩)))
         go_simp
         with_reducible rfl
       simp only [Act.put, List.setIfInBounds_toArray, List.set_cons_zero, List.set_cons_succ]
       refine m_move _ rfl (by rfl) ?_
       simp only [Act.put, List.setIfInBounds_toArray, List.set_cons_zero, List.set_cons_succ]
       refine m_value ?_ (by rfl) (fun w hw => ?_) ?_
       rotate_left
       · go_simp
         with_reducible rfl
       simp only [Act.put, List.setIfInBounds_toArray, List.set_cons_zero, List.set_cons_succ]
       refine m_value ?_ (by rfl) (fun w hw => ?_) ?_
       rotate_left
       · go_simp
         with_reducible rfl
       simp only [Act.put, List.setIfInBounds_toArray, List.set_cons_zero, List.set_cons_succ]
       refine m_value ?_ (by rfl) (fun w hw => ?_) ?_
       rotate_left
       · have hc := (hw.cell 1).trans (rfl : _ = some (Value.int .i64 (J.at' : Int)))
         go_simp
         with_reducible rfl
       simp only [Act.put, List.setIfInBounds_toArray, List.set_cons_zero, List.set_cons_succ]
       refine m_move _ rfl (by rfl) ?_
       simp only [Act.put, List.setIfInBounds_toArray, List.set_cons_zero, List.set_cons_succ]
       refine m_call (by rfl) 42 #[.slice (some ⟨b, 0, none⟩) K.length c] (by go_simp) (Calls.mono HHD.out fun e w5 ⟨he, hR5, hb5⟩ => ⟨_, he, hJ4.out.row.below hb5 hJ4.out.row.lt, ?_⟩)
       have hD5 := HD4.out.below hb5 (Nat.le_refl _)
       have hs5 : base ≤ w5.heap.size := Nat.le_trans hs4 hb5.size
       have hb45 : Below w4.heap.size w4 w5 := (Below.refl _ _).drew.trans hb5
       have hW5 := write_ok hD5 hs5 (by show ((wrN D J.at' J.L K K.length).E ++ [_]).length ≤ _; rw [List.length_append, wrN_len]; simp; omega) J.at' (by show J.at' < (wrN D J.at' J.L K K.length).s; rw [wrN_s]; omega) w4.drew.heap.size 0 256 (hdr K) _ hR5 (by have := HD4.out.lt2; omega) (fun j hj => by rw [Nat.zero_add]; simpa using byts_at (hdr K) 256 j hj) (hdr_bd K)
       have HW5 : Hid _ := hW5
       have HD5 : Hid _ := hD5
       have hJ5 : JAt w5 base gj gm gd J := hJ4.out.below hb5
       have HJ5 : Hid _ := hJ5
       have HB45 : Hid _ := hb45
       subst he
       clear hW5 hD5 hR5 hb5 hJ5 hb45 HHD
       simp only [Act.put, List.setIfInBounds_toArray, List.set_cons_zero, List.set_cons_succ]
       refine m_call (by rfl) 19 #[.pointer (some ⟨gd, 0, none⟩), .int .i64 J.at', .slice (some ⟨w4.drew.heap.size, 0, none⟩) 256 256] (by go_simp) (Calls.mono HW5.out fun e w6 ⟨he, ev6, hD6, hc6⟩ => ⟨_, he, HJ5.out.row.chg HD5.out hc6 (by decide) (by decide) (fun e => absurd e (by decide)), ?_⟩)
       have hF6 : Hid (Fr g2 w1 w6) := HF4.out.trans ((Fr.of_below HB45.out).trans (Fr.of_chg HD5.out hc6))
       have hB6 : Hid (Below base w1 w6) := HB4.out.trans ((HB45.out.mono hs4).trans (HD5.out.chg hc6 hs5))
       have hJ6 := HJ1.out.fr hF6.out
       have c06 := (hJ6.row.cell 0).trans (rfl : _ = some (Value.pointer (some ⟨gd, 0, none⟩)))
       have hs6 : base ≤ w6.heap.size := Nat.le_trans hbase (Nat.le_trans hs1 hB6.out.size)
       have hFl6 := flush_ok hD6 hs6 (by show ((wrN D J.at' J.L K K.length).E ++ [_] ++ [_]).length ≤ _; rw [List.length_append, List.length_append, wrN_len]; simp; omega)
       have HFl6 : Hid _ := hFl6
       have HD6 : Hid _ := hD6
       subst he
       clear hFl6 hD6 hc6 hJ6 HW5 HD5 HB45 HF4 HB4 hJ4
       simp only [Act.put, List.setIfInBounds_toArray, List.set_cons_zero, List.set_cons_succ]
       refine m_done ?_
       try simp only [Exit.then]
       go_wp2_with fail
       refine Calls.mono HFl6.out ?_
       rintro e w7 ⟨rfl, ev7, hD7, hc7⟩
       have hF7 : Fr g2 w1 w7 := hF6.out.trans (Fr.of_chg HD6.out hc7)
       have hB7 : Below base w1 w7 := hB6.out.trans (HD6.out.chg hc7 hs6)
       have hs7 : base ≤ w7.heap.size := Nat.le_trans hbase (Nat.le_trans hs1 hB7.size)
       have hDo := do_ok hD7 hs7 (by show (hdD D J.at' J.L K).E.length ≤ _; rw [hdD_len]; omega) (HJ1.out.fr hF7) (by show J.at' + J.sec ≤ (wrN D J.at' J.L K K.length).s; rw [wrN_s]; omega) (HN1.out.fr hF7) hKsec hsh (fun j hj => by
         show K.getD j 0 < (wrN D J.at' J.L K K.length).s
         rw [wrN_s]
         have hm : K.getD j 0 ∈ J.L.map Pt.k := (HK.out.mem _).1 (by simp [List.getD, List.getElem?_eq_getElem hj])
         obtain ⟨p, hp, e⟩ := List.mem_map.1 hm
         rw [← e]
         exact (HOK.out.puts p hp).1)
       have HDo : Hid _ := hDo
       have HF7 : Hid _ := hF7
       have HB7 : Hid _ := hB7
       clear hDo hD7 hc7 hF7 hB7 HFl6 HD6 c06 hF6 hB6
       go_wp2_with fail
       refine Calls.mono HDo.out ?_
       rintro e w8 ⟨⟨r, rfl⟩, ev8, hD8, hF8, hB8⟩
       have hJ8 := HJ1.out.fr (HF7.out.trans hF8)
       have c38 := (hJ8.row.cell 3).trans (rfl : _ = some (Value.map (some gm)))
       obtain ⟨w9, hcl, hM9, hO9⟩ := hJ8.map.clear 0
       have hJ9 : JAt w9 base gj gm gd { J with L := [] } := ⟨(hO9.block gj (hJ8.map.row_ne hJ8.row).symm).trans hJ8.row, hM9, hJ8.geJ, hJ8.geM⟩
       have hD9 := hD8.one hJ8.map hO9
       have hB9 : Below base w w9 := hbw.trans (HB7.out.trans (hB8.trans (hO9.below hJ8.geM)))
       have HR9 : Hid (Ro w w9) := HR1.out.trans ((Ro.of_fr (HF7.out.trans hF8)).trans ⟨fun k C t hr _ _ _ => (hO9.block k (hJ8.map.row_ne hr).symm).trans hr⟩)
       have HJ9 : Hid _ := hJ9
       have HD9 : Hid _ := hD9
       have HB9 : Hid _ := hB9
       clear hJ8 hM9 hO9 hJ9 hD9 hB9 hD8 hF8 hB8 HDo HF7 HB7
       go_wp2
       go_ret
       exact ⟨rfl, K, HK.out, .inr ⟨hKne, ev8, HD9.out, HJ9.out, HB9.out, HR9.out⟩⟩
end Go.Proofs.Ytlbapnecmhlgmaa
namespace Go.Proofs.Ytlbapnecmhlgmaa
open Go.RowKit

theorem and7 (x : Int) : ∃ k : Nat, bits .and .i64 x 7 = (k : Int) ∧ k < 8 := by
  have h := and_mask_i64 3 (by decide) x
  have h4 : (2 : Int) ^ 3 = 8 := by decide
  rw [h4] at h
  have e : bits .and .i64 x 7 = x % 8 := h
  refine ⟨(x % 8).toNat, ?_, ?_⟩ <;> omega
theorem secOf_bd (len : Nat) (f : Nat → Int) (fill : Int) (hf : ∀ i, 0 ≤ f i ∧ f i < 256) (h : 0 ≤ fill ∧ fill < 256) : ∀ i, 0 ≤ secOf len f fill i ∧ secOf len f fill i < 256 := fun i => by
  unfold secOf
  split
  · exact hf i
  · exact h
/-- A sector of an act. -/
theorem sector_full (x : ActD) (w : World) (h : x.In w) :
    Calls Try.prog 12 #[.agg x.cells] w fun e w' => ∃ gs c cur, e = .returned (.slice (some ⟨gs, 0, none⟩) 256 c) ∧ w.heap.size ≤ gs ∧ Row w' gs cur 5 ∧ (∀ i, i < 256 → cur[i]? = some (.int .u8 (secOf x.len x.f x.fill i))) ∧ Below w.heap.size w w' := by
  have hs := sector_any x.kind x.n x.back x.a x.b x.off x.len x.cap x.f x.fill x.ka x.klen x.kcap w h.len h.bytes h.nil
  refine Calls.mono hs ?_
  rintro e w' ⟨g, c, rfl, _, _, h3, ⟨cur, h4⟩, h5, h6⟩
  exact ⟨g, c, cur, rfl, h3, h4, fun i hi => by rw [← h4.cell i]; exact h5 i (by simpa using hi), h6⟩
theorem info43c (x : ActD) : (Try.prog.info? 43).map (·.size) = some x.cells.toList.length := by show _ = some 6; kernel_rfl
theorem info43a (x : ActD) : (Try.prog.info? 43).map (·.size) = some x.cells.size := by show _ = some 6; kernel_rfl
theorem ActD.cells_one (x : ActD) : x.cells.all (·.oneCell') = true := by
  unfold ActD.cells
  apply all_oneCell_toArray
  intro v hv
  simp only [List.mem_cons, List.not_mem_nil, or_false] at hv
  rcases hv with rfl | rfl | rfl | rfl | rfl | rfl <;> rfl
theorem Acts.range {w : World} {a : Option Addr} {b off len : Nat} {X : Nat → ActD} (h : Acts w a b off len X) (i : Nat) (hi : i < len) : w.rangeAt b (off + i * 6) (X i).cells.toList := fun j v hj => by
  have hj' : j < 6 := (List.getElem?_eq_some_iff.1 hj).1
  rw [h.cell i hi j hj', ← Array.getElem?_toList, hj]

/-- What holds between two acts. -/
structure Sh (w0 : World) (g g1 c1 g2 c2 gj gm : Nat) (ev : Value) (D : Dk) (J : Jn) (w : World) : Prop where
  disk : DiskAt w w0.heap.size g g1 c1 g2 c2 ev D
  jn : JAt w w0.heap.size gj gm g J
  ok : J.ok D.s
  s12 : D.s = 12
  at0 : J.at' = 0
  sec4 : J.sec = 4
  old : Below w0.heap.size w0 w
section
variable {w0 : World} {g g1 c1 g2 c2 gj gm : Nat} {ev : Value} {D : Dk} {J : Jn} {w w' : World}
theorem Sh.next (h : Sh w0 g g1 c1 g2 c2 gj gm ev D J w) (hb : Below w.heap.size w w') : Sh w0 g g1 c1 g2 c2 gj gm ev D J w' :=
  ⟨h.disk.below hb (Nat.le_refl _), h.jn.below hb, h.ok, h.s12, h.at0, h.sec4, h.old.trans (hb.mono h.old.size)⟩
theorem Sh.few (h : Sh w0 g g1 c1 g2 c2 gj gm ev D J w) : J.L.length ≤ 3 := by
  have := h.ok.few
  have := h.sec4
  omega
/-- Pending's length. -/
theorem Sh.pending (h : Sh w0 g g1 c1 g2 c2 gj gm ev D J w) : Calls Try.prog 24 #[.pointer (some ⟨gj, 0, none⟩)] w fun e w' => ∃ a c, e = .returned (.slice a J.L.length c) ∧ Hid (Sh w0 g g1 c1 g2 c2 gj gm ev D J w') ∧ Hid (Below w.heap.size w w') := by
  refine (pending_ok h.disk h.jn (by have := h.few; omega)).mono ?_
  rintro e w' ⟨v, K, rfl, hK, hN, hb⟩
  obtain ⟨a, c, rfl, _⟩ := hN.ex
  exact ⟨a, c, by rw [hK.len], h.next hb, hb⟩
theorem Sh.shown (h : Sh w0 g g1 c1 g2 c2 gj gm ev D J w) : Calls Try.prog 25 #[.pointer (some ⟨g, 0, none⟩)] w fun e w' => e = .returned (.string (shN D.B 8)) ∧ Hid (Sh w0 g g1 c1 g2 c2 gj gm ev D J w') :=
  (shown_ok h.disk h.s12).mono fun _ _ ⟨he, hb⟩ => ⟨he, h.next hb⟩
end

set_option maxRecDepth 20000 in
set_option maxHeartbeats 8000000 in
theorem law_shows (a : Option Addr) (b off len cap : Nat) (X : Nat → ActD) (w : World) (hA : Acts w a b off len X) (hcap : len ≤ cap) (hcap2 : cap ≤ maxLen) :
    Calls Try.prog 6 #[.slice a len cap] w fun e w' => e = .returned (.bool true) ∧ Below w.heap.size w w' := by
  have HN := new_ok 12 w (by decide) (by decide)
  have HA : Hid _ := hA
  unfold maxLen at hcap2
  clear hA
  go_enter Try.func6, Try.ntmps6
  go_wp2_with fail
  refine HN.mono ?_
  rintro e w1 ⟨g, g1, c1, g2, c2, rfl, hD, hb1⟩
  have hs1 := hb1.size
  have hOp := open_new hD 0 4 (by omega) (by omega) (by decide) (unmarked_zero _ (fun i _ => rfl))
  have HO : Hid _ := hOp
  have HD : Hid _ := hD
  clear hD HN hOp
  go_wp2_with fail
  refine Calls.mono HO.out ?_
  rintro e w2 ⟨gj, gm, rfl, hJ2, hb2⟩
  have hS2 : Sh w g g1 c1 g2 c2 gj gm (.slice none 0 0) (freshD 12 fun _ => 0) ⟨0, 4, []⟩ w2 :=
    ⟨HD.out.below hb2 (Nat.le_refl _), ⟨hJ2.row, hJ2.map, Nat.le_trans hs1 hJ2.geJ, Nat.le_trans hs1 hJ2.geM⟩, ⟨by decide, by decide, by decide, by decide, fun _ h => nomatch h⟩, rfl, rfl, rfl, hb1.trans (hb2.mono hs1)⟩
  have HSh := hS2.shown
  have HHS : Hid _ := HSh
  clear hJ2 hb2 hS2 HSh HO HD
  go_wp2_with fail
  refine Calls.mono HHS.out ?_
  rintro e w3 ⟨rfl, HS3⟩
  clear HHS
  go_upto_if 46 with fail
  go_cut [0] (fun s0 wx => ∃ m : Nat, m ≤ 60 ∧ s0 = .slice a m cap ∧ Hid (Acts w a b off m X) ∧ wx = w3)
  case first =>
    by_cases hl : 60 < len
    · obtain rfl := HA.out.at' (by omega)
      go_wp2
      go_meet
      exact ⟨60, by omega, rfl, ⟨fun _ => rfl, fun i hi => HA.out.cell i (by omega), fun i hi => HA.out.is i (by omega)⟩, rfl⟩
    · go_wp2
      go_meet
      exact ⟨len, by omega, rfl, HA.out, rfl⟩
  case rest =>
    obtain ⟨m, hm, rfl, HAm, hwc⟩ := hcut
    subst wc
    clear HA hcap
    go_wp2
    go_loopw [6, 7] (fun sv iv wx => ∃ (j : Nat) (ev : Value) (D : Dk) (J : Jn), j ≤ m ∧ iv = .int .i64 j ∧ sv = .string (shN D.B 8) ∧ Hid (D.E.length ≤ 12 * j) ∧ Hid (Sh w g g1 c1 g2 c2 gj gm ev D J wx)) (fun _ iv _ => m - (intOf iv).toNat)
    case atStart => exact ⟨0, .slice none 0 0, freshD 12 (fun _ => 0), ⟨0, 4, []⟩, Nat.zero_le _, rfl, rfl, Nat.le_refl _, HS3⟩
    case round =>
      obtain ⟨j, ev, D, J, hj, rfl, rfl, hE, hS⟩ := hrel
      clear HS3
      by_cases hlt : j < m
      · obtain rfl := HAm.out.at' (by omega)
        have hold := hS.out.old
        have hsq := hold.size
        have hAq := HAm.out.belowAll hold
        have HRG : Hid _ := hAq.range j hlt
        have HIN : Hid _ := HAm.out.is j hlt
        have hA6 := info43c (X j)
        have hA6a := info43a (X j)
        have hAo := (X j).cells_one
        have hAs : (X j).cells.size = 6 := rfl
        have a0 : (X j).cells[0]? = some (.int .i64 (X j).kind) := rfl
        have a1 : (X j).cells[1]? = some (.int .i64 (X j).n) := rfl
        have hkd := HIN.out.kind
        obtain ⟨kk, hkk, hk8⟩ := and7 (X j).n
        have hRA : Row (wr.alloc (.cells (X j).cells 43)) wr.heap.size (X j).cells 43 := Row.new wr _ 43
        have hbW : Below wr.heap.size wr (wr.alloc (.cells (X j).cells 43)) := (Below.refl _ _).alloc (Nat.le_refl _) _
        have hSA := hS.out.next hbW
        have hSc := sector_full (X j) _ (HIN.out.below hSA.old)
        have hfb := secOf_bd (X j).len (X j).f (X j).fill HIN.out.bytes.bd HIN.out.fill
        generalize hFS : secOf (X j).len (X j).f (X j).fill = FS at *
        generalize hAA : (X j).cells = A at *
        have c1A := (hRA.cell 1).trans a1
        have HSC : Hid _ := hSc
        have HSA : Hid _ := hSA
        have HFB : Hid _ := hfb
        have HRA : Hid _ := hRA
        clear hAA hFS hSc hSA hfb hAq hold hS hbW
        go_wp2_with (first
          | (refine wpList_load_mid rfl 43 _ rfl b (off + j * 6) rfl A.toList _ HRG.out Try.underlying43 rfl hA6 ?_; simp only [Array.toArray_toList])
          | refine wpList_store_new rfl 43 _ _ rfl wr _ A 43 rfl wr.heap.size rfl rfl rfl hA6a hAs.symm hAo ?_
          | refine wpList_load_row rfl 43 _ rfl wr.heap.size rfl 43 A (0, 0) _ HRA.out Try.underlying43 rfl hA6a ?_)
        refine Calls.mono HSC.out ?_
        rintro e w4 ⟨gs, cs, cur, rfl, hgs, hcur, hcc, hb4⟩
        have hS4 := HSA.out.next hb4
        have hRA4 : Row w4 wr.heap.size A 43 := Row.below HRA.out hb4 (Row.lt HRA.out)
        have hP4 := hS4.pending
        have HP4 : Hid _ := hP4
        have HCU : Hid _ := hcur
        have HCC : Hid _ := hcc
        have HS4 : Hid _ := hS4
        have HRA4 : Hid _ := hRA4
        clear hS4 hP4 hRA4 hcur hcc hb4 HSA HSC HRA hRA c1A
        go_wp2_with fail
        refine Calls.mono HP4.out ?_
        rintro e w5 ⟨pa, pc, rfl, HS5, HB5⟩
        have hcu5 : Hid (Row w5 gs cur 5) := Row.below HCU.out HB5.out (Row.lt HCU.out)
        have hRA5 : Row w5 wr.heap.size A 43 := Row.below HRA4.out HB5.out (Row.lt HRA4.out)
        have c05 := (hRA5.cell 0).trans a0
        have hfew := HS5.out.few
        obtain ⟨LL, hLL⟩ : ∃ LL, J.L.length = LL := ⟨_, rfl⟩
        rw [hLL] at hfew
        have HLL : Hid _ := hLL
        simp only [hLL]
        clear hRA5 HP4 HCU HRA4 HS4 HB5 hLL
        have hn12 : 4 + kk < D.s := by have := HS5.out.s12; omega
        have hnown : 4 + kk < J.at' ∨ J.at' + J.sec ≤ 4 + kk := by have := HS5.out.at0; have := HS5.out.sec4; omega
        have hst := HS5.out.sec4
        by_cases hk0 : (X j).kind = 0
        · have hPu := put_ok HS5.out.disk HS5.out.jn HS5.out.ok (4 + kk) hn12 hnown gs cs FS HFB.out cur hcu5.out HCC.out
          rw [show ((4 + kk : Nat) : Int) = 4 + (kk : Int) by omega] at hPu
          have HPu : Hid _ := hPu
          clear hPu
          go_wp2_with fail
          refine Calls.mono HPu.out ?_
          intro e w6 hres
          rcases hres with ⟨rfl, hlk, hfull, hb6⟩ | ⟨rfl, _, L', w6a, hJ6, hok6, hl6, hb6, hJ6a, hO6⟩
          · skip
            have hS6 := HS5.out.next hb6
            have hG := get_ok hS6.disk hS6.jn (4 + kk) hn12
            rw [show ((4 + kk : Nat) : Int) = 4 + (kk : Int) by omega] at hG
            have HG : Hid _ := hG
            have HS6 : Hid _ := hS6
            have h3 : LL = 3 := by rw [← show J.L.length = LL from HLL.out, hfull, hst]
            subst h3
            clear hG hS6 hb6 hlk hfull HPu
            go_wp2_with fail
            refine Calls.mono HG.out ?_
            rintro e w7 ⟨q, t, rfl, _, hRq, hb7⟩
            have hSh := (HS6.out.next hb7).shown
            have HSh : Hid _ := hSh
            clear hSh hRq hb7 HG HS6
            go_wp2_with fail
            refine Calls.mono HSh.out ?_
            rintro e w8 ⟨rfl, HS8⟩
            clear HSh
            go_wp2
            go_roundw
            case rel => exact ⟨j + 1, ev, D, J, by omega, by go_num, rfl, by have := hE.out; show _ ≤ _; omega, HS8⟩
            case measure => simp [intOf]; omega
          · skip
            have hD6 : DiskAt w6 w.heap.size g g1 c1 g2 c2 ev D := (HS5.out.disk.below hb6 (Nat.le_refl _)).one hJ6a.map hO6
            have hold6 : Below w.heap.size w w6 := HS5.out.old.trans ((hb6.mono HS5.out.old.size).trans (hO6.below hJ6a.geM))
            have hS6 : Sh w g g1 c1 g2 c2 gj gm ev D { J with L := L' } w6 := ⟨hD6, hJ6, hok6, HS5.out.s12, HS5.out.at0, HS5.out.sec4, hold6⟩
            have hcu6 : Row w6 gs cur 5 := (hO6.block gs (hJ6a.map.row_ne (Row.below hcu5.out hb6 (Row.lt hcu5.out))).symm).trans (Row.below hcu5.out hb6 (Row.lt hcu5.out))
            have hse : seen { J with L := L' } D (4 + kk) = FS := by
              unfold seen
              rw [show lookL ({ J with L := L' } : Jn).L (4 + kk) = _ from hl6 (4 + kk), if_pos rfl]
              rfl
            have hG := get_ok hS6.disk hS6.jn (4 + kk) hn12
            rw [show ((4 + kk : Nat) : Int) = 4 + (kk : Int) by omega, hse] at hG
            have HG : Hid _ := hG
            have HS6 : Hid _ := hS6
            have HCU6 : Hid _ := hcu6
            clear hG hS6 hcu6 hD6 hold6 hJ6 hok6 hl6 hb6 hJ6a hO6 hse HPu
            go_wp2_with fail
            refine Calls.mono HG.out ?_
            rintro e w7 ⟨q, t, rfl, _, hRq, hb7⟩
            have hcu7 : Row w7 gs cur 5 := Row.below HCU6.out hb7 (Row.lt HCU6.out)
            have hcv1 : (convert 40 9 (.slice (some ⟨q, 0, none⟩) 256 256)).run Try.prog w7 = .ok (.string (sStr FS)) w7 := conv256 w7 q 0 256 FS (fun i hi => by rw [Nat.zero_add, hRq.cell i]; simpa using byts_at FS 256 i hi)
            have hcv2 : (convert 40 9 (.slice (some ⟨gs, 0, none⟩) 256 cs)).run Try.prog w7 = .ok (.string (sStr FS)) w7 := conv256 w7 gs 0 cs FS (fun i hi => by rw [Nat.zero_add, hcu7.cell i]; exact HCC.out i hi)
            have hSh := (HS6.out.next hb7).shown
            have HSh : Hid _ := hSh
            generalize sStr FS = TS at *
            clear hSh hRq hb7 HG HS6 hcu7 HCU6
            go_wp2_with fail
            refine Calls.mono HSh.out ?_
            rintro e w8 ⟨rfl, HS8⟩
            clear HSh hcv1 hcv2
            go_wp2
            go_roundw
            case rel => exact ⟨j + 1, ev, D, _, by omega, by go_num, rfl, by have := hE.out; show _ ≤ _; omega, HS8⟩
            case measure => simp [intOf]; omega
        · by_cases hk1 : (X j).kind = 1
          · skip
            have hP := HS5.out.pending
            have HP : Hid _ := hP
            clear hP
            go_wp2_with fail
            refine Calls.mono HP.out ?_
            rintro e w6 ⟨pa6, pc6, rfl, HS6, HB6⟩
            simp only [show J.L.length = LL from HLL.out]
            have hEv := events_yes HS6.out.disk
            have hCo := commit_ok HS6.out.disk HS6.out.old.size (by have := hE.out; omega) HS6.out.jn HS6.out.ok (by have := HS6.out.few; omega)
            obtain ⟨EL, hEL⟩ : ∃ EL, D.E.length = EL := ⟨_, rfl⟩
            rw [hEL] at hEv
            have hEb : EL ≤ 12 * j := by rw [← hEL]; exact hE.out
            have HEL : Hid _ := hEL
            have HEv : Hid _ := hEv
            have HCo : Hid _ := hCo
            clear hEv hCo hEL HP HB6
            go_wp2_with fail
            refine Calls.mono HEv.out ?_
            rintro e w' ⟨rfl, hw'⟩
            subst w'
            go_wp2_with fail
            refine Calls.mono HCo.out ?_
            rintro e w7 ⟨rfl, K, hK, hres⟩
            have hKl := hK.len
            rcases hres with ⟨rfl, hb7⟩ | ⟨hKne, ev7, hD7, hJ7, hB7⟩
            · have hL0 : LL = 0 := by rw [← show J.L.length = LL from HLL.out, ← hKl]; rfl
              subst hL0
              have HS7 : Hid (Sh w g g1 c1 g2 c2 gj gm ev D J w7) := HS6.out.next hb7
              have hP7 := HS7.out.pending
              have HP7 : Hid _ := hP7
              clear hP7 hb7 hK hKl HCo HEv
              go_wp2_with fail
              refine Calls.mono HP7.out ?_
              rintro e w8 ⟨pa8, pc8, rfl, HS8, _⟩
              simp only [show J.L.length = 0 from HLL.out]
              have hEv8 := events_yes HS8.out.disk
              rw [show D.E.length = EL from HEL.out] at hEv8
              have HEv8 : Hid _ := hEv8
              clear hEv8 HP7
              go_wp2_with fail
              refine Calls.mono HEv8.out ?_
              rintro e w' ⟨rfl, hw'⟩
              subst w'
              have hSh := HS8.out.shown
              have HSh : Hid _ := hSh
              clear hSh HEv8
              go_wp2_with fail
              refine Calls.mono HSh.out ?_
              rintro e w9 ⟨rfl, HS9⟩
              clear HSh
              go_wp2
              go_roundw
              case rel => exact ⟨j + 1, ev, D, J, by omega, by go_num, rfl, by have := hE.out; show _ ≤ _; omega, HS9⟩
              case measure => simp [intOf]; omega
            · have hLpos : 0 < LL := by
                rw [← show J.L.length = LL from HLL.out, ← hKl]
                exact List.length_pos_iff.2 hKne
              have hS7 : Sh w g g1 c1 g2 c2 gj gm ev7 (comD D J.at' J.L K) { J with L := [] } w7 := ⟨hD7, hJ7, ⟨HS6.out.ok.lo, HS6.out.ok.hi, by rw [comD_s]; exact HS6.out.ok.fits, Nat.zero_le _, fun _ h => nomatch h⟩, by rw [comD_s]; exact HS6.out.s12, HS6.out.at0, HS6.out.sec4, HS6.out.old.trans hB7⟩
              have hEl : (comD D J.at' J.L K).E.length = EL + 2 * LL + 6 := by rw [comD_len, hKl, show J.L.length = LL from HLL.out, show D.E.length = EL from HEL.out]
              generalize comD D J.at' J.L K = D7 at *
              have HS7 : Hid _ := hS7
              have hP7 := hS7.pending
              have HP7 : Hid _ := hP7
              have HElE : Hid _ := hEl
              clear hP7 hS7 hD7 hJ7 hB7 hK hKl HCo HEv hEl hKne
              go_wp2_with fail
              refine Calls.mono HP7.out ?_
              rintro e w8 ⟨pa8, pc8, rfl, HS8, _⟩
              have hEv8 := events_yes HS8.out.disk
              rw [show D7.E.length = _ from HElE.out, show ((EL + 2 * LL + 6 : Nat) : Int) = (EL : Int) + 2 * LL + 6 by omega] at hEv8
              have HEv8 : Hid _ := hEv8
              have hLI : ¬ (LL : Int) = 0 := by omega
              have hLI2 : (0 : Int) < LL := by omega
              clear hEv8 HP7
              go_wp2_with fail
              refine Calls.mono HEv8.out ?_
              rintro e w' ⟨rfl, hw'⟩
              subst w'
              have hSh := HS8.out.shown
              have HSh : Hid _ := hSh
              clear hSh HEv8
              go_wp2_with fail
              refine Calls.mono HSh.out ?_
              rintro e w9 ⟨rfl, HS9⟩
              clear HSh
              go_wp2
              go_roundw
              case rel => exact ⟨j + 1, ev7, D7, _, by omega, by go_num, rfl, by show D7.E.length ≤ _; rw [show D7.E.length = _ from HElE.out]; omega, HS9⟩
              case measure => simp [intOf]; omega
          · skip
            have hAb := abort_yes HS5.out.disk HS5.out.jn
            have HAb : Hid _ := hAb
            clear hAb
            go_wp2_with fail
            refine Calls.mono HAb.out ?_
            rintro e w6 ⟨rfl, hJ6, hO6⟩
            have hS6 : Sh w g g1 c1 g2 c2 gj gm ev D { J with L := [] } w6 := ⟨HS5.out.disk.one HS5.out.jn.map hO6, hJ6, ⟨HS5.out.ok.lo, HS5.out.ok.hi, HS5.out.ok.fits, Nat.zero_le _, fun _ h => nomatch h⟩, HS5.out.s12, HS5.out.at0, HS5.out.sec4, HS5.out.old.trans (hO6.below HS5.out.jn.geM)⟩
            have hP6 := hS6.pending
            have HP6 : Hid _ := hP6
            clear hP6 hS6 hJ6 hO6 HAb
            go_wp2_with fail
            refine Calls.mono HP6.out ?_
            rintro e w7 ⟨pa7, pc7, rfl, HS7, _⟩
            have hSh := HS7.out.shown
            have HSh : Hid _ := hSh
            clear hSh HP6
            go_wp2_with fail
            refine Calls.mono HSh.out ?_
            rintro e w8 ⟨rfl, HS8⟩
            have hR := read_ok HS8.out.disk (4 + kk) hn12
            rw [show ((4 + kk : Nat) : Int) = 4 + (kk : Int) by omega] at hR
            have hRow8 : Row (w8.alloc (.cells (byts (fun i => D.B ((4 + kk) * 256 + i)) 256).toArray 5)) w8.heap.size (byts (fun i => D.B ((4 + kk) * 256 + i)) 256).toArray 5 := Row.new w8 _ 5
            have hb8 : Below w8.heap.size w8 (w8.alloc (.cells (byts (fun i => D.B ((4 + kk) * 256 + i)) 256).toArray 5)) := (Below.refl _ _).alloc (Nat.le_refl _) _
            have hS9 := HS8.out.next hb8
            have hG := get_ok hS9.disk hS9.jn (4 + kk) hn12
            have hse : seen { J with L := [] } D (4 + kk) = secF D.B (4 + kk) := rfl
            rw [show ((4 + kk : Nat) : Int) = 4 + (kk : Int) by omega, hse] at hG
            have hCa : ∀ i, i < 256 → (byts (fun i => D.B ((4 + kk) * 256 + i)) 256).toArray[i]? = some (.int .u8 (secF D.B (4 + kk) i)) := fun i hi => by
              show _ = some (Value.int .u8 (D.B ((4 + kk) * 256 + i)))
              simpa using byts_at (fun i => D.B ((4 + kk) * 256 + i)) 256 i hi
            generalize (byts (fun i => D.B ((4 + kk) * 256 + i)) 256).toArray = Ca at *
            have HR : Hid _ := hR
            have HG : Hid _ := hG
            have HRow8 : Hid _ := hRow8
            have HS9 : Hid _ := hS9
            have HCa : Hid _ := hCa
            clear hR hG hRow8 hb8 hS9 hCa HSh hse
            go_wp2_with fail
            refine Calls.mono HR.out ?_
            rintro e w' ⟨rfl, hw'⟩
            subst w'
            generalize hnq : w8.heap.size = nq at *
            generalize w8.alloc (.cells Ca 5) = w9 at *
            clear hnq
            go_wp2_with fail
            refine Calls.mono HG.out ?_
            rintro e w10 ⟨q, t, rfl, _, hRq, hb10⟩
            have hr10 : Row w10 nq Ca 5 := Row.below HRow8.out hb10 (Row.lt HRow8.out)
            have hcv1 : (convert 40 9 (.slice (some ⟨q, 0, none⟩) 256 256)).run Try.prog w10 = .ok (.string (sStr (secF D.B (4 + kk)))) w10 := conv256 w10 q 0 256 _ (fun i hi => by rw [Nat.zero_add, hRq.cell i]; simpa using byts_at (secF D.B (4 + kk)) 256 i hi)
            have hcv2 : (convert 40 9 (.slice (some ⟨nq, 0, none⟩) 256 256)).run Try.prog w10 = .ok (.string (sStr (secF D.B (4 + kk)))) w10 := conv256 w10 nq 0 256 _ (fun i hi => by rw [Nat.zero_add, hr10.cell i]; exact HCa.out i hi)
            have HS10 : Hid (Sh w g g1 c1 g2 c2 gj gm ev D { J with L := [] } w10) := HS9.out.next hb10
            generalize sStr (secF D.B (4 + kk)) = TS at *
            clear hRq hr10 hb10 HR HG HRow8 HCa
            go_wp2
            go_roundw
            case rel => exact ⟨j + 1, ev, D, _, by omega, by go_num, rfl, by have := hE.out; show _ ≤ _; omega, HS10⟩
            case measure => simp [intOf]; omega
      · go_wp2
        go_ret
        exact ⟨rfl, hS.out.old⟩
end Go.Proofs.Ytlbapnecmhlgmaa
