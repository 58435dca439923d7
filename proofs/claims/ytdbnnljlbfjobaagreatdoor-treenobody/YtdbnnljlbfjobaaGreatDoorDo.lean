/- The walk of do: what a header tells is done. -/
import Derived.Test.YtdbnnljlbfjobaaGreatDoorHdr2
namespace Go.Proofs.YtdbnnljlbfjobaaGreatDoor
open Go.RowKit

/-- Sector n of a disk's bytes. -/
def secF (B : Nat → Int) (n : Nat) : Nat → Int := fun j => B (n * 256 + j)
/-- The first n of the numbers are done. -/
def doN (D : Dk) (at' : Nat) (K : List Nat) : Nat → Dk
  | 0 => D
  | n + 1 => (doN D at' K n).write (K.getD n 0) (secF (doN D at' K n).B (at' + 1 + n))
def doD (D : Dk) (at' : Nat) (K : List Nat) : Dk := ((doN D at' K K.length).flush.write at' (fun _ => 0)).flush
theorem doN_s (D : Dk) (at' : Nat) (K : List Nat) (n : Nat) : (doN D at' K n).s = D.s := by
  induction n with
  | zero => rfl
  | succ n ih => exact ih
theorem doN_len (D : Dk) (at' : Nat) (K : List Nat) (n : Nat) : (doN D at' K n).E.length = D.E.length + n := by
  induction n with
  | zero => rfl
  | succ n ih =>
    show ((doN D at' K n).E ++ [_]).length = _
    rw [List.length_append, ih]
    rfl
theorem doD_len (D : Dk) (at' : Nat) (K : List Nat) : (doD D at' K).E.length = D.E.length + K.length + 3 := by
  show (((doN D at' K K.length).E ++ [_]) ++ [_] ++ [_]).length = _
  simp [doN_len]
theorem doD_s (D : Dk) (at' : Nat) (K : List Nat) : (doD D at' K).s = D.s := doN_s D at' K _

/-- Rows of other kinds, and maps, stay where a disk changes. -/
structure Fr (g2 : Nat) (w w' : World) : Prop where
  size : w.heap.size ≤ w'.heap.size
  row : ∀ k C t, Row w k C t → t ≠ 60 → t ≠ 101 → (t = 5 → k ≠ g2) → Row w' k C t
  map : ∀ (k : Nat) (es : Array MapEntry) (c : Nat), w.heap[k]? = some (Obj.map es c) → w'.heap[k]? = some (Obj.map es c)
theorem Fr.refl (g2 : Nat) (w : World) : Fr g2 w w := ⟨Nat.le_refl _, fun _ _ _ h _ _ _ => h, fun _ _ _ h => h⟩
theorem Fr.trans {g2 : Nat} {a b c : World} (h : Fr g2 a b) (k : Fr g2 b c) : Fr g2 a c :=
  ⟨Nat.le_trans h.size k.size, fun q C t hr h1 h2 h3 => k.row q C t (h.row q C t hr h1 h2 h3) h1 h2 h3, fun q es c hm => k.map q es c (h.map q es c hm)⟩
theorem Fr.of_below {g2 : Nat} {w w' : World} (h : Below w.heap.size w w') : Fr g2 w w' :=
  ⟨h.size, fun k _ _ hr _ _ _ => (h.block k hr.lt).trans hr, fun k _ _ hm => (h.block k (Array.getElem?_eq_some_iff.1 hm).1).trans hm⟩
theorem Fr.of_chg {w w' : World} {b0 g g1 c1 g2 c2 : Nat} {ev : Value} {D : Dk} (hD : DiskAt w b0 g g1 c1 g2 c2 ev D) (hc : Chg g g2 ev w w') : Fr g2 w w' :=
  ⟨hc.size, fun _ _ _ hr h1 h2 h3 => hr.chg hD hc h1 h2 h3, fun k es c hm => by
    have hne : ∀ q C t, Row w q C t → k ≠ q := fun q C t hr e => by
      subst e
      have := hm.symm.trans hr
      cases this
    refine (hc.block k (Array.getElem?_eq_some_iff.1 hm).1 (hne _ _ _ hD.row) ?_ ?_).trans hm
    · obtain ⟨_, _, _, _, cur, hr, _⟩ := ownsRow_slice hD.now
      exact hne _ _ _ hr
    · intro e
      obtain ⟨_, _, cur, hr⟩ := ownsRow_lt hD.evs k e
      exact hne _ _ _ hr rfl⟩
theorem JAt.fr {w w' : World} {g2 base gj gm gd : Nat} {J : Jn} (h : JAt w base gj gm gd J) (hf : Fr g2 w w') : JAt w' base gj gm gd J := by
  obtain ⟨es, clock, h1, h2⟩ := h.map.ex
  exact ⟨hf.row _ _ _ h.row (by decide) (by decide) (fun e => absurd e (by decide)), ⟨⟨es, clock, hf.map _ _ _ h1, h2⟩, h.map.nodup⟩, h.geJ, h.geM⟩
theorem Ints.fr {w w' : World} {g2 b n : Nat} {F : Nat → Int} (h : Ints w b n F) (hf : Fr g2 w w') : Ints w' b n F := by
  obtain ⟨cur, h1, h2⟩ := h.ex
  exact ⟨cur, hf.row _ _ _ h1 (by decide) (by decide) (fun e => absurd e (by decide)), h2⟩
theorem NumsAt.fr {w w' : World} {g2 base : Nat} {v : Value} {K : List Nat} (h : NumsAt w base v K) (hf : Fr g2 w w') : NumsAt w' base v K := by
  obtain ⟨a, c, h1, h2⟩ := h.ex
  exact ⟨a, c, h1, fun hl => by
    obtain ⟨b, e, hb, hI⟩ := h2 hl
    exact ⟨b, e, hb, hI.fr hf⟩⟩

set_option maxRecDepth 20000 in
set_option maxHeartbeats 4000000 in
theorem do_ok {w : World} {base g1 c1 g2 c2 gd : Nat} {ev : Value} {D : Dk} {jb gj gm kb : Nat} {J : Jn} {v : Value} {K : List Nat} (hD : DiskAt w base gd g1 c1 g2 c2 ev D) (hbase : base ≤ w.heap.size) (hlen : D.E.length ≤ 500000) (hJ : JAt w jb gj gm gd J) (hok : J.at' + J.sec ≤ D.s)
    (hK : NumsAt w kb v K) (hKl : K.length + 1 ≤ J.sec) (hs : J.sec ≤ 31) (hKs : ∀ i, i < K.length → K.getD i 0 < D.s) :
    Calls Tryz.prog 92 #[.pointer (some ⟨gj, 0, none⟩), v] w fun e w' => (∃ r, e = .returned r) ∧ ∃ ev', DiskAt w' base gd g1 c1 g2 c2 ev' (doD D J.at' K) ∧ Fr g2 w w' ∧ Below base w w' := by
  obtain ⟨a, c, rfl, hKI⟩ := hK.ex
  have hmk := fun w => run_make_row' (P := Tryz.prog) 31 5 (.int .u8 0) 1 Tryz.underlying31 Tryz.info5 rfl .i64 .i64 256 (by omega) (by omega) w
  simp only [show ((256 : Nat) : Int) = 256 from rfl] at hmk
  have hZb := made_byts 256
  generalize madeCells #[.int .u8 0] 256 = Z at *
  have HZb : Hid _ := hZb
  have hD2 := hD.ok.hi
  have HD : Hid _ := hD
  have HJ : Hid _ := hJ
  have HKI : Hid _ := hKI
  have HKs : Hid _ := hKs
  clear hD hJ hKI hK hZb hKs
  go_enter Tryz.func92, Tryz.ntmps92
  go_wp2
  go_loopw [10] (fun iv wx => ∃ (i : Nat) (evi : Value), i ≤ K.length ∧ iv = .int .i64 i ∧ Hid (DiskAt wx base gd g1 c1 g2 c2 evi (doN D J.at' K i)) ∧ Hid (Fr g2 w wx) ∧ Hid (Below base w wx)) (fun iv _ => K.length - (intOf iv).toNat)
  case atStart => exact ⟨0, ev, Nat.zero_le _, rfl, HD, Fr.refl _ _, Below.refl _ _⟩
  case round =>
    obtain ⟨i, evi, hi, rfl, hDi, hFi, hBi⟩ := hrel
    clear HD
    have hsz := Nat.le_trans hbase hBi.out.size
    by_cases hlt : i < K.length
    · obtain ⟨b, rfl, _, hI⟩ := HKI.out (by omega)
      have ci := (hI.fr hFi.out).cell i hlt
      obtain ⟨kn, hkn⟩ : ∃ kn, K.getD i 0 = kn := ⟨_, rfl⟩
      have hkb := HKs.out i hlt
      rw [hkn] at ci hkb
      have HKN : Hid _ := hkn
      have hJd : Hid (JAt wr.drew jb gj gm gd J) := (HJ.out.fr hFi.out).below (Below.refl _ _).drew
      have hDd : DiskAt wr.drew base gd g1 c1 g2 c2 evi (doN D J.at' K i) := hDi.out.below (Below.refl _ _).drew (Nat.le_refl _)
      have HDT : Hid _ := data_any hJd.out (by omega) i (by omega)
      have hRD := read_ok hDd (J.at' + 1 + i) (by rw [doN_s]; omega)
      rw [show ((J.at' + 1 + i : Nat) : Int) = (J.at' : Int) + 1 + i by omega] at hRD
      have HRD : Hid _ := hRD
      have hDa := hDd.below ((Below.refl wr.drew.heap.size wr.drew).alloc (Nat.le_refl _) (.cells (byts (fun j => (doN D J.at' K i).B ((J.at' + 1 + i) * 256 + j)) 256).toArray 5)) (Nat.le_refl _)
      have hsB := hDd.ok.B
      have HWr := write_ok hDa (by simp; omega) (by rw [doN_len]; omega) kn (by rw [doN_s]; exact hkb) wr.drew.heap.size 0 256 (secF (doN D J.at' K i).B (J.at' + 1 + i)) _ (Row.new wr.drew _ 5) (by have := hDd.lt2; omega) (fun j hj => by rw [Nat.zero_add]; show _ = some (Value.int .u8 ((doN D J.at' K i).B ((J.at' + 1 + i) * 256 + j))); simpa using byts_at (fun j => (doN D J.at' K i).B ((J.at' + 1 + i) * 256 + j)) 256 j hj) (fun j => hsB _)
      have HHW : Hid _ := HWr
      have HDA : Hid _ := hDa
      have c0 : ∀ C, (wr.drew.alloc (.cells C 5)).cell? ⟨gj, 0, none⟩ = some (.pointer (some ⟨gd, 0, none⟩)) := fun C => ((hJd.out.row.alloc (.cells C 5)).cell 0).trans rfl
      clear HWr hRD hDd hDa hsB hkn hkb hI
      go_wp2_with fail
      refine wp_region_mix [false, false, false, false, false, false, true, true, false, false, false, false, false] (fun wx => Row wx gj #[.pointer (some ⟨gd, 0, none⟩), .int .i64 J.at', .int .i64 J.sec, .map (some gm)] 132) (by kernel_rfl) (by kernel_rfl) hJd.out.row ?_
      refine m_move _ rfl (by rfl) ?_
      simp only [Act.put, List.setIfInBounds_toArray, List.set_cons_zero, List.set_cons_succ]
      refine m_value ?_ (by rfl) (fun w hw => ?_) ?_
      rotate_left
      · go_simp
        with_reducible rfl
      simp only [Act.put, List.setIfInBounds_toArray, List.set_cons_zero, List.set_cons_succ]
      refine m_value ?_ (by rfl) (fun w hw => ?_) ?_
      rotate_left
      · go_simp
        with_reducible rfl
      simp only [Act.put, List.setIfInBounds_toArray, List.set_cons_zero, List.set_cons_succ]
      refine m_value ?_ (by rfl) (fun w hw => ?_) ?_
      rotate_left
      · have hc := (hw.cell 0).trans (rfl : _ = some (Value.pointer (some ⟨gd, 0, none⟩)))
        go_simp
        with_reducible rfl
      simp only [Act.put, List.setIfInBounds_toArray, List.set_cons_zero, List.set_cons_succ]
      refine m_move _ rfl (by rfl) ?_
      simp only [Act.put, List.setIfInBounds_toArray, List.set_cons_zero, List.set_cons_succ]
      refine m_move _ rfl (by rfl) ?_
      simp only [Act.put, List.setIfInBounds_toArray, List.set_cons_zero, List.set_cons_succ]
      refine m_call (by rfl) 90 #[.pointer (some ⟨gj, 0, none⟩), .int .i64 i] (by go_simp) (Calls.mono HDT.out fun e w' ⟨he, hw'⟩ => ⟨_, he, by rw [hw']; exact hJd.out.row, ?_⟩)
      subst hw'
      simp only [Act.put, List.setIfInBounds_toArray, List.set_cons_zero, List.set_cons_succ]
      refine m_call (by rfl) 107 #[.pointer (some ⟨gd, 0, none⟩), .int .i64 (J.at' + 1 + i)] (by go_simp) (Calls.mono HRD.out fun e w' ⟨he, hw'⟩ => ⟨_, he, by rw [hw']; exact hJd.out.row.alloc _, ?_⟩)
      subst hw'
      simp only [Act.put, List.setIfInBounds_toArray, List.set_cons_zero, List.set_cons_succ]
      refine m_move _ rfl (by rfl) ?_
      simp only [Act.put, List.setIfInBounds_toArray, List.set_cons_zero, List.set_cons_succ]
      refine m_value ?_ (by rfl) (fun w hw => ?_) ?_
      rotate_left
      · go_simp
        with_reducible rfl
      simp only [Act.put, List.setIfInBounds_toArray, List.set_cons_zero, List.set_cons_succ]
      refine m_value ?_ (by rfl) (fun w hw => ?_) ?_
      rotate_left
      · go_simp
        with_reducible rfl
      simp only [Act.put, List.setIfInBounds_toArray, List.set_cons_zero, List.set_cons_succ]
      refine m_assign _ rfl (by rfl) ?_
      simp only [Act.put, List.setIfInBounds_toArray, List.set_cons_zero, List.set_cons_succ]
      refine m_assign _ rfl (by rfl) ?_
      simp only [Act.put, List.setIfInBounds_toArray, List.set_cons_zero, List.set_cons_succ]
      refine m_done ?_
      try simp only [Exit.then]
      generalize (byts (fun j => (doN D J.at' K i).B ((J.at' + 1 + i) * 256 + j)) 256).toArray = Ca at *
      have c0a := c0 Ca
      have hbA : Below wr.heap.size wr (wr.drew.alloc (.cells Ca 5)) := ((Below.refl _ _).drew).alloc (Nat.le_refl _) _
      clear c0
      have hszA : wr.heap.size ≤ (wr.drew.alloc (.cells Ca 5)).heap.size := hbA.size
      generalize wr.drew.alloc (.cells Ca 5) = wA at *
      go_wp2_with fail
      refine Calls.mono HHW.out ?_
      rintro e w3 ⟨rfl, ev3, hD3, hc3⟩
      have hD3' : Hid (DiskAt w3 base gd g1 c1 g2 c2 ev3 (doN D J.at' K (i + 1))) := by
        show DiskAt w3 base gd g1 c1 g2 c2 ev3 ((doN D J.at' K i).write (K.getD i 0) (secF (doN D J.at' K i).B (J.at' + 1 + i)))
        rw [show K.getD i 0 = kn from HKN.out]
        exact hD3
      have hF3 : Hid (Fr g2 w w3) := hFi.out.trans ((Fr.of_below hbA).trans (Fr.of_chg HDA.out hc3))
      have hB3 : Hid (Below base w w3) := hBi.out.trans ((hbA.mono hsz).trans (HDA.out.chg hc3 (by omega)))
      clear hD3 hc3 hbA HHW HDA c0a HRD HDT hJd
      go_wp2
      go_roundw
      case rel => exact ⟨i + 1, ev3, by omega, by go_num, hD3', hF3, hB3⟩
      case measure => simp [intOf]; omega
    · have hiK : i = K.length := by omega
      subst hiK
      have hJr := HJ.out.fr hFi.out
      have c0 := (hJr.row.cell 0).trans (rfl : _ = some (Value.pointer (some ⟨gd, 0, none⟩)))
      have HFl := flush_ok hDi.out hsz (by rw [doN_len]; omega)
      have HHF : Hid _ := HFl
      have HJr : Hid _ := hJr
      clear HFl hJr
      go_wp2_with fail
      refine Calls.mono HHF.out ?_
      rintro e w4 ⟨rfl, ev4, hD4, hc4⟩
      have hF4 : Fr g2 w w4 := hFi.out.trans (Fr.of_chg hDi.out hc4)
      have hB4 : Below base w w4 := hBi.out.trans (hDi.out.chg hc4 hsz)
      have hJ4 : Hid (JAt w4.drew jb gj gm gd J) := (HJ.out.fr hF4).below (Below.refl _ _).drew
      have hs4 := Nat.le_trans hbase hB4.size
      have hbZ : Below w4.heap.size w4 (w4.drew.alloc (.cells Z 5)) := ((Below.refl _ _).drew).alloc (Nat.le_refl _) _
      have hD4' := hD4.below hbZ (Nat.le_refl _)
      have HD4' : Hid _ := hD4'
      have hW2 := write_ok hD4' (by simp; omega) (by show ((doN D J.at' K K.length).E ++ [_]).length ≤ _; rw [List.length_append, doN_len]; simp; omega) J.at' (by show J.at' < (doN D J.at' K K.length).s; rw [doN_s]; omega) w4.drew.heap.size 0 256 (fun _ => 0) Z (Row.new w4.drew Z 5) (by have := hD4.lt2; show w4.heap.size ≠ g2; omega) (fun j hj => by rw [Nat.zero_add, ← Array.getElem?_toList, show Z.toList = _ from HZb.out, byts_at _ _ _ hj]) (fun _ => by decide)
      have HW2 : Hid _ := hW2
      have HF4 : Hid _ := hF4
      have HB4 : Hid _ := hB4
      have HbZ : Hid _ := hbZ
      clear hD4 hc4 hD4' hW2 hF4 hB4 hbZ HHF c0
      go_wp2_with fail
      refine wp_region_mix [false, false, false, false, false, false, false, false, true, true] (fun wx => Row wx gj #[.pointer (some ⟨gd, 0, none⟩), .int .i64 J.at', .int .i64 J.sec, .map (some gm)] 132) (by kernel_rfl) (by kernel_rfl) hJ4.out.row ?_
      refine m_move _ rfl (by rfl) ?_
      simp only [Act.put, List.setIfInBounds_toArray, List.set_cons_zero, List.set_cons_succ]
      refine m_value ?_ (by rfl) (fun w hw => ?_) ?_
      rotate_left
      · go_simp
        with_reducible rfl
      simp only [Act.put, List.setIfInBounds_toArray, List.set_cons_zero, List.set_cons_succ]
      refine m_value ?_ (by rfl) (fun w hw => ?_) ?_
      rotate_left
      · go_simp
        with_reducible rfl
      simp only [Act.put, List.setIfInBounds_toArray, List.set_cons_zero, List.set_cons_succ]
      refine m_value ?_ (by rfl) (fun w hw => ?_) ?_
      rotate_left
      · have hc := (hw.cell 0).trans (rfl : _ = some (Value.pointer (some ⟨gd, 0, none⟩)))
        go_simp
        with_reducible rfl
      simp only [Act.put, List.setIfInBounds_toArray, List.set_cons_zero, List.set_cons_succ]
      refine m_move _ rfl (by rfl) ?_
      simp only [Act.put, List.setIfInBounds_toArray, List.set_cons_zero, List.set_cons_succ]
      refine m_value ?_ (by rfl) (fun w hw => ?_) ?_
      rotate_left
      · go_simp
        with_reducible rfl
      simp only [Act.put, List.setIfInBounds_toArray, List.set_cons_zero, List.set_cons_succ]
      refine m_value ?_ (by rfl) (fun w hw => ?_) ?_
      rotate_left
      · go_simp
        with_reducible rfl
      simp only [Act.put, List.setIfInBounds_toArray, List.set_cons_zero, List.set_cons_succ]
      refine m_value ?_ (by rfl) (fun w hw => ?_) ?_
      rotate_left
      · have hc := (hw.cell 1).trans (rfl : _ = some (Value.int .i64 (J.at' : Int)))
        go_simp
        with_reducible rfl
      simp only [Act.put, List.setIfInBounds_toArray, List.set_cons_zero, List.set_cons_succ]
      refine m_alone (.slice (some ⟨w4.drew.heap.size, 0, none⟩) 256 256) (w4.drew.alloc (.cells Z 5)) (by rfl) (by have hq := hmk w4.drew; go_simp) (hJ4.out.row.alloc _) ?_
      simp only [Act.put, List.setIfInBounds_toArray, List.set_cons_zero, List.set_cons_succ]
      refine m_call (by rfl) 89 #[.pointer (some ⟨gd, 0, none⟩), .int .i64 J.at', .slice (some ⟨w4.drew.heap.size, 0, none⟩) 256 256] (by go_simp) (Calls.mono HW2.out fun e w5 ⟨he, ev5, hD5, hc5⟩ => ⟨_, he, (hJ4.out.row.alloc (.cells Z 5)).chg HD4'.out hc5 (by decide) (by decide) (fun e => absurd e (by decide)), ?_⟩)
      have hF5 : Hid (Fr g2 w w5) := HF4.out.trans ((Fr.of_below HbZ.out).trans (Fr.of_chg HD4'.out hc5))
      have hB5 : Hid (Below base w w5) := HB4.out.trans ((HbZ.out.mono hs4).trans (HD4'.out.chg hc5 (by simp; omega)))
      have hJ5 := HJ.out.fr hF5.out
      have c0 := (hJ5.row.cell 0).trans (rfl : _ = some (Value.pointer (some ⟨gd, 0, none⟩)))
      have hs5 := Nat.le_trans hbase hB5.out.size
      have HFl2 := flush_ok hD5 hs5 (by show ((doN D J.at' K K.length).E ++ [_] ++ [_]).length ≤ _; rw [List.length_append, List.length_append, doN_len]; simp; omega)
      have HHF2 : Hid _ := HFl2
      have HD5 : Hid _ := hD5
      clear HFl2 hD5 hc5 hJ5 HW2 HD4' HbZ HF4 HB4
      subst he
      simp only [Act.put, List.setIfInBounds_toArray, List.set_cons_zero, List.set_cons_succ]
      refine m_done ?_
      try simp only [Exit.then]
      go_wp2_with fail
      refine Calls.mono HHF2.out ?_
      rintro e w6 ⟨rfl, ev6, hD6, hc6⟩
      have hF6 : Fr g2 w w6 := hF5.out.trans (Fr.of_chg HD5.out hc6)
      have hB6 : Below base w w6 := hB5.out.trans (HD5.out.chg hc6 hs5)
      have HD6 : Hid _ := hD6
      clear hD6 hc6 HHF2
      go_wp2
      go_end0
      exact ⟨⟨_, rfl⟩, ev6, HD6.out, hF6, hB6⟩
end Go.Proofs.YtdbnnljlbfjobaaGreatDoor
