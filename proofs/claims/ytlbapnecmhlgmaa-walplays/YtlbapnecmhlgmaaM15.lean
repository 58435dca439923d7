/- The walk of the program's look and Open, whatever the header is. What is put, on both sides; the walk of the document's Get. The walk of the document's Put: what is refused, and what is put again. -/
import Derived.Test.YtlbapnecmhlgmaaM13
import Derived.Test.YtlbapnecmhlgmaaM14
namespace Go.Proofs.Ytlbapnecmhlgmaa
open Go.RowKit

theorem look_cnt {w : World} {b0 g1 c1 g2 c2 gd : Nat} {ev : Value} {D : Dk} {jb gj gm : Nat} {J : Jn} (hD : DiskAt w b0 gd g1 c1 g2 c2 ev D) (hJ : JAt w jb gj gm gd J) (hs2 : 2 ≤ J.sec) (h31 : J.sec ≤ 31) (b c : Nat) (f : Nat → Int) (hc : 256 ≤ c) (hc2 : c ≤ maxLen) (C : Array Value) (hR : Row w b C 5) (hC : ∀ i, i < 256 → C[i]? = some (.int .u8 (f i))) (hf : ∀ i, 0 ≤ f i ∧ f i < 256)
    (hm : ((s8 f).toList == [115, 116, 105, 108, 108, 119, 97, 108]) = true) (hcnt : word f 1 < 1 ∨ (J.sec : Int) - 1 < word f 1) :
    Calls Try.prog 31 #[.pointer (some ⟨gj, 0, none⟩), .slice (some ⟨b, 0, none⟩) 256 c] w fun e w' => e = .returned (.tuple #[.slice none 0 0, .bool false]) ∧ w' = w := by
  have hcv := fun cap => conv8 w b cap f (fun i hi => by rw [hR.cell i]; exact hC i (by omega))
  have HW1 := wordOf_any b c 1 f w (by omega) hc hc2 (fun i hi => by rw [hR.cell i]; exact hC i hi) hf
  rw [show ((1 : Nat) : Int) = 1 from rfl] at HW1
  have HM := most_yes hD hJ h31
  have hwb := word_bd f hf 1
  obtain ⟨S, hS⟩ : ∃ S, s8 f = S := ⟨_, rfl⟩
  simp only [hS] at hcv hm
  generalize word f 1 = W at *
  unfold maxLen at hc2
  have HHW : Hid _ := HW1
  have HHM : Hid _ := HM
  have hcw : IntKind.u64.wrap ((J.sec : Int) - 1) = (J.sec : Int) - 1 := by rw [IntKind.wrap_u64]; omega
  clear hS hR hC HW1 HM hD hJ hf
  by_cases hc1 : W < 1
  · clear hcnt HHM
    go_enter Try.func31, Try.ntmps31
    go_wp2
    go_step3
    go_wp2_with fail
    refine Calls.mono HHW.out ?_
    rintro e w' ⟨rfl, hw'⟩
    subst w'
    clear HHW hcv
    go_wp2
    (try rw [Exit.noGoto_ret])
    go_ret2
    exact ⟨rfl, rfl⟩
  · have hc3 : (J.sec : Int) - 1 < W := hcnt.resolve_left hc1
    clear hcnt
    go_enter Try.func31, Try.ntmps31
    go_wp2
    go_step3
    go_wp2_with fail
    refine Calls.mono HHW.out ?_
    rintro e w' ⟨rfl, hw'⟩
    subst w'
    go_wp2_with fail
    refine Calls.mono HHM.out ?_
    rintro e w' ⟨rfl, hw'⟩
    subst w'
    clear HHW HHM hcv
    go_wp2
    (try rw [Exit.noGoto_ret])
    go_ret2
    exact ⟨rfl, rfl⟩
theorem look_any {w : World} {b0 g1 c1 g2 c2 gd : Nat} {ev : Value} {D : Dk} {jb gj gm : Nat} {J : Jn} (hD : DiskAt w b0 gd g1 c1 g2 c2 ev D) (hJ : JAt w jb gj gm gd J) (hs : J.at' + J.sec ≤ D.s) (hs2 : 2 ≤ J.sec) (h31 : J.sec ≤ 31) (b c : Nat) (f : Nat → Int) (hc : 256 ≤ c) (hc2 : c ≤ maxLen) (C : Array Value) (hR : Row w b C 5) (hC : ∀ i, i < 256 → C[i]? = some (.int .u8 (f i))) (hf : ∀ i, 0 ≤ f i ∧ f i < 256) :
    Calls Try.prog 31 #[.pointer (some ⟨gj, 0, none⟩), .slice (some ⟨b, 0, none⟩) 256 c] w fun e w' => Below w.heap.size w w' ∧ ∃ v bb, e = .returned (.tuple #[v, .bool bb]) ∧ ((bb = true ∧ ∃ cnt, Stands f D.s J.at' J.sec cnt ∧ NumsAt w' w.heap.size v (wordsL f cnt)) ∨ (bb = false ∧ ∀ cnt, ¬ Stands f D.s J.at' J.sec cnt)) := by
  by_cases hun : unmarked f
  · exact (look_no _ b c f w hc hc2 (fun i hi => by rw [hR.cell i]; exact hC i hi) hun).mono fun e w' ⟨h1, h2⟩ => ⟨by rw [h2]; exact Below.refl _ _, _, _, h1, .inr ⟨rfl, fun cnt hc => hc.mark hun⟩⟩
  · have hm : ((s8 f).toList == [115, 116, 105, 108, 108, 119, 97, 108]) = true := by
      unfold unmarked at hun
      simpa using hun
    have hwb := word_bd f hf 1
    by_cases hcn : word f 1 < 1 ∨ (J.sec : Int) - 1 < word f 1
    · exact (look_cnt hD hJ hs2 h31 b c f hc hc2 C hR hC hf hm hcn).mono fun e w' ⟨h1, h2⟩ => ⟨by rw [h2]; exact Below.refl _ _, _, _, h1, .inr ⟨rfl, fun cnt hst => by have := hst.count; have := hst.lo; have := hst.hi; omega⟩⟩
    · obtain ⟨cnt, hcnt⟩ : ∃ cnt : Nat, word f 1 = cnt := ⟨(word f 1).toNat, by omega⟩
      refine (look_go hD hJ hs h31 b c f hc hc2 C hR hC hf hm cnt hcnt (by omega) (by omega)).mono ?_
      rintro e w' ⟨k, v, he, hk, hok, hnk, hN, hb⟩
      by_cases hkc : k = cnt
      · subst hkc
        exact ⟨hb, v, true, by rw [he]; simp, .inl ⟨rfl, k, ⟨fun hu => hun hu, hcnt, by omega, by omega, hok⟩, hN⟩⟩
      · exact ⟨hb, v, false, by rw [he]; simp [hkc], .inr ⟨rfl, fun c hst => by
          have h1 := hst.count
          rw [hcnt] at h1
          have h3 : cnt = c := by omega
          subst h3
          exact hnk (by omega) (hst.ok k (by omega))⟩⟩

set_option maxRecDepth 20000 in
set_option maxHeartbeats 2000000 in
theorem open_any {w : World} {base g1 c1 g2 c2 gd : Nat} {ev : Value} {D : Dk} (hD : DiskAt w base gd g1 c1 g2 c2 ev D) (hbase : base ≤ w.heap.size) (hlen : D.E.length ≤ 400000) (at' sec : Nat) (h2 : 2 ≤ sec) (h31 : sec ≤ 31) (hfit : at' + sec ≤ D.s) :
    Calls Try.prog 10 #[.pointer (some ⟨gd, 0, none⟩), .int .i64 at', .int .i64 sec] w fun e w' => ∃ gj gm ev' D', e = .returned (.tuple #[.pointer (some ⟨gj, 0, none⟩), .int .i64 0]) ∧ opened D at' sec D' ∧ To w w' base gd g1 c1 g2 c2 ev ev' D' ∧ JAt w' w.heap.size gj gm gd ⟨at', sec, []⟩ ∧ Fr g2 w w' ∧ Below base w w' := by
  have hlo' := hD.ok.lo
  have hhi' := hD.ok.hi
  have H1 := sectors_yes gd g2 D.s c2 w hD.cell1 hlo' hhi'
  have hbM : Below w.heap.size w (w.alloc (.map #[] 0)) := (Below.refl _ _).alloc (Nat.le_refl _) _
  have hbJ : Below w.heap.size w ((w.alloc (.map #[] 0)).alloc (.cells #[.pointer (some ⟨gd, 0, none⟩), .int .i64 at', .int .i64 sec, .map (some w.heap.size)] 56)) := hbM.alloc hbM.size _
  have hJ : JAt ((w.alloc (.map #[] 0)).alloc (.cells #[.pointer (some ⟨gd, 0, none⟩), .int .i64 at', .int .i64 sec, .map (some w.heap.size)] 56)) w.heap.size (w.heap.size + 1) w.heap.size gd ⟨at', sec, []⟩ := by
    refine ⟨?_, (MapAt.made w).below ((Below.refl _ _).alloc (Nat.le_refl _) _), by omega, Nat.le_refl _⟩
    have h := Row.new (w.alloc (.map #[] 0)) #[.pointer (some ⟨gd, 0, none⟩), .int .i64 at', .int .i64 sec, .map (some w.heap.size)] 56
    rw [World.size_alloc] at h
    exact h
  have hDJ := hD.below hbJ (Nat.le_refl _)
  have HR := read_ok hDJ at' (by omega)
  have HDJ : Hid _ := hDJ
  have HHR : Hid _ := HR
  have HJ : Hid _ := hJ
  have HB : Hid _ := hbJ
  have hBb := hD.ok.B
  have HBb : Hid _ := hBb
  have hmm : ∀ w : World, (Instr.makeMap 54 none).run Try.prog w = .ok (.map (some w.heap.size)) (w.alloc (.map #[] 0)) := fun _ => rfl
  have h1 : ¬ (D.s : Int) = 0 := by omega
  have h3 : ¬ (sec : Int) < 2 := by omega
  have h4 : ¬ (31 : Int) < sec := by omega
  have h5 : ¬ ((D.s : Int) - sec < at') := by omega
  have HFIT : Hid _ := hfit
  clear hD hDJ HR hJ hbJ hbM hBb
  go_enter Try.func10, Try.ntmps10
  go_wp2_with fail
  refine H1.mono ?_
  rintro e w' ⟨rfl, hw'⟩
  subst w'
  go_wp2_with fail
  refine H1.mono ?_
  rintro e w' ⟨rfl, hw'⟩
  subst w'
  clear H1
  go_wp2_with fail
  refine Calls.mono HHR.out ?_
  rintro e w' ⟨rfl, hw'⟩
  subst w'
  generalize (w.alloc (.map #[] 0)).alloc (.cells #[.pointer (some ⟨gd, 0, none⟩), .int .i64 at', .int .i64 sec, .map (some w.heap.size)] 56) = wJ at *
  have hbC : Below wJ.heap.size wJ (wJ.alloc (.cells (byts (fun i => D.B (at' * 256 + i)) 256).toArray 5)) := (Below.refl _ _).alloc (Nat.le_refl _) _
  have hDC := HDJ.out.below hbC (Nat.le_refl _)
  have hJC := HJ.out.below hbC
  have hLk := look_any hDC hJC HFIT.out h2 h31 wJ.heap.size 256 (secF D.B at') (Nat.le_refl _) (by decide) _ (Row.new wJ _ 5) (fun i hi => by
    show _ = some (Value.int .u8 (D.B (at' * 256 + i)))
    simpa using byts_at (fun i => D.B (at' * 256 + i)) 256 i hi) (fun i => HBb.out _)
  have HLk : Hid _ := hLk
  have hB2 : Below w.heap.size w (wJ.alloc (.cells (byts (fun i => D.B (at' * 256 + i)) 256).toArray 5)) := HB.out.trans (hbC.mono HB.out.size)
  have HB2 : Hid _ := hB2
  have HDC : Hid _ := hDC
  have HJC : Hid _ := hJC
  generalize (byts (fun i => D.B (at' * 256 + i)) 256).toArray = C at *
  clear hbC hDC hJC hLk hB2 HHR HDJ HJ HB
  go_wp2_with fail
  generalize wJ.alloc (.cells C 5) = wC at *
  refine Calls.mono HLk.out ?_
  rintro e w3 ⟨hb3, v, bb, rfl, ⟨rfl, cnt, hst, hN3⟩ | ⟨rfl, hno⟩⟩
  · have hD3 := HDC.out.below hb3 (Nat.le_refl _)
    have hJ3 := HJC.out.below hb3
    have hB3 : Below w.heap.size w w3 := HB2.out.trans (hb3.mono HB2.out.size)
    have hs3 : base ≤ w3.heap.size := Nat.le_trans hbase hB3.size
    have hDo := do_to hD3 hs3 (by omega) hJ3 HFIT.out hN3 (by rw [wordsL_len]; exact hst.hi) h31 (fun i hi => by
      rw [wordsL_len] at hi
      rw [wordsL_at _ _ _ hi]
      have := (hst.ok i hi).1
      have := (word_bd (secF D.B at') (fun j => HBb.out _) (2 + i)).1
      omega)
    have HDo : Hid _ := hDo
    have HB3 : Hid _ := hB3
    have HJ3 : Hid _ := hJ3
    have HST : Hid _ := hst
    have HD3 : Hid _ := hD3
    clear hDo hD3 hJ3 hB3 hN3 hb3 HLk HDC HJC HB2 hst
    go_wp2_with fail
    refine Calls.mono HDo.out ?_
    rintro e w4 ⟨⟨r, rfl⟩, ev4, hT4, hF4, hB4⟩
    have HT : Hid _ := To.after HB3.out hT4
    have HF : Hid (Fr g2 w w4) := (Fr.of_below HB3.out).trans hF4
    have HBB : Hid (Below base w w4) := (HB3.out.mono hbase).trans hB4
    have HJ4 : Hid _ := HJ3.out.fr hF4
    clear hT4 hF4 hB4 HDo HB3
    go_wp2
    go_ret2
    exact ⟨_, _, ev4, _, rfl, .inl ⟨cnt, HST.out, rfl⟩, HT.out, HJ4.out, HF.out, HBB.out⟩
  · have hD3 := HDC.out.below hb3 (Nat.le_refl _)
    have hJ3 := HJC.out.below hb3
    have hB3 : Below w.heap.size w w3 := HB2.out.trans (hb3.mono HB2.out.size)
    have HD3 : Hid _ := hD3
    have HJ3 : Hid _ := hJ3
    have HB3 : Hid _ := hB3
    have HNO : Hid _ := hno
    clear hD3 hJ3 hB3 hno hb3 HLk HDC HJC HB2
    go_wp2
    go_ret2
    exact ⟨_, _, ev, D, rfl, .inr ⟨HNO.out, rfl⟩, ⟨HD3.out, Chg.of_below HB3.out, fun k hk => .inl hk⟩, HJ3.out, Fr.of_below HB3.out, HB3.out.mono hbase⟩

theorem open_bad {w : World} {base g1 c1 g2 c2 gd : Nat} {ev : Value} {D : Dk} (hD : DiskAt w base gd g1 c1 g2 c2 ev D) (A sec : Int) (hbad : sec < 2 ∨ 31 < sec ∨ A < 0 ∨ (D.s : Int) - sec < A) :
    Calls Try.prog 10 #[.pointer (some ⟨gd, 0, none⟩), .int .i64 A, .int .i64 sec] w fun e w' => e = .returned (.tuple #[.pointer none, .int .i64 2]) ∧ w' = w := by
  have hlo := hD.ok.lo
  have hhi := hD.ok.hi
  have H1 := sectors_yes gd g2 D.s c2 w hD.cell1 hlo hhi
  have h1 : ¬ (D.s : Int) = 0 := by omega
  generalize D.s = s at *
  clear hD
  by_cases b1 : sec < 2
  · clear hbad
    go_enter Try.func10, Try.ntmps10
    go_wp2_with fail
    refine H1.mono ?_
    rintro e w' ⟨rfl, rfl⟩
    go_wp2
    go_ret2
    exact ⟨rfl, rfl⟩
  by_cases b2 : 31 < sec
  · clear hbad
    go_enter Try.func10, Try.ntmps10
    go_wp2_with fail
    refine H1.mono ?_
    rintro e w' ⟨rfl, rfl⟩
    go_wp2
    go_ret2
    exact ⟨rfl, rfl⟩
  by_cases b3 : A < 0
  · clear hbad
    go_enter Try.func10, Try.ntmps10
    go_wp2_with fail
    refine H1.mono ?_
    rintro e w' ⟨rfl, rfl⟩
    go_wp2
    go_ret2
    exact ⟨rfl, rfl⟩
  · have b4 : (s : Int) - sec < A := by omega
    have e1 : IntKind.i64.wrap ((s : Int) - sec) = (s : Int) - sec := by rw [IntKind.wrap_i64]; omega
    clear hbad
    go_enter Try.func10, Try.ntmps10
    go_wp2_with fail
    refine H1.mono ?_
    rintro e w' ⟨rfl, hw'⟩
    subst w'
    go_wp2_with fail
    refine H1.mono ?_
    rintro e w' ⟨rfl, hw'⟩
    subst w'
    go_wp2
    go_ret2
    exact ⟨rfl, rfl⟩
end Go.Proofs.Ytlbapnecmhlgmaa
namespace Go.Proofs.Ytlbapnecmhlgmaa
open Go.RowKit

/-- What is put, as the document has it: rising. -/
def putsR (L : List Pt) (K : List Nat) : List Rv := K.map fun k => ⟨(k : Nat), sStr (lookD L k)⟩
theorem putsR_len (L : List Pt) (K : List Nat) : (putsR L K).length = K.length := by simp [putsR]
theorem putsR_at (L : List Pt) (K : List Nat) (i : Nat) (h : i < K.length) : (putsR L K)[i]? = some ⟨(K.getD i 0 : Nat), sStr (lookD L (K.getD i 0))⟩ := by
  simp [putsR, List.getD, List.getElem?_eq_getElem h]
theorem QAt.putAt {w : World} {base gq gr A sec gl c m : Nat} {P : List Rv} (h : QAt w base gq gr A sec (.slice (some ⟨gl, 0, none⟩) m c) P) (i : Nat) (e : Rv) (he : P[i]? = some e) : w.cell? ⟨gl, i * 2, none⟩ = some (.int .i64 e.n) ∧ w.cell? ⟨gl, i * 2 + 1, none⟩ = some (.string e.t) := by
  obtain ⟨e1, e2⟩ := rvCells_at P i e he
  have hi : i < P.length := (List.getElem?_eq_some_iff.1 he).1
  obtain ⟨_, hn, _⟩ := ownsRow_slice h.puts
  subst hn
  exact ⟨(h.puts.cellAt (i * 2) (by omega)).trans e1, (h.puts.cellAt (i * 2 + 1) (by omega)).trans e2⟩

/-- The journal has it: its place. -/
theorem rget_put {w : World} {base gq gr A sec : Nat} {lv : Value} {L : List Pt} {K : List Nat} (h : QAt w base gq gr A sec lv (putsR L K)) (hK : K.Pairwise (· < ·)) (hKl : K.length ≤ 1000) (k : Nat) (hk : k < K.length) :
    Calls Try.prog 50 #[.pointer (some ⟨gq, 0, none⟩), .int .i64 (K.getD k 0 : Nat)] w fun e w' => e = .returned (.tuple #[.string (sStr (lookD L (K.getD k 0))), .int .i64 0]) ∧ w' = w := by
  have c3 := (h.row.cell 3).trans (rfl : _ = some lv)
  have hlen := putsR_len L K
  obtain ⟨a, c, hlv, ha⟩ := own_slice h.puts
  rw [hlen] at hlv ha
  obtain ⟨gl, rfl⟩ := ha (by omega)
  subst hlv
  have HH : Hid _ := h
  have HK : Hid _ := hK
  clear h hK ha hlen
  obtain ⟨n, hn⟩ : ∃ n, n = K.getD k 0 := ⟨_, rfl⟩
  have HN : Hid _ := hn
  rw [← hn]
  clear hn
  obtain ⟨T, hT⟩ : ∃ T, T = sStr (lookD L n) := ⟨_, rfl⟩
  rw [← hT]
  have HT : Hid _ := hT
  clear hT
  go_enter Try.func50, Try.ntmps50
  go_wp2
  go_loopw [6] (fun iv wr => ∃ i : Nat, i ≤ k ∧ iv = .int .i64 i ∧ wr = w) (fun iv _ => k - (intOf iv).toNat)
  case atStart => exact ⟨0, Nat.zero_le _, rfl, rfl⟩
  case round =>
    obtain ⟨i, hi, rfl, rfl⟩ := hrel
    have hil : (i : Int) < (K.length : Int) := by omega
    obtain ⟨d1, d2⟩ := HH.out.putAt i _ (putsR_at L K i (by omega))
    by_cases hik : i < k
    · have hne : ¬ ((K.getD i 0 : Nat) : Int) = (n : Int) := by
        rw [HN.out]
        have := List.pairwise_iff_getElem.1 HK.out i k (by omega) (by omega) hik
        simp only [List.getD, List.getElem?_eq_getElem (show i < K.length by omega), List.getElem?_eq_getElem (show k < K.length by omega), Option.getD_some]
        omega
      obtain ⟨kk, hkk⟩ : ∃ kk, kk = K.getD i 0 := ⟨_, rfl⟩
      rw [← hkk] at d1 hne
      clear hkk d2
      go_wp2
      go_roundw
      case rel => exact ⟨i + 1, by omega, by go_num, trivial⟩
      case measure => simp [intOf]; omega
    · obtain rfl : i = k := by omega
      rw [← show n = K.getD i 0 from HN.out] at d1 d2
      rw [← show T = _ from HT.out] at d2
      go_wp2
      go_ret2
      exact ⟨rfl, rfl⟩
/-- The journal has it not: it is the disk's. -/
theorem rget_disk {w0 w : World} {b0 : Nat} {fv : Value} {D : Dk} {base gq gr A sec : Nat} {lv : Value} {L : List Pt} {K : List Nat} (hJ : RJ w0 b0 gr fv D w) (hL : D.E.length ≤ 900000) (h : QAt w base gq gr A sec lv (putsR L K)) (hKl : K.length ≤ 1000) (n : Nat) (hn : n < D.s) (hno : n ∉ K) :
    Calls Try.prog 50 #[.pointer (some ⟨gq, 0, none⟩), .int .i64 n] w fun e w' => e = .returned (.tuple #[.string (sStr (secF D.B n)), .int .i64 0]) ∧ w' = w := by
  have c3 := (h.row.cell 3).trans (rfl : _ = some lv)
  have c0 := (h.row.cell 0).trans (rfl : _ = some (Value.pointer (some ⟨gr, 0, none⟩)))
  have hlen := putsR_len L K
  have HRd := hJ.read hL n hn
  have HR : Hid _ := HRd
  obtain ⟨a, c, hlv, ha⟩ := own_slice h.puts
  rw [hlen] at hlv ha
  subst hlv
  have HH : Hid _ := h
  have HA : Hid _ := ha
  have HNO : Hid _ := hno
  clear h hJ ha hlen HRd hno
  generalize sStr (secF D.B n) = T at *
  go_enter Try.func50, Try.ntmps50
  go_wp2
  go_loopw [6] (fun iv wr => ∃ i : Nat, i ≤ K.length ∧ iv = .int .i64 i ∧ wr = w) (fun iv _ => K.length - (intOf iv).toNat)
  case atStart => exact ⟨0, Nat.zero_le _, rfl, rfl⟩
  case round =>
    obtain ⟨i, hi, rfl, rfl⟩ := hrel
    by_cases hik : i < K.length
    · have hil : (i : Int) < (K.length : Int) := by omega
      obtain ⟨gl, hgl⟩ := HA.out (by omega)
      subst hgl
      obtain ⟨d1, d2⟩ := HH.out.putAt i _ (putsR_at L K i hik)
      have hne : ¬ ((K.getD i 0 : Nat) : Int) = (n : Int) := fun e => HNO.out (by
        have e' : K.getD i 0 = n := by omega
        rw [← e']
        simp [List.getD, List.getElem?_eq_getElem hik])
      obtain ⟨kk, hkk⟩ : ∃ kk, kk = K.getD i 0 := ⟨_, rfl⟩
      rw [← hkk] at d1 hne
      clear hkk d2
      go_wp2
      go_roundw
      case rel => exact ⟨i + 1, by omega, by go_num, trivial⟩
      case measure => simp [intOf]; omega
    · have hil : ¬ (i : Int) < (K.length : Int) := by omega
      go_wp2_with fail
      refine Calls.mono HR.out ?_
      rintro e w' ⟨rfl, hw'⟩
      subst w'
      go_wp2
      go_ret2
      exact ⟨rfl, rfl⟩
end Go.Proofs.Ytlbapnecmhlgmaa
namespace Go.Proofs.Ytlbapnecmhlgmaa
open Go.RowKit

section
variable {w0 w : World} {b0 : Nat} {fv : Value} {D : Dk} {base gq gr A sec : Nat} {lv : Value} {P : List Rv}

theorem rput_arg (hJ : RJ w0 b0 gr fv D w) (h : QAt w base gq gr A sec lv P) (hA : A ≤ 100000) (hs : sec ≤ 100000) (n : Int) (v : Value) (hn : n < 0 ∨ (D.s : Int) ≤ n ∨ ((A : Int) ≤ n ∧ n < (A : Int) + sec)) :
    Calls Try.prog 14 #[.pointer (some ⟨gq, 0, none⟩), .int .i64 n, v] w fun e w' => e = .returned (.int .i64 2) ∧ Below w.heap.size w w' := by
  obtain ⟨rv, R, Fl, h1, h2, h3⟩ := hJ.ref
  have c0 := (h.row.cell 0).trans (rfl : _ = some (Value.pointer (some ⟨gr, 0, none⟩)))
  have cF := (h1.row.cell 0).trans (rfl : _ = some fv)
  obtain ⟨fa, fc, hfv, _⟩ := own_slice h1.first
  rw [hfv, h2.len] at cF
  have HO := rown_any h hA hs n
  have HHO : Hid _ := HO
  clear h h1 h2 h3 hJ HO hfv
  by_cases n0 : n < 0
  · clear hn HHO
    go_enter Try.func14, Try.ntmps14
    go_wp2
    go_ret
    exact ⟨rfl, Below.refl _ _⟩
  by_cases n1 : (D.s : Int) ≤ n
  · clear hn HHO
    go_enter Try.func14, Try.ntmps14
    go_wp2
    go_ret
    exact ⟨rfl, Below.refl _ _⟩
  · have n2 : (A : Int) ≤ n ∧ n < (A : Int) + sec := by omega
    rw [decide_eq_true n2] at HHO
    clear hn n2
    go_enter Try.func14, Try.ntmps14
    go_wp2_with fail
    refine Calls.mono HHO.out ?_
    rintro e w' ⟨rfl, hw'⟩
    subst w'
    go_wp2
    go_ret
    exact ⟨rfl, (Below.refl _ _).drew⟩
end

theorem rv_set (P : List Rv) (k : Nat) (e : Rv) (t : ByteArray) (he : P[k]? = some e) : (rvCells P).set (k * 2 + 1) (.string t) = rvCells (P.set k ⟨e.n, t⟩) := by
  induction P generalizing k with
  | nil => simp at he
  | cons x P ih =>
    cases k with
    | zero =>
      simp at he
      subst he
      simp [rvCells, Rv.cells]
    | succ k =>
      have h1 : rvCells (x :: P) = x.cells ++ rvCells P := rfl
      have h2 : rvCells ((x :: P).set (k + 1) ⟨e.n, t⟩) = x.cells ++ rvCells (P.set k ⟨e.n, t⟩) := rfl
      rw [h1, h2, List.set_append_right _ _ (by simp [Rv.cells]; omega), ← ih k (by simpa using he)]
      congr 2
      simp [Rv.cells]
      omega
/-- What a cell of a row is set to. -/
theorem QAt.setText {w : World} {base gq gr A sec gl c : Nat} {P : List Rv} (h : QAt w base gq gr A sec (.slice (some ⟨gl, 0, none⟩) P.length c) P) (k : Nat) (e : Rv) (t : ByteArray) (he : P[k]? = some e) :
    QAt (w.setCell ⟨gl, k * 2 + 1, none⟩ (.string t)) base gq gr A sec (.slice (some ⟨gl, 0, none⟩) P.length c) (P.set k ⟨e.n, t⟩) := by
  have hk : k < P.length := (List.getElem?_eq_some_iff.1 he).1
  obtain ⟨hb, _, hc1, hc2, cur, hr, hsz, htk⟩ := ownsRow_slice h.puts
  have hne : gq ≠ gl := row_ne h.row hr (by decide)
  have hset := rv_set P k e t he
  refine ⟨h.row.setCell_other hne _, ?_, h.ge⟩
  have hl := h.puts.1
  refine ⟨by rw [rvCells_len], .inr ⟨gl, c, _, by rw [List.length_set], hb, hr.setCell (i := k * 2 + 1) (.string t), by rw [List.length_set]; exact hc1, hc2, by simpa using hsz, ?_⟩⟩
  rw [Array.toList_setIfInBounds, List.take_set, List.length_set, htk, hset]

set_option maxRecDepth 20000 in
set_option maxHeartbeats 2000000 in
theorem rput_set {w0 w : World} {b0 : Nat} {fv : Value} {D : Dk} {base gq gr A sec : Nat} {lv : Value} {L : List Pt} {K : List Nat} (hJ : RJ w0 b0 gr fv D w) (h : QAt w base gq gr A sec lv (putsR L K)) (hA : A ≤ 100000) (hs : sec ≤ 100000) (hKl : K.length ≤ 1000) (k : Nat) (hk : k < K.length) (hKk : K.Pairwise (· < ·)) (hn : K.getD k 0 < D.s) (hno : K.getD k 0 < A ∨ A + sec ≤ K.getD k 0)
    (b off cap : Nat) (f : Nat → Int) (hcell : ∀ wx, Below w.heap.size w wx → ∀ i, i < 256 → wx.cell? ⟨b, off + i, none⟩ = some (.int .u8 (f i))) :
    Calls Try.prog 14 #[.pointer (some ⟨gq, 0, none⟩), .int .i64 (K.getD k 0 : Nat), .slice (some ⟨b, off, none⟩) 256 cap] w fun e w' => e = .returned (.int .i64 0) ∧ QAt w' base gq gr A sec lv ((putsR L K).set k ⟨(K.getD k 0 : Nat), sStr f⟩) ∧ ∃ w1 gl, Below w.heap.size w w1 ∧ w' = w1.setCell ⟨gl, k * 2 + 1, none⟩ (.string (sStr f)) ∧ lv.ownBlock = some gl := by
  obtain ⟨rv, R, Fl, h1, h2, h3⟩ := hJ.ref
  have c0 := (h.row.cell 0).trans (rfl : _ = some (Value.pointer (some ⟨gr, 0, none⟩)))
  have cF := (h1.row.cell 0).trans (rfl : _ = some fv)
  obtain ⟨fa, fc, hfv, _⟩ := own_slice h1.first
  rw [hfv, h2.len] at cF
  obtain ⟨n, hnn⟩ : ∃ n, n = K.getD k 0 := ⟨_, rfl⟩
  rw [← hnn] at hn hno ⊢
  have HN : Hid _ := hnn
  have HO := rown_any h hA hs n
  rw [decide_eq_false (by omega)] at HO
  have hlen := putsR_len L K
  obtain ⟨a, c, hlv, ha⟩ := own_slice h.puts
  rw [hlen] at hlv ha
  obtain ⟨gl, rfl⟩ := ha (by omega)
  subst hlv
  have HH : Hid _ := h
  have HHO : Hid _ := HO
  have HK : Hid _ := hKk
  have HC : Hid _ := hcell
  have hnl : ¬ (D.s : Int) ≤ n := by omega
  clear h h1 h2 h3 hJ HO hfv ha hKk hcell hnn
  obtain ⟨T, hT⟩ : ∃ T, T = sStr f := ⟨_, rfl⟩
  rw [← hT]
  have HT : Hid _ := hT
  clear hT
  go_enter Try.func14, Try.ntmps14
  go_wp2_with fail
  refine Calls.mono HHO.out ?_
  rintro e w' ⟨rfl, hw'⟩
  subst w'
  clear HHO c0 cF
  go_wp2
  go_loopw [7] (fun iv wr => ∃ i : Nat, i ≤ k ∧ iv = .int .i64 i ∧ wr = w.drew) (fun iv _ => k - (intOf iv).toNat)
  case atStart => exact ⟨0, Nat.zero_le _, rfl, rfl⟩
  case round =>
    obtain ⟨i, hi, rfl, hwr⟩ := hrel
    have hil : (i : Int) < (K.length : Int) := by omega
    have HQ : Hid _ := (HH.out.below (Below.refl w.heap.size w).drew)
    rw [← hwr] at HQ
    have hbw : Below w.heap.size w wr := by rw [hwr]; exact (Below.refl _ _).drew
    have HWR : Hid _ := hwr
    clear hwr
    have c3 := (HQ.out.row.cell 3).trans (rfl : _ = some (Value.slice (some ⟨gl, 0, none⟩) K.length c))
    obtain ⟨d1, d2⟩ := HQ.out.putAt i _ (putsR_at L K i (by omega))
    by_cases hik : i < k
    · have hlt : ((K.getD i 0 : Nat) : Int) < (n : Int) := by
        rw [HN.out]
        have := List.pairwise_iff_getElem.1 HK.out i k (by omega) (by omega) hik
        simp only [List.getD, List.getElem?_eq_getElem (show i < K.length by omega), List.getElem?_eq_getElem (show k < K.length by omega), Option.getD_some]
        omega
      obtain ⟨kk, hkk⟩ : ∃ kk, kk = K.getD i 0 := ⟨_, rfl⟩
      rw [← hkk] at d1 hlt
      clear hkk d2
      go_wp2
      go_roundw
      case rel => exact ⟨i + 1, by omega, by go_num, HWR.out⟩
      case measure => simp [intOf]; omega
    · obtain rfl : i = k := by omega
      rw [← show n = K.getD i 0 from HN.out] at d1
      have hb2 : Below w.heap.size w wr.drew := hbw.drew
      have hQ2 := HQ.out.below (Below.refl wr.heap.size wr).drew
      have HQ2 : Hid _ := hQ2
      obtain ⟨_, _, _, _, cur, hrow, _⟩ := ownsRow_slice hQ2.puts
      have hfz := hrow.frozen (i * 2 + 1)
      have hpl : (putsR L K)[i]? = some ⟨(n : Int), sStr (lookD L (K.getD i 0))⟩ := by rw [HN.out]; exact putsR_at L K i hk
      have hend := QAt.setText (t := T) (by rw [hlen]; exact hQ2) i _ hpl
      rw [hlen] at hend
      have HEND : Hid _ := hend
      have HPUT : Hid _ := hpl
      clear hend hQ2 hrow d2 hpl
      go_wp2_with fail
      refine wp_region_late [9] [(2, 0), (2, 1), (2, 2), (0, 3), (2, 4), (2, 5), (0, 6), (2, 7), (2, 8), (1, 9)] (fun wx => QAt wx base gq gr A sec (.slice (some ⟨gl, 0, none⟩) K.length c) (putsR L K) ∧ Below w.heap.size w wx) (by kernel_rfl) (by kernel_rfl) ⟨HQ2.out, hb2⟩ ?_
      refine f_move (some 73) _ rfl rfl rfl (by rfl) ?_
      simp only [Act.put, List.setIfInBounds_toArray, List.set_cons_zero, List.set_cons_succ]
      refine f_value (some 74) ?_ rfl rfl (by rfl) (fun w hw => ?_) ?_
      rotate_left
      · go_simp
        with_reducible rfl
      simp only [Act.put, List.setIfInBounds_toArray, List.set_cons_zero, List.set_cons_succ]
      refine f_value (some 75) ?_ rfl rfl (by rfl) (fun w hw => ?_) ?_
      rotate_left
      · go_simp
        with_reducible rfl
      simp only [Act.put, List.setIfInBounds_toArray, List.set_cons_zero, List.set_cons_succ]
      refine l_value (some 76) ?_ rfl rfl (by rfl) (fun w hw => ?_) ?_
      rotate_left
      · have hc := (hw.1.row.cell 3).trans (rfl : _ = some (Value.slice (some ⟨gl, 0, none⟩) K.length c))
        go_simp
        with_reducible rfl
      simp only [Act.put, List.setIfInBounds_toArray, List.set_cons_zero, List.set_cons_succ]
      refine f_move (some 77) _ rfl rfl rfl (by rfl) ?_
      simp only [Act.put, List.setIfInBounds_toArray, List.set_cons_zero, List.set_cons_succ]
      refine f_move (some 78) _ rfl rfl rfl (by rfl) ?_
      simp only [Act.put, List.setIfInBounds_toArray, List.set_cons_zero, List.set_cons_succ]
      refine l_value (some 79) ?_ rfl rfl (by rfl) (fun w hw => ?_) ?_
      rotate_left
      · have hcv : (convert 40 9 (.slice (some ⟨b, off, none⟩) 256 cap)).run Try.prog w = .ok (.string T) w := by rw [HT.out]; exact conv256 w b off cap f (HC.out w hw.2)
        go_simp
        with_reducible rfl
      simp only [Act.put, List.setIfInBounds_toArray, List.set_cons_zero, List.set_cons_succ]
      refine f_value (some 80) ?_ rfl rfl (by rfl) (fun w hw => ?_) ?_
      rotate_left
      · go_simp
        with_reducible rfl
      simp only [Act.put, List.setIfInBounds_toArray, List.set_cons_zero, List.set_cons_succ]
      refine f_value (some 81) ?_ rfl rfl (by rfl) (fun w hw => ?_) ?_
      rotate_left
      · go_simp
        with_reducible rfl
      simp only [Act.put, List.setIfInBounds_toArray, List.set_cons_zero, List.set_cons_succ]
      refine l_store (wr.drew.setCell ⟨gl, i * 2 + 1, none⟩ (.string T)) rfl rfl (by rfl) (by have hc := (HQ2.out.putAt i _ HPUT.out).2; go_simp) (fun h => by cases h) ?_
      refine l_done ?_
      try simp only [Exit.then]
      go_wp2
      go_ret
      refine ⟨rfl, ?_, wr.drew, gl, hb2, rfl, rfl⟩
      exact HEND.out
end Go.Proofs.Ytlbapnecmhlgmaa
