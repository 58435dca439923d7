/- My own work: the law RefdbTells. -/
import Derived.Test.YtkbhckjpmgkgjaaG37
namespace Go.Proofs.Ytkbhckjpmgkgjaa
open Go.RowKit
open Classical

theorem new_twoB {L : List Inf} {w w' : World} {e : Ending} (h : NewPostB L w e w') : ∃ v8 e9, e = .returned (.tuple #[v8, .int .i64 e9]) := by
  obtain ⟨_, ⟨_, rfl⟩ | ⟨_, rfl⟩ | ⟨_, g, _, _, _, rfl, _⟩⟩ := h
  · exact ⟨_, _, rfl⟩
  · exact ⟨_, _, rfl⟩
  · exact ⟨_, _, rfl⟩
theorem Lst.pair {X : List ByteArray} {w w' w2 w3 : World} {v v2 : Value} (h : Lst X w v w') (hb : Below w'.heap.size w' w2) (h2 : Lst X w2 v2 w3) : ∃ a c a2 c2, v = .slice a X.length c ∧ v2 = .slice a2 X.length c2 ∧ StrsAt w3 a X c ∧ StrsAt w3 a2 X c2 := by
  obtain ⟨a, c, h3, h4, h5⟩ := h
  obtain ⟨a2, c2, h6, h7, h8⟩ := h2
  exact ⟨a, c, a2, c2, h3, h6, (h4.keep hb).keep h8, h7⟩
theorem paths_slice {w6 : World} {B : Nat} {v6 : Value} {X : List ByteArray} (h : w6.ownsRow B 9 1 v6 (0 + X.length) ([] ++ X.map Value.string)) (hl : X.length ≤ 100) (he : ∀ x ∈ X, x.size ≤ big) : ∃ ca cc, v6 = .slice ca X.length cc ∧ StrsAt w6 ca X cc := by
  rw [Nat.zero_add, List.nil_append] at h
  obtain ⟨ca, cc, h1, h2, _⟩ := own_strs (X := X) h (by unfold big; omega) he
  exact ⟨ca, cc, h1, h2⟩
theorem ap_below {wE w6 : World} {v : Value} {n : Nat} {xs : List Value} (hg : (wE.alloc (.cells #[] 9)).grownBy w6 v.ownBlock) (ho : (wE.alloc (.cells #[] 9)).ownsRow wE.heap.size 9 1 v n xs) : Below wE.heap.size wE w6 :=
  ⟨hg.os, hg.tape, hg.output, by have := hg.size; simp at this; omega, fun k hk => (hg.block k (by simp; omega) (fun e => by have := (ownsRow_lt' ho k e.symm).2; omega)).trans (((Below.refl wE.heap.size wE).alloc (Nat.le_refl _) _).block k hk)⟩
set_option maxRecDepth 20000 in
set_option maxHeartbeats 32000000 in
theorem law_tells (L : List Inf) (la : Option Addr) (lc : Nat) (paths : List ByteArray) (pa : Option Addr) (pc : Nat) (p : ByteArray) (w : World) (h : LsAt w la L lc) (hLn : L.length ≤ 140737488355328) (hr : StrsAt w pa paths pc) (hp : p.size ≤ big) :
    Calls Try.prog 3 #[.slice la L.length lc, .slice pa paths.length pc, .string p] w fun e w' => e = .returned (.bool true) ∧ Below w.heap.size w w' := by
  have hfew := few_ok L la lc w h hLn
  have hrl := hr.len
  have hrle := hr.le
  unfold big at hrl
  have hle := h.le
  have HL : Hid (LsAt w la L lc) := h
  have HR : Hid (StrsAt w pa paths pc) := hr
  have HP : Hid (p.size ≤ big) := hp
  obtain ⟨n, hN⟩ : ∃ n, n = L.length := ⟨_, rfl⟩
  obtain ⟨nr, hNr⟩ : ∃ nr, nr = paths.length := ⟨_, rfl⟩
  rw [← hN] at hfew hLn hle
  rw [← hN, ← hNr]
  rw [← hNr] at hrl hrle
  have HN : Hid _ := hN
  have HNr : Hid _ := hNr
  clear h hr hp hN hNr
  go_enter Try.func3, Try.ntmps3
  go_wp2_with fail
  refine hfew.mono ?_
  rintro e w1 ⟨rfl, bo, rfl, hbo⟩
  clear hfew
  cases bo with
  | false =>
    go_wp2
    go_ret
    exact ⟨rfl, Below.refl _ _⟩
  | true =>
    obtain ⟨h400, hr400⟩ := hbo rfl
    clear hbo
    by_cases hbig : 100 < nr
    · have hbig' : (100 : Int) < (nr : Int) := by omega
      go_wp2
      go_ret
      exact ⟨rfl, Below.refl _ _⟩
    have hbig' : ¬ (100 : Int) < (nr : Int) := by omega
    have hownA := own_ok2 L la lc w1 HL.out (by have := HN.out; omega) hr400
    have H400 : Hid _ := hr400
    have H4096 : Hid (L.length ≤ 4096) := by have := HN.out; show _ ≤ _; omega
    rw [← HN.out] at hownA
    clear hr400
    go_wp2_with fail
    refine hownA.mono ?_
    rintro e w2 ⟨ov, rv, rfl, hO⟩
    obtain ⟨oa, oc, rfl, hLs2⟩ := hO.done (fun x hx => by
      obtain ⟨_, _, _, hc9⟩ := HL.out.ex
      obtain ⟨t, ht, rfl⟩ := List.getElem_of_mem hx
      obtain ⟨_, _, _, hif⟩ := hc9 t ht
      exact ⟨hif.path, hif.hash, hif.der, H400.out _ (List.getElem_mem ht), hif.refs.each⟩)
    have hoc := hLs2.le
    rw [← HN.out] at hoc
    have hnew := newB_ok L oa oc w2 hLs2 H4096.out
    have HO : Hid (OwnSt w1 L L.length (.slice oa L.length oc) rv w2) := hO
    rw [← HN.out] at hnew
    have HB2 : Hid (Below w1.heap.size w1 w2) := hO.old
    clear hownA hLs2 hO
    rw [← HN.out]
    go_wp2_with fail
    refine hnew.mono ?_
    rintro e w3 hNP
    clear hnew
    obtain ⟨hb3, hcase⟩ := hNP
    have HB23 : Hid (Below w2.heap.size w2 w3) := hb3
    have HB3 : Hid (Below w1.heap.size w1 w3) := HB2.out.trans (hb3.mono HB2.out.size)
    have hwr := refWrong_ok L la lc w3 (HL.out.keep HB3.out) H4096.out
    rw [← HN.out] at hwr
    have hna := names12_ok w3
    clear hb3
    rcases hcase with ⟨h1, rfl⟩ | ⟨h1, rfl⟩ | ⟨h1, g, P, dv, E, rfl, hGF, hGr⟩
    · rw [wrong_there h1] at hwr
      clear h1
      go_wp2_with fail
      refine hwr.mono ?_
      rintro e w4 ⟨rfl, hw4⟩
      rw [hw4]
      clear hw4 hwr
      go_wp2_with fail
      refine hna.mono ?_
      rintro e w4 ⟨rfl, hw4⟩
      rw [hw4]
      clear hw4 hna
      go_wp2
      go_ret
      exact ⟨rfl, HB3.out⟩
    · rw [wrong_none h1] at hwr
      clear h1
      go_wp2_with fail
      refine hwr.mono ?_
      rintro e w4 ⟨rfl, hw4⟩
      rw [hw4]
      clear hw4 hwr
      go_wp2_with fail
      refine hna.mono ?_
      rintro e w4 ⟨rfl, hw4⟩
      rw [hw4]
      clear hw4 hna
      go_wp2
      go_ret
      exact ⟨rfl, HB3.out⟩
    · rw [wrong_fine h1] at hwr
      have HF : Hid (Fine L) := h1
      have HGF : Hid (GFar w3 w2.heap.size g P dv E) := hGF
      have HGr : Hid (Gr L P dv E) := hGr
      have HU : Hid (Up P) := hGF.up
      have HPl : Hid (P.length ≤ 4096) := by show _ ≤ _; rw [hGr.len]; exact H4096.out
      have HPb : Hid (∀ x ∈ P, x.size ≤ big) := hGF.at.big
      have HQ0 : Hid (QSt w1 w3 w3 w2.heap.size L (.slice oa L.length oc) rv) := QSt.start HO.out HB23.out
      clear h1 hGF hGr
      go_wp2_with fail
      refine hwr.mono ?_
      rintro e w4 ⟨rfl, hw4⟩
      rw [hw4]
      clear hw4 hwr
      go_wp2_with fail
      refine hna.mono ?_
      rintro e w4 ⟨rfl, hw4⟩
      rw [hw4]
      clear hw4 hna
      go_wp2
      go_loopw [11] (fun iv wr => ∃ i : Nat, iv = .int .i64 i ∧ i ≤ n ∧ Hid (QSt w1 w3 wr w2.heap.size L (.slice oa L.length oc) rv)) (fun iv _ => n - (intOf iv).toNat)
      case atStart => exact ⟨0, rfl, Nat.zero_le _, HQ0⟩
      case round =>
        clear HQ0
        obtain ⟨i, rfl, hi, HQ⟩ := hrel
        by_cases hlt : i < n
        · have hlt' : (i : Int) < (n : Int) := by omega
          have hiL : i < L.length := by have := HN.out; omega
          have hout := HQ.out.out
          obtain ⟨ob, rfl⟩ : ∃ ob, oa = some ⟨ob, 0, none⟩ := by
            obtain ⟨_, ⟨_, h2⟩ | ⟨g', cap, cur, h2, _⟩⟩ := id hout
            · omega
            · simp only [Value.slice.injEq] at h2
              exact ⟨g', h2.1⟩
          have HC3 : Hid (∀ wx, QSt w1 w3 wx w2.heap.size L (.slice (some ⟨ob, 0, none⟩) L.length oc) rv → wx.cell? ⟨ob, i * 4 + 3, none⟩ = some (rv i)) := fun wx hx => by
            rw [hx.out.cellAt (i * 4 + 3) (by omega), flatL_at L rv L.length i hiL (Nat.le_refl _) 3 (by omega)]
            rfl
          obtain ⟨fa, fc, hrv, hfc, hfr⟩ := HQ.out.rfs i hiL
          rw [hrv] at HC3
          obtain ⟨mx, hmx⟩ : ∃ mx, mx = L[i].refs.length := ⟨_, rfl⟩
          rw [← hmx] at hfc HC3
          have hmxb : mx < 400 := by rw [hmx]; exact H400.out _ (List.getElem_mem hiL)
          have HMx : Hid _ := hmx
          have HRv : Hid (rv i = .slice fa mx fc) := by show _ = _; rw [hrv, hmx]
          have hc3 := HC3.out wr HQ.out
          clear hrv hfr hmx hout
          go_wp2
          go_loopw [12] (fun kv wi => ∃ k : Nat, kv = .int .i64 k ∧ k ≤ mx ∧ Hid (QSt w1 w3 wi w2.heap.size L (.slice (some ⟨ob, 0, none⟩) L.length oc) rv)) (fun kv _ => mx - (intOf kv).toNat)
          case atStart => exact ⟨0, rfl, Nat.zero_le _, HQ⟩
          case round =>
            clear HQ hc3
            obtain ⟨k, rfl, hk, HQ⟩ := hrel
            have hc3 := HC3.out wr HQ.out
            by_cases hkm : k < mx
            · have hkm' : (k : Int) < (mx : Int) := by omega
              obtain ⟨a9, c9, h9, _, h10⟩ := HQ.out.rfs i hiL
              obtain ⟨gr, C, hga, hg1, hg2, hrow, hcs⟩ := h10 (by have := HMx.out; omega)
              rw [HRv.out] at h9
              simp only [Value.slice.injEq] at h9
              obtain ⟨rfl, -, rfl⟩ := h9
              subst hga
              obtain ⟨z, hz⟩ := hcs k (by have := HMx.out; omega)
              have hcz : wr.cell? ⟨gr, k, none⟩ = some (.string z) := by rw [hrow.cell k]; exact hz
              have hfz := hrow.frozen k
              have HQ2 : Hid (QSt w1 w3 (wr.setCell ⟨gr, k, none⟩ (.string ⟨#[63]⟩)) w2.heap.size L (.slice (some ⟨ob, 0, none⟩) L.length oc) rv) := HQ.out.put hg1 hg2 hrow _
              clear h10 hrow hcs hz
              go_wp2
              go_roundw
              case rel => exact ⟨k + 1, by go_num, by omega, HQ2⟩
              case measure => simp [intOf]; omega
            · have hkm' : ¬ (k : Int) < (mx : Int) := by omega
              go_wp2
              go_roundw
              case rel => exact ⟨i + 1, by go_num, by omega, HQ⟩
              case measure => simp [intOf]; omega
        · have hlt' : ¬ (i : Int) < (n : Int) := by omega
          have HB : Hid (Below w1.heap.size w1 wr) := HQ.out.old
          have hG := (HGF.out.keep HQ.out.up).at
          have HG : Hid (GAt wr g P dv E) := hG
          have HEb : Hid (∀ x ∈ E, x.1 < P.length ∧ x.2 < P.length) := HGr.out.edges
          obtain ⟨wE, rfl⟩ : ∃ x, x = wr := ⟨wr, rfl⟩
          have hb0 : Below wE.heap.size wE (wE.alloc (.cells #[] 9)) := (Below.refl _ _).alloc (Nat.le_refl _) _
          have HB0 : Hid _ := hb0
          have hoe := own_empty wE 9 1 wE.heap.size (Nat.le_refl _)
          have hSp0 : StrsAt (wE.alloc (.cells #[] 9)) pa paths pc := (HR.out.keep HB.out).keep hb0
          have HSp0 : Hid _ := hSp0
          have hsz0 : wE.heap.size ≤ (wE.alloc (.cells #[] 9)).heap.size := hb0.size
          have hnr1 : (0 + nr) * 16 ≤ 140737488355328 := by omega
          have HOe : Hid _ := hoe
          clear HQ hG hb0 hoe hSp0
          go_wp2_with (first
            | fail
            | (at_builtin
               refine wpList_plain rfl fun K' hK' => ?_
               refine ap_strs (some 86) rfl (.tmp 84) (.tmp 85) rfl wE.heap.size _ 0 [] rfl HOe.out pa pc paths (by rw [← HNr.out]; rfl) HSp0.out hsz0 (by rw [← HNr.out]; exact hnr1) ?_
               intro v6 w6 hown6 hg6
               refine hK' _ _ ?_
               have HB6 : Hid (Below wE.heap.size wE w6) := ap_below hg6 HOe.out
               obtain ⟨ca, cc, hcv, hCS⟩ := paths_slice hown6 (by have := HNr.out; omega) (StrsAt.each HR.out)
               subst hcv
               have HCS : Hid (StrsAt w6 ca paths cc) := hCS
               rw [← HNr.out]
               clear hown6 hg6 hCS))
          have hB16 : Below w1.heap.size w1 w6 := HB.out.trans (HB6.out.mono HB.out.size)
          have hG6 := HG.out.keep HB6.out
          have H1 := closure_ok g P dv paths E ca cc w6 hG6 HPl.out HEb.out HCS.out
          rw [← HNr.out] at H1
          go_wp2_with fail
          refine H1.mono ?_
          rintro e w7 h7
          obtain ⟨xa, xc, rfl, hSx, hb7⟩ := closure_told h7 HPl.out HPb.out
          have hB17 := hB16.trans (hb7.mono hB16.size)
          have hG7 := hG6.keep hb7
          have HT1 : Hid (Lst (cloX P paths E) w6 (.slice xa (cloX P paths E).length xc) w7) := ⟨xa, xc, rfl, hSx, hb7⟩
          have H2 := refClosure_ok L la lc paths pa pc w7 (HL.out.keep hB17) H4096.out HF.out (HR.out.keep hB17)
          rw [← HN.out, ← HNr.out] at H2
          clear H1 h7 hSx
          go_wp2_with fail
          refine H2.mono ?_
          rintro e w8 h8
          obtain ⟨v8, rfl, hT2⟩ := closD_told HGr.out HU.out HF.out HPl.out HPb.out h8
          obtain ⟨xa2, xc2, rfl, hSx2, hb8⟩ := id hT2
          have hB18 := hB17.trans (hb8.mono hB17.size)
          have hG8 := hG7.keep hb8
          have HT2 : Hid (StrsAt w8 xa2 (cloX P paths E) xc2) := hSx2
          have HT1' : Hid (StrsAt w8 xa (cloX P paths E) xc) := by
            obtain ⟨a5, c5, h5, h6, _⟩ := HT1.out
            simp only [Value.slice.injEq] at h5
            obtain ⟨rfl, -, rfl⟩ := h5
            exact h6.keep hb8
          have H3 := referrers_ok g P dv E p w8 hG8 HPl.out
          clear H2 h8 hT2 hSx2 HT1
          go_wp2_with fail
          refine H3.mono ?_
          rintro e w9 h9
          obtain ⟨v9, rfl, hT3⟩ := refer_told HU.out HPl.out HPb.out h9
          obtain ⟨ra, rc, rfl, hSr, hb9⟩ := id hT3
          have hB19 := hB18.trans (hb9.mono hB18.size)
          have hG9 := hG8.keep hb9
          have H4 := refReferrers_ok L la lc p w9 (HL.out.keep hB19) H4096.out
          rw [← HN.out] at H4
          clear H3 h9 hT3
          go_wp2_with fail
          refine H4.mono ?_
          rintro e w10 h10
          obtain ⟨v10, rfl, hT4⟩ := referD_told HGr.out HU.out HF.out HPl.out HPb.out h10
          obtain ⟨ra2, rc2, rfl, hSr2, hb10⟩ := id hT4
          have hB110 := hB19.trans (hb10.mono hB19.size)
          have hG10 := hG9.keep hb10
          have HR1 : Hid (StrsAt w10 ra (rfrX P E p) rc) := hSr.keep hb10
          have HR2 : Hid (StrsAt w10 ra2 (rfrX P E p) rc2) := hSr2
          have H5 := order_ok g P dv E w10 hG10 HPl.out HEb.out
          clear H4 h10 hT4 hSr hSr2
          go_wp2_with fail
          refine H5.mono ?_
          rintro e w11 h11
          obtain ⟨D, O, oxa, oxc, hD, hO, hFz, rfl, hSo, hb11⟩ := order_told h11 HPl.out HPb.out
          have hB111 := hB110.trans (hb11.mono hB110.size)
          have hG11 := hG10.keep hb11
          have H6 := refOrder_ok L la lc P dv E w11 (HL.out.keep hB111) H4096.out HF.out HGr.out HU.out
          rw [← HN.out] at H6
          clear H5 h11
          go_wp2_with fail
          refine H6.mono ?_
          rintro e w12 h12
          obtain ⟨D2, O2, oya, oyc, hD2, hO2, hFz2, rfl, hSo2, hb12⟩ := order_told h12 HPl.out HPb.out
          have eO : O2 = O := order_turned (fun _ => Iff.rfl) hD hD2 hO hO2 hFz hFz2
          subst eO
          have hB112 := hB111.trans (hb12.mono hB111.size)
          have hG12 := hG11.keep hb12
          have HO1 : Hid (StrsAt w12 oxa (ordX P O2) oxc) := hSo.keep hb12
          have HO2 : Hid (StrsAt w12 oya (ordX P O2) oyc) := hSo2
          have hb812 : Below w8.heap.size w8 w12 := hb9.trans ((hb10.trans ((hb11.trans (hb12.mono hb11.size)).mono hb10.size)).mono hb9.size)
          have hb1012 : Below w10.heap.size w10 w12 := hb11.trans (hb12.mono hb11.size)
          have H7 := same_ok xa xa2 (cloX P paths E) xc xc2 w12 (HT1'.out.keep hb812) (HT2.out.keep hb812)
          clear H6 h12 hD hD2 hO hO2 hFz hFz2 hSo hSo2
          go_wp2_with fail
          refine H7.mono ?_
          rintro e w13 ⟨rfl, hb13⟩
          have H8 := same_ok ra ra2 (rfrX P E p) rc rc2 w13 ((HR1.out.keep hb1012).keep hb13) ((HR2.out.keep hb1012).keep hb13)
          clear H7
          go_wp2_with fail
          refine H8.mono ?_
          rintro e w14 ⟨rfl, hb14⟩
          have H9 := same_ok oxa oya (ordX P O2) oxc oyc w14 ((HO1.out.keep hb13).keep hb14) ((HO2.out.keep hb13).keep hb14)
          clear H8
          go_wp2_with fail
          refine H9.mono ?_
          rintro e w15 ⟨rfl, hb15⟩
          have hb1215 : Below w12.heap.size w12 w15 := hb13.trans ((hb14.trans (hb15.mono hb14.size)).mono hb13.size)
          have hB115 := hB112.trans (hb1215.mono hB112.size)
          have hG15 := hG12.keep hb1215
          have H10 := dead_ok g P dv paths E pa pc w15 hG15 HPl.out HEb.out (HR.out.keep hB115)
          rw [← HNr.out] at H10
          clear H9 hb13 hb14 hb15 HT1' HT2 HR1 HR2 HO1 HO2 hb812 hb1012 hb7 hb8 hb9 hb10 hb11 hb12
          go_wp2_with fail
          refine H10.mono ?_
          rintro e w16 h16
          obtain ⟨da, dc, rfl, hSd, hb16⟩ := dead_told h16 HPl.out HPb.out
          have hB116 := hB115.trans (hb16.mono hB115.size)
          have hG16 := hG15.keep hb16
          have H11 := refDead_ok L la lc paths pa pc w16 (HL.out.keep hB116) H4096.out HF.out (HR.out.keep hB116)
          rw [← HN.out, ← HNr.out] at H11
          clear H10 h16
          go_wp2_with fail
          refine H11.mono ?_
          rintro e w17 h17
          obtain ⟨v17, rfl, hT5⟩ := deadD_told HGr.out HU.out HF.out HPl.out HPb.out h17
          obtain ⟨da2, dc2, rfl, hSd2, hb17⟩ := id hT5
          have hB117 := hB116.trans (hb17.mono hB116.size)
          have hG17 := hG16.keep hb17
          have H12 := same_ok da da2 (deadX P paths E) dc dc2 w17 (hSd.keep hb17) hSd2
          clear H11 h17 hT5 hSd hSd2
          go_wp2_with fail
          refine H12.mono ?_
          rintro e w18 ⟨rfl, hb18⟩
          have hB118 := hB117.trans (hb18.mono hB117.size)
          have hG18 := hG17.keep hb18
          have H13 := derived_ok g P dv E p w18 hG18 HPl.out HGr.out.dlen
          clear H12
          go_wp2_with fail
          refine H13.mono ?_
          rintro e w19 h19
          obtain ⟨v19, rfl, hT6⟩ := derived_told HPl.out HPb.out h19
          obtain ⟨ea, ec, rfl, hSe, hb19⟩ := id hT6
          have hB119 := hB118.trans (hb19.mono hB118.size)
          have hG19 := hG18.keep hb19
          have H14 := refDerived_ok L la lc p w19 (HL.out.keep hB119) H4096.out
          rw [← HN.out] at H14
          clear H13 h19 hT6
          go_wp2_with fail
          refine H14.mono ?_
          rintro e w20 h20
          obtain ⟨v20, rfl, hT7⟩ := derivedD_told HGr.out HU.out HPl.out HPb.out h20
          obtain ⟨ea2, ec2, rfl, hSe2, hb20⟩ := id hT7
          have hB120 := hB119.trans (hb20.mono hB119.size)
          have hG20 := hG19.keep hb20
          have H15 := same_ok ea ea2 (derX P dv p) ec ec2 w20 (hSe.keep hb20) hSe2
          clear H14 h20 hT7 hSe hSe2
          go_wp2_with fail
          refine H15.mono ?_
          rintro e w21 ⟨rfl, hb21⟩
          have HB21 : Hid (Below w1.heap.size w1 w21) := hB120.trans (hb21.mono hB120.size)
          have HG21 : Hid (GAt w21 g P dv E) := hG20.keep hb21
          clear H15 hb21 hb20 hb19 hb18 hb17 hb16 hB115 hB116 hB117 hB118 hB119 hB120 hG15 hG16 hG17 hG18 hG19 hG20 hG12 hG11 hG10 hG9 hG8 hG7 hG6 hB112 hB111 hB110 hB19 hB18 hB17 hB16 hb1215
          obtain ⟨lb, lo, hla, hlcl⟩ := HL.out.ex
          have HLA : Hid _ := hla
          have HLC : Hid (∀ wx, Below w1.heap.size w1 wx → ∀ i (h : i < L.length), ∃ ra rc, wx.rangeAt lb (lo + i * 4) (infV L[i] ra rc).toList ∧ InfAt w1 L[i] ra rc) := fun wx hx i hi => by
            obtain ⟨ra, rc, h3, h4⟩ := hlcl i hi
            exact ⟨ra, rc, rangeAt_keep h3 hx, h4⟩
          clear hla hlcl
          go_wp2
          go_loopw [23] (fun iv wr => ∃ i : Nat, iv = .int .i64 i ∧ i ≤ n ∧ Hid (Below w1.heap.size w1 wr) ∧ Hid (GAt wr g P dv E)) (fun iv _ => n - (intOf iv).toNat)
          case atStart => exact ⟨0, rfl, Nat.zero_le _, HB21, HG21⟩
          case round =>
            clear HB21 HG21
            obtain ⟨i, rfl, hi, HB, HG⟩ := hrel
            by_cases hlt : i < n
            · have hlt' : (i : Int) < (n : Int) := by omega
              have hiL : i < L.length := by have := HN.out; omega
              obtain rfl := HLA.out (by omega)
              obtain ⟨fa, fc, hrg, hif⟩ := HLC.out wr HB.out i hiL
              obtain ⟨y, hy⟩ : ∃ y, y = L[i] := ⟨_, rfl⟩
              rw [← hy] at hrg hif
              have HYm : Hid (y ∈ L) := by show _ ∈ _; rw [hy]; exact List.getElem_mem hiL
              have h3 : wr.cell? ⟨lb, lo + i * 4 + 3, none⟩ = some (.slice fa y.refs.length fc) := hrg 3 _ rfl
              have h0 : wr.cell? ⟨lb, lo + i * 4, none⟩ = some (.string y.path) := hrg 0 _ rfl
              obtain ⟨yp, hyp⟩ : ∃ yp, yp = y.path := ⟨_, rfl⟩
              have HYp : Hid _ := hyp
              rw [← hyp] at h0
              obtain ⟨fb, fo, hfa, hfcl⟩ := hif.refs.ex
              have hxl := hif.refs.len
              have hxc := hif.refs.le
              unfold big at hxl
              have HXA : Hid _ := hfa
              have HXC : Hid (∀ t (h : t < y.refs.length), wr.cell? ⟨fb, fo + t, none⟩ = some (.string y.refs[t])) := fun t ht => (HB.out.cell (p := ⟨fb, fo + t, none⟩) (World.block_lt_of_cell? _ _ (hfcl t ht))).trans (hfcl t ht)
              have HPs : Hid (yp.size ≤ big) := by show _ ≤ _; rw [hyp]; exact hif.path
              obtain ⟨mx, hmx⟩ : ∃ mx, mx = y.refs.length := ⟨_, rfl⟩
              have HMx : Hid _ := hmx
              rw [← hmx] at h3 hxl hxc
              clear hrg hif hy hyp hfa hfcl hmx
              obtain ⟨wI, rfl⟩ : ∃ x, x = wr := ⟨wr, rfl⟩
              go_wp2
              go_loopw [24, 25] (fun rv kv wi => ∃ (k : Nat) (r : Bool), kv = .int .i64 k ∧ rv = .bool r ∧ k ≤ mx ∧ wi = wI ∧ Hid (r = decide (p ∈ y.refs.take k))) (fun _ kv _ => mx - (intOf kv).toNat)
              case atStart => exact ⟨0, false, rfl, rfl, Nat.zero_le _, rfl, by show _ = _; simp⟩
              case round =>
                obtain ⟨k, r, rfl, rfl, hk, hwe, HRr⟩ := hrel
                subst hwe
                by_cases hkm : k < mx
                · have hkm' : (k : Int) < (mx : Int) := by omega
                  have hkL : k < y.refs.length := by have := HMx.out; omega
                  obtain rfl := HXA.out (by omega)
                  have hcell := HXC.out k hkL
                  obtain ⟨t, ht⟩ : ∃ t, t = y.refs[k] := ⟨_, rfl⟩
                  rw [← ht] at hcell
                  have HTt : Hid _ := ht
                  clear ht
                  have HNx : Hid (decide (p ∈ y.refs.take (k + 1)) = (decide (p ∈ y.refs.take k) || decide (t = p))) := by
                    show _ = _
                    rw [List.take_succ_eq_append_getElem hkL, ← HTt.out]
                    rw [Bool.eq_iff_iff]
                    simp only [decide_eq_true_eq, Bool.or_eq_true, List.mem_append, List.mem_singleton]
                    exact ⟨fun h => h.imp id Eq.symm, fun h => h.imp id Eq.symm⟩
                  cases r with
                  | true =>
                    have HN2 : Hid (true = decide (p ∈ y.refs.take (k + 1))) := by show _ = _; rw [HNx.out, ← HRr.out]; rfl
                    go_wp2
                    go_roundw
                    case rel => exact ⟨k + 1, true, by go_num, rfl, by omega, trivial, HN2⟩
                    case measure => simp [intOf]; omega
                  | false =>
                    by_cases htp : t = p
                    · have HN2 : Hid (true = decide (p ∈ y.refs.take (k + 1))) := by show _ = _; rw [HNx.out, decide_eq_true htp, Bool.or_true]
                      rw [htp] at hcell
                      clear htp
                      go_wp2
                      go_roundw
                      case rel => exact ⟨k + 1, true, by go_num, rfl, by omega, trivial, HN2⟩
                      case measure => simp [intOf]; omega
                    · have HN2 : Hid (false = decide (p ∈ y.refs.take (k + 1))) := by show _ = _; rw [HNx.out, ← HRr.out, decide_eq_false htp]; rfl
                      have htq : (t.toList == p.toList) = false := by
                        rw [beq_eq_false_iff_ne]
                        intro e
                        rw [ByteArray.toList_eq, ByteArray.toList_eq] at e
                        exact htp (gb_inj e)
                      clear htp
                      go_wp2
                      go_roundw
                      case rel => exact ⟨k + 1, false, by go_num, rfl, by omega, trivial, HN2⟩
                      case measure => simp [intOf]; omega
                · have hkm' : ¬ (k : Int) < (mx : Int) := by omega
                  have H16 := refers_ok g P dv E yp p HPs.out HP.out wr HG.out
                  have HRd : Hid (decide (∃ i j : Nat, P[i]? = some yp ∧ P[j]? = some p ∧ (i, j) ∈ E) = r) := by
                    show _ = _
                    rw [HRr.out, List.take_of_length_le (by have := HMx.out; omega), HYp.out]
                    exact decide_eq_decide.2 (refers_iff HGr.out HF.out HYm.out p)
                  rw [HRd.out] at H16
                  go_wp2_with fail
                  refine H16.mono ?_
                  rintro e w30 ⟨rfl, hb30⟩
                  have HB30 : Hid (Below w1.heap.size w1 w30) := HB.out.trans (hb30.mono HB.out.size)
                  have HG30 : Hid (GAt w30 g P dv E) := HG.out.keep hb30
                  clear H16 hb30
                  cases r with
                  | true =>
                    go_wp2
                    go_roundw
                    case rel => exact ⟨i + 1, by go_num, by omega, HB30, HG30⟩
                    case measure => simp [intOf]; omega
                  | false =>
                    go_wp2
                    go_roundw
                    case rel => exact ⟨i + 1, by go_num, by omega, HB30, HG30⟩
                    case measure => simp [intOf]; omega
            · have hlt' : ¬ (i : Int) < (n : Int) := by omega
              go_wp2
              go_ret
              exact ⟨rfl, HB.out⟩
end Go.Proofs.Ytkbhckjpmgkgjaa
