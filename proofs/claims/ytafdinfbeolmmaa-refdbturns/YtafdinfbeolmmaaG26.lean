/- My own work: the walk of RefdbTurns. -/
import Derived.Test.YtafdinfbeolmmaaG27
namespace Go.Proofs.Ytafdinfbeolmmaa
open Go.RowKit

theorem own_news {w : World} {B n s : Nat} {e : TypeId} {v : Value} {xs : List Value} (h : w.ownsRow B e s v n xs) : ∃ aa b cap, v = .slice aa n cap ∧ (0 < n → aa = some ⟨b, 0, none⟩) ∧ (∀ (j : Nat) (u : Value), xs[j]? = some u → w.cell? ⟨b, 0 + j, none⟩ = some u) ∧ (aa = none → n = 0 ∧ cap = 0) := by
  obtain ⟨h1, ⟨h2, h3⟩ | ⟨g, cap, cur, e1, e2, e3, e4, e5, e6, e7⟩⟩ := h
  · subst h3
    have h4 : xs = [] := List.length_eq_zero_iff.1 (by omega)
    subst h4
    exact ⟨none, 0, 0, h2, fun h => absurd h (Nat.lt_irrefl _), (fun j u hj => by simp at hj), fun _ => ⟨rfl, rfl⟩⟩
  · refine ⟨some ⟨g, 0, none⟩, g, cap, e1, fun _ => rfl, fun j u hj => ?_, fun e => nomatch e⟩
    rw [Nat.zero_add, Row.cell (w := w) e3 j]
    rw [← e7, List.getElem?_take] at hj
    split at hj
    · rw [← Array.getElem?_toList]
      exact hj
    · cases hj
theorem new_two {L : List Inf} {w w' : World} {e : Ending} (h : NewPost L w e w') : ∃ v8 e9, e = .returned (.tuple #[v8, .int .i64 e9]) := by
  obtain ⟨_, ⟨_, rfl⟩ | ⟨_, rfl⟩ | ⟨_, g, _, _, _, rfl, _⟩⟩ := h
  · exact ⟨_, _, rfl⟩
  · exact ⟨_, _, rfl⟩
  · exact ⟨_, _, rfl⟩
set_option maxRecDepth 20000 in
set_option maxHeartbeats 16000000 in
theorem law_turns (L : List Inf) (la : Option Addr) (lc : Nat) (roots : List ByteArray) (ra : Option Addr) (rc : Nat) (tn : Int) (w : World) (h : LsAt w la L lc) (hLn : L.length ≤ 140737488355328) (hr : StrsAt w ra roots rc) :
    Calls Try.prog 7 #[.slice la L.length lc, .slice ra roots.length rc, .int .i64 tn] w fun e w' => e = .returned (.bool true) ∧ Below w.heap.size w w' := by
  have hfew := few_ok L la lc w h hLn
  have hrl := hr.len
  have hrle := hr.le
  unfold big at hrl
  have hle := h.le
  have hlcap := h.cap
  unfold maxLen at hlcap
  have HL : Hid _ := h
  have HR : Hid _ := hr
  obtain ⟨n, hN⟩ : ∃ n, n = L.length := ⟨_, rfl⟩
  obtain ⟨nr, hNr⟩ : ∃ nr, nr = roots.length := ⟨_, rfl⟩
  rw [← hN] at hfew hLn hle
  rw [← hN, ← hNr]
  rw [← hNr] at hrl hrle
  have HN : Hid _ := hN
  have HNr : Hid _ := hNr
  clear h hr hN hNr
  go_enter Try.func7, Try.ntmps7
  go_wp2_with fail
  refine hfew.mono ?_
  rintro e w1 ⟨rfl, bo, rfl, hbo⟩
  clear hfew
  cases bo with
  | false =>
    go_wp2
    go_ret
    exact ⟨rfl, Below.refl _ _⟩
  | true =>
    obtain ⟨h400, hr400⟩ := hbo rfl
    clear hbo
    by_cases hz : n = 0
    · have hz' : (n : Int) = 0 := by omega
      subst hz
      go_wp2
      go_ret
      exact ⟨rfl, Below.refl _ _⟩
    have hz' : ((n : Int) == 0) = false := by simp; omega
    by_cases hbig : 100 < nr
    · have hbig' : (100 : Int) < (nr : Int) := by omega
      go_wp2
      go_ret
      exact ⟨rfl, Below.refl _ _⟩
    have hbig' : decide ((100 : Int) < (nr : Int)) = false := decide_eq_false (by omega)
    obtain ⟨k, hk, hkn⟩ : ∃ k : Nat, (wrap64 (tn.tmod (n : Int) + (n : Int))).tmod (n : Int) = (k : Int) ∧ k < n := by
      have h1 := Int.tmod_lt_of_pos tn (show (0 : Int) < n by omega)
      have h2 : -(n : Int) < tn.tmod n := by
        have := Int.tmod_lt_of_pos (-tn) (show (0 : Int) < n by omega)
        rw [Int.neg_tmod] at this
        omega
      have h3 : 0 ≤ tn.tmod n + n := by omega
      have hwp : wrap64 (tn.tmod (n : Int) + (n : Int)) = tn.tmod (n : Int) + (n : Int) := by
        unfold wrap64
        omega
      rw [hwp]
      have h4 := Int.tmod_nonneg (n : Int) h3
      have h5 := Int.tmod_lt_of_pos (tn.tmod n + n) (show (0 : Int) < n by omega)
      exact ⟨((tn.tmod n + n).tmod n).toNat, by omega, by omega⟩
    have hownA := own_ok L la lc w1 HL.out h400 hr400
    have h4096 : L.length ≤ 4096 := by omega
    have H4096 : Hid _ := h4096
    have H400 : Hid _ := hr400
    rw [← HN.out] at hownA h400
    clear hr400 h4096
    go_wp2_with fail
    refine hownA.mono ?_
    rintro e w2 ⟨hb2, oa, oc, rfl, hLs2⟩
    have hnew := new_ok L oa oc w2 hLs2 H4096.out
    clear hownA hLs2
    go_wp2_with fail
    refine hnew.mono ?_
    rintro e w3 hNP
    clear hnew
    obtain ⟨v8, e9, rfl⟩ := new_two hNP
    have hb3 := hNP.1
    have hcase := hNP
    have hB3 : Below w1.heap.size w1 w3 := hb2.trans (hb3.mono hb2.size)
    have HB3 : Hid _ := hB3
    have HCa : Hid _ := hcase
    have hs3 := hB3.size
    obtain ⟨b, off, ha, _⟩ := HL.out.ex
    obtain rfl := ha (by have := HN.out; omega)
    have hkL : k < L.length := by have := HN.out; omega
    have hBd : Below w1.heap.size w1 w3.drew := hB3.drew
    have hL3 : LsAt w3.drew (some ⟨b, off, none⟩) L lc := HL.out.keep hBd
    have hd1 : (L.drop k).length = n - k := by rw [List.length_drop, ← HN.out]
    have ht1 : (L.take k).length = k := by rw [List.length_take]; omega
    have hoD := own_ok2 (L.drop k) (some ⟨b, off + k * 4, none⟩) (lc - k) w3.drew (hL3.drop hkL) (by omega) (fun i hi => H400.out i (List.mem_of_mem_drop hi))
    rw [hd1] at hoD
    have hkI : (k : Int) ≤ (n : Int) := by omega
    have hkc : (k : Int) ≤ (lc : Int) := by omega
    have hkc2 : ¬ lc = k := by omega
    clear hb2 hb3 hcase hL3 ha hk
    go_upto_region 5 with fail
    go_cut [10, 11] (fun v10 v11 wx => ∃ wB, Hid (NewPost (turned L k) wB (.returned (.tuple #[v10, v11])) wx) ∧ Hid (Below w3.heap.size w3 wx))
    case first =>
      refine wp_region_permA [(false, 0), (false, 1), (false, 2), (false, 4), (false, 5), (false, 6), (true, 3), (true, 7), (true, 8), (true, 9), (false, 10), (false, 11), (false, 12), (true, 13), (true, 14)] (fun wx => Below w1.heap.size w1 wx) (by kernel_rfl) (by kernel_rfl) hBd ?_
      refine a_value (some 50) (.slice (some ⟨b, off, none⟩) n lc) rfl rfl (by rfl) (fun wx hw => ?_) ?_
      · go_simp
      simp only [Act.put, List.setIfInBounds_toArray, List.set_cons_zero, List.set_cons_succ]
      refine a_value (some 51) (.int .i64 (k : Int)) rfl rfl (by rfl) (fun wx hw => ?_) ?_
      · go_simp
      simp only [Act.put, List.setIfInBounds_toArray, List.set_cons_zero, List.set_cons_succ]
      refine a_value (some 52) (.slice (some ⟨b, off + k * 4, none⟩) (n - k) (lc - k)) rfl rfl (by rfl) (fun wx hw => ?_) ?_
      · go_simp
      simp only [Act.put, List.setIfInBounds_toArray, List.set_cons_zero, List.set_cons_succ]
      refine a_value (some 54) (.slice (some ⟨b, off, none⟩) n lc) rfl rfl (by rfl) (fun wx hw => ?_) ?_
      · go_simp
      simp only [Act.put, List.setIfInBounds_toArray, List.set_cons_zero, List.set_cons_succ]
      refine a_value (some 55) (.int .i64 (k : Int)) rfl rfl (by rfl) (fun wx hw => ?_) ?_
      · go_simp
      simp only [Act.put, List.setIfInBounds_toArray, List.set_cons_zero, List.set_cons_succ]
      refine a_value (some 56) (.slice (some ⟨b, off, none⟩) k lc) rfl rfl (by rfl) (fun wx hw => ?_) ?_
      · go_simp
      simp only [Act.put, List.setIfInBounds_toArray, List.set_cons_zero, List.set_cons_succ]
      refine a_call (some 53) rfl rfl (by rfl) 9 #[.slice (some ⟨b, off + k * 4, none⟩) (n - k) (lc - k)] (by kernel_rfl) ?_
      refine hoD.mono ?_
      rintro e w5 ⟨v53, rv1, rfl, hO1⟩
      clear hoD
      have hB5 : Below w1.heap.size w1 w5 := hBd.trans (hO1.old.mono hBd.size)
      refine ⟨_, rfl, hB5, ?_⟩
      simp only [Act.put, List.setIfInBounds_toArray, List.set_cons_zero, List.set_cons_succ]
      have hoT := own_ok2 (L.take k) (some ⟨b, off, none⟩) lc w5 ((HL.out.keep hB5).take (Nat.le_of_lt hkL)) (by omega) (fun i hi => H400.out i (List.mem_of_mem_take hi))
      rw [ht1] at hoT
      refine a_call (some 57) rfl rfl (by rfl) 9 #[.slice (some ⟨b, off, none⟩) k lc] (by kernel_rfl) ?_
      refine hoT.mono ?_
      rintro e w6 ⟨v57, rv2, rfl, hO2⟩
      clear hoT
      have hB6 : Below w1.heap.size w1 w6 := hB5.trans (hO2.old.mono hB5.size)
      refine ⟨_, rfl, hB6, ?_⟩
      simp only [Act.put, List.setIfInBounds_toArray, List.set_cons_zero, List.set_cons_succ]
      have hO1k := ownsRow_keep' (w' := w6) hO1.out fun g _ hl => hO2.old.block g hl
      obtain ⟨aa, bb, cp, rfl, hat, hce, hnn⟩ := own_news hO2.out
      have hl2 := hO2.out.1
      have hone2 := hO2.one
      have hs5 := hO1.old.size
      have hs6 := hO2.old.size
      refine a_wp rfl (by rfl) ?_
      refine wp_append_any (some 58) rfl (.tmp 53) (.tmp 57) 22 33 (.agg info00) 4 72 Try.underlying22 infoInf rfl (by decide) rfl w3.drew.heap.size v53 (L.drop k).length _ rfl hO1k aa bb 0 (L.take k).length cp _ hl2 rfl hat hce hone2 hnn (by unfold maxLen; omega) (by omega) (by omega) ?_
      intro v58 w7 hown7 hg7 _
      have hO7 := hO1.app hO2 hown7 hg7
      have hB7 : Below w1.heap.size w1 w7 := hBd.trans (hO7.old.mono hBd.size)
      refine ⟨hB7, ?_⟩
      obtain ⟨oa2, oc2, rfl, hLs7⟩ := hO7.done (fun x hx => by
        have hx' : x ∈ L := (turned_mem (k := k)).1 hx
        obtain ⟨_, _, _, hc9⟩ := HL.out.ex
        obtain ⟨t, ht, rfl⟩ := List.getElem_of_mem hx'
        obtain ⟨_, _, _, hif⟩ := hc9 t ht
        exact ⟨hif.path, hif.hash, hif.der, H400.out _ (List.getElem_mem ht), hif.refs.each⟩)
      simp only [Act.put, List.setIfInBounds_toArray, List.set_cons_zero, List.set_cons_succ]
      have hnw := new_ok (turned L k) oa2 oc2 w7 hLs7 (by rw [(turned_perm L k).length_eq]; exact H4096.out)
      refine a_call (some 59) rfl rfl (by rfl) 10 #[.slice oa2 (L.drop k ++ L.take k).length oc2] (by kernel_rfl) ?_
      refine hnw.mono ?_
      rintro e w8 hNP8
      clear hnw
      obtain ⟨v10, e11, rfl⟩ := new_two hNP8
      have hB8 : Below w1.heap.size w1 w8 := hB7.trans (hNP8.1.mono hB7.size)
      refine ⟨_, rfl, hB8, ?_⟩
      simp only [Act.put, List.setIfInBounds_toArray, List.set_cons_zero, List.set_cons_succ]
      have HN8 : Hid _ := hNP8
      have hB37 : Below w3.heap.size w3 w7 := (Below.refl _ _).drew.trans hO7.old
      have HB7 : Hid (Below w3.heap.size w3 w8) := hB37.trans (hNP8.1.mono hB37.size)
      clear hB37 hO7 hLs7 hO1 hO2 hO1k hown7 hg7 hce hone2 hl2 hNP8
      refine a_value (some 49) (.tuple #[v10, .int .i64 e11]) rfl rfl (by rfl) (fun wx hw => ?_) ?_
      · go_simp
      simp only [Act.put, List.setIfInBounds_toArray, List.set_cons_zero, List.set_cons_succ]
      refine a_value (some 60) (v10) rfl rfl (by rfl) (fun wx hw => ?_) ?_
      · go_simp
      simp only [Act.put, List.setIfInBounds_toArray, List.set_cons_zero, List.set_cons_succ]
      refine a_value (some 61) (.int .i64 e11) rfl rfl (by rfl) (fun wx hw => ?_) ?_
      · go_simp
      simp only [Act.put, List.setIfInBounds_toArray, List.set_cons_zero, List.set_cons_succ]
      refine a_alone (some 10) v10 w8 rfl rfl (by rfl) (by kernel_rfl) hB8 ?_
      simp only [Act.put, List.setIfInBounds_toArray, List.set_cons_zero, List.set_cons_succ]
      refine a_alone (some 11) (.int .i64 e11) w8 rfl rfl (by rfl) (by kernel_rfl) hB8 ?_
      simp only [Act.put, List.setIfInBounds_toArray, List.set_cons_zero, List.set_cons_succ]
      refine a_done ?_
      try simp only [Exit.then]
      go_wp2
      go_meet
      exact ⟨w7, HN8, HB7⟩
    case rest =>
      obtain ⟨wB, HNb, HB3c⟩ := hcut
      have HBc : Hid (Below w1.heap.size w1 wc) := HB3.out.trans (HB3c.out.mono HB3.out.size)
      obtain ⟨_, hA⟩ := HCa.out
      obtain ⟨_, hB⟩ := HNb.out
      clear hoD hd1 ht1 hBd hB3 HCa HNb hNP
      rcases hA with ⟨h1, eA⟩ | ⟨h1, eA⟩ | ⟨h1, g, P, dv, E, eA, hGA, hGr, _⟩
      · rcases hB with ⟨h2, eB⟩ | ⟨h2, eB⟩ | ⟨h2, g2, P2, dv2, E2, eB, _⟩
        · simp at eA eB
          obtain ⟨rfl, rfl⟩ := eA
          obtain ⟨rfl, rfl⟩ := eB
          go_upto_region 6 with fail
          go_wp2
          go_ret
          exact ⟨rfl, HBc.out⟩
        · exact absurd (turned_nodup.1 h2.1) h1
        · exact absurd (turned_nodup.1 h2.1) h1
      · rcases hB with ⟨h2, eB⟩ | ⟨h2, eB⟩ | ⟨h2, g2, P2, dv2, E2, eB, _⟩
        · exact absurd (turned_nodup.2 h1.1) h2
        · simp at eA eB
          obtain ⟨rfl, rfl⟩ := eA
          obtain ⟨rfl, rfl⟩ := eB
          go_upto_region 6 with fail
          go_wp2
          go_ret
          exact ⟨rfl, HBc.out⟩
        · obtain ⟨_, y, hy, t, ht, hn⟩ := h1
          exact absurd ((turned_fine.1 h2).2 y hy t ht) hn
      · rcases hB with ⟨h2, eB⟩ | ⟨h2, eB⟩ | ⟨h2, g2, P2, dv2, E2, eB, hGB, hGr2, _⟩
        · exact absurd (turned_nodup.2 h1.1) h2
        · obtain ⟨_, y, hy, t, ht, hn⟩ := turned_none.1 h2
          exact absurd (h1.2 y hy t ht) hn
        · obtain ⟨rfl, hEE⟩ := gr_turned hGr hGr2 hGA.up hGB.up
          have hPn : P2.length ≤ 4096 := by rw [hGr.len]; exact H4096.out
          have hbg := hGA.big
          have hEb := hGr.edges
          have hEb2 : ∀ x ∈ E2, x.1 < P2.length ∧ x.2 < P2.length := fun x hx => hEb x ((hEE x).1 hx)
          have hGAc := hGA.keep HB3c.out
          have H9 := order_ok g P2 dv E wc hGAc hPn hEb
          have HR1 : Hid (StrsAt wc ra roots rc) := HR.out.keep HBc.out
          simp at eA eB
          obtain ⟨rfl, rfl⟩ := eA
          obtain ⟨rfl, rfl⟩ := eB
          go_upto_region 6 with fail
          go_wp2_with fail
          refine H9.mono ?_
          rintro e w9 h9
          clear H9
          obtain ⟨D, O, xa, xc, hD, hO, hF, rfl, hSx, hb9⟩ := order_told h9 hPn hbg
          have H10 := order_ok g2 P2 dv2 E2 w9 (hGB.keep hb9) hPn hEb2
          go_wp2_with fail
          refine H10.mono ?_
          rintro e w10 h10
          clear H10
          obtain ⟨D2, O2, ya, yc, hD2, hO2, hF2, rfl, hSy, hb10⟩ := order_told h10 hPn hbg
          have eO : O2 = O := order_turned hEE hD hD2 hO hO2 hF hF2
          subst eO
          have hb910 : Below wc.heap.size wc w10 := hb9.trans (hb10.mono hb9.size)
          have H11 := closure_ok g P2 dv roots E ra rc w10 (hGAc.keep hb910) hPn hEb (HR1.out.keep hb910)
          rw [← HNr.out] at H11
          go_wp2_with fail
          refine H11.mono ?_
          rintro e w11 h11
          clear H11
          obtain ⟨pa, pc, rfl, hSp, hb11⟩ := closure_told h11 hPn hbg
          have hb911 : Below wc.heap.size wc w11 := hb910.trans (hb11.mono hb910.size)
          have H12 := closure_ok g2 P2 dv2 roots E2 ra rc w11 (hGB.keep hb911) hPn hEb2 (HR1.out.keep hb911)
          rw [← HNr.out] at H12
          go_wp2_with fail
          refine H12.mono ?_
          rintro e w12 h12
          clear H12
          obtain ⟨qa, qc, rfl, hSq, hb12⟩ := closure_told h12 hPn hbg
          have hb912 : Below wc.heap.size wc w12 := hb911.trans (hb12.mono hb911.size)
          have eX : cloX P2 roots E2 = cloX P2 roots E := by unfold cloX; rw [reachB_iff hEE]
          rw [eX] at hSq ⊢
          have hx12 := (hSx.keep hb10).keep hb11
          have H13 := same_ok xa ya (ordX P2 O2) xc yc w12 (hx12.keep hb12) ((hSy.keep hb11).keep hb12)
          go_wp2_with fail
          refine H13.mono ?_
          rintro e w13 ⟨rfl, hb13⟩
          clear H13
          have hb913 : Below wc.heap.size wc w13 := hb912.trans (hb13.mono hb912.size)
          have H14 := same_ok pa qa (cloX P2 roots E) pc qc w13 ((hSp.keep hb12).keep hb13) (hSq.keep hb13)
          go_wp2_with fail
          refine H14.mono ?_
          rintro e w14 ⟨rfl, hb14⟩
          clear H14
          have hb914 : Below wc.heap.size wc w14 := hb913.trans (hb14.mono hb913.size)
          have H15 := dead_ok g P2 dv roots E ra rc w14 (hGAc.keep hb914) hPn hEb (HR1.out.keep hb914)
          rw [← HNr.out] at H15
          go_wp2_with fail
          refine H15.mono ?_
          rintro e w15 h15
          clear H15
          obtain ⟨sa, sc, rfl, hSs, hb15⟩ := dead_told h15 hPn hbg
          have hb915 : Below wc.heap.size wc w15 := hb914.trans (hb15.mono hb914.size)
          have H16 := dead_ok g2 P2 dv2 roots E2 ra rc w15 (hGB.keep hb915) hPn hEb2 (HR1.out.keep hb915)
          rw [← HNr.out] at H16
          go_wp2_with fail
          refine H16.mono ?_
          rintro e w16 h16
          clear H16
          obtain ⟨ta, tc, rfl, hSt, hb16⟩ := dead_told h16 hPn hbg
          have hb916 : Below wc.heap.size wc w16 := hb915.trans (hb16.mono hb915.size)
          have eY : deadX P2 roots E2 = deadX P2 roots E := by unfold deadX; rw [reachB_iff hEE]
          rw [eY] at hSt ⊢
          have H17 := same_ok sa ta (deadX P2 roots E) sc tc w16 (hSs.keep hb16) hSt
          go_wp2_with fail
          refine H17.mono ?_
          rintro e w17 ⟨rfl, hb17⟩
          clear H17
          have hb917 : Below wc.heap.size wc w17 := hb916.trans (hb17.mono hb916.size)
          have HE : Hid (Below w1.heap.size w1 w17) := HBc.out.trans (hb917.mono HBc.out.size)
          clear hb9 hb10 hb11 hb12 hb13 hb14 hb15 hb16 hb17 hb910 hb911 hb912 hb913 hb914 hb915 hb916 hb917
          go_wp2
          go_ret
          exact ⟨rfl, HE.out⟩
end Go.Proofs.Ytafdinfbeolmmaa
