/- My own work: the walk of the document's own Find. -/
import Derived.Test.YtpkbfljoakodoaaDoorRFindK
import Derived.Test.YtpkbfljoakodoaaDoorPRefS
namespace Go.Proofs.YtpkbfljoakodoaaDoor
open Go.RowKit
open S2 (bl bl_len bl_inj splitB splitV refSplit_ok ex_size)

theorem own_other {w w' : World} {B n : Nat} {v : Value} {xs : List Value} {blk : Option Nat} (h : w.ownsRow B 9 1 v n xs) (hg : w.grownBy w' blk) (hb : ∀ r, blk = some r → r < B) : w'.ownsRow B 9 1 v n xs := by
  obtain ⟨h1, h2⟩ := h
  refine ⟨h1, ?_⟩
  rcases h2 with h2 | ⟨g, cap, cur, e, hb1, hg1, h3⟩
  · exact .inl h2
  · exact .inr ⟨g, cap, cur, e, hb1, (hg.block g (Array.getElem?_eq_some_iff.1 hg1).1 (fun e => by have := hb g e.symm; omega)).trans hg1, h3⟩
theorem own_lt {w : World} {B n : Nat} {v : Value} {xs : List Value} (h : w.ownsRow B 9 1 v n xs) : ∀ r, v.ownBlock = some r → r < w.heap.size := fun r hr => by
  rcases h.2 with ⟨rfl, _⟩ | ⟨g, cap, cur, rfl, _, hg, _⟩
  · cases hr
  · simp [Value.ownBlock] at hr
    subst hr
    exact (Array.getElem?_eq_some_iff.1 hg).1
/-- What is kept while Find goes through the paths. -/
def FSt (w : World) (ts ps : List ByteArray) (i : Nat) (v : Value) (wr : World) : Prop :=
  ∃ O : List ByteArray, wr.ownsRow w.heap.size 9 1 v O.length (O.map Value.string) ∧ RiseB O ∧ (∀ x, x ∈ O ↔ x ∈ foundP ts (ps.take i)) ∧ O.length ≤ i ∧ Below w.heap.size w wr
theorem FSt.skip {w : World} {ts ps : List ByteArray} {i : Nat} {v : Value} {wr w' : World} (h : FSt w ts ps i v wr) (hi : i < ps.length) (hb : Below wr.heap.size wr w') (hn : (splitB (bl ps[i]) && ts.any fun t => occ (sgn ps[i]) (bl t)) = false) : FSt w ts ps (i + 1) v w' := by
  obtain ⟨O, h1, h2, h3, h4, h5⟩ := h
  refine ⟨O, own_belowS h1 hb, h2, fun x => ?_, by omega, h5.trans (hb.mono h5.size)⟩
  rw [h3, foundP_take ts ps i hi]
  constructor
  · exact .inl
  · rintro (h | ⟨_, ha, hc⟩)
    · exact h
    · rw [ha, hc] at hn
      cases hn
set_option maxRecDepth 20000 in
set_option maxHeartbeats 8000000 in
/-- Find: the paths whose signs occur in texts, rising, each once. -/
theorem rfind_ok (tv : Value) (ts : List ByteArray) (a : Option Addr) (ps : List ByteArray) (c : Nat) (w : World) (hT : TsAt w tv ts) (hts : ∀ t ∈ ts, t.size ≤ big) (hP : StrsAt w a ps c) :
    Calls Tryd.prog 12 #[tv, .slice a ps.length c] w fun e w' => ∃ v, e = .returned v ∧ FSt w ts ps ps.length v w' := by
  have hpl := hP.len
  unfold big at hpl
  obtain ⟨ta, tb, toff, tc, rfl, hta, htc, htn, htl, htm⟩ := hT.ex
  have HTA : Hid _ := hta
  have HTC : Hid (∀ wx, Below w.heap.size w wx → ∀ i (h : i < ts.length), wx.cell? ⟨tb, toff + i, none⟩ = some (.string ts[i])) := fun wx hx i h => (World.cell?_of_block (w := w) (hx.block tb (World.block_lt_of_cell? _ _ (htc i h)))).trans (htc i h)
  have HTS : Hid _ := hts
  have HP : Hid (StrsAt w a ps c) := hP
  obtain ⟨L, hL⟩ : ∃ L, L = ps.length := ⟨_, rfl⟩
  obtain ⟨T, hTl⟩ : ∃ T, T = ts.length := ⟨_, rfl⟩
  have HL : Hid _ := hL
  have HTL : Hid _ := hTl
  rw [← hL] at hpl ⊢
  rw [← hTl] at htl ⊢
  unfold maxLen at htm
  clear hta htc htn hP hT hL hTl hts
  go_enter Tryd.func12, Tryd.ntmps12
  go_wp2
  go_loopw [5, 6] (fun v iv wr => ∃ i : Nat, iv = .int .i64 i ∧ i ≤ L ∧ FSt w ts ps i v wr) (fun _ iv _ => L - (intOf iv).toNat)
  case atStart => exact ⟨0, rfl, Nat.zero_le _, [], World.ownsRow_nil .., List.Pairwise.nil, fun x => by simp [foundP], Nat.le_refl _, Below.refl _ _⟩
  case round =>
    obtain ⟨i, rfl, hi, hF⟩ := hrel
    by_cases hlt : i < L
    · have hlt' : i < ps.length := by rw [← HL.out]; exact hlt
      have hBw : Below w.heap.size w wr := by obtain ⟨_, _, _, _, _, h⟩ := hF; exact h
      obtain ⟨b, off, ha, hcs⟩ := HP.out.ex
      have hc := (World.cell?_of_block (w := w) (hBw.block b (World.block_lt_of_cell? _ _ (hcs i hlt')))).trans (hcs i hlt')
      obtain ⟨p, hp⟩ : ∃ p, p = ps[i] := ⟨_, rfl⟩
      have hps : p.size ≤ 140737488355328 := by
        have := HP.out.each p (by rw [hp]; exact List.getElem_mem _)
        unfold big at this
        omega
      have HC : Hid (∀ wx, Below w.heap.size w wx → wx.cell? ⟨b, off + i, none⟩ = some (.string p)) := fun wx hx => by
        rw [hp]
        exact (World.cell?_of_block (w := w) (hx.block b (World.block_lt_of_cell? _ _ (hcs i hlt')))).trans (hcs i hlt')
      rw [← hp] at hc
      have HPE : Hid (p = ps[i]) := hp
      have ha' := ha (by omega)
      subst ha'
      have hSp := refSplit_ok p wr hps
      have HF : Hid (FSt w ts ps i u5 wr) := hF
      have HBW : Hid _ := hBw
      have hlt2 : (i : Int) < (L : Int) := by omega
      clear hcs hp ha hF hBw
      cases hs : splitB (bl p) with
      | false =>
        have e1 : splitV p = .tuple #[.string ⟨#[]⟩, .string ⟨#[]⟩, .int .i64 17] := by unfold splitV; rw [hs]; rfl
        rw [e1] at hSp
        clear e1
        go_wp2_with (go_at_call 25; refine hSp.mono ?_; rintro e w1 ⟨rfl, hb1⟩; have HB1 : Hid _ := hb1; clear hb1 hSp)
        go_roundw
        case rel => exact ⟨i + 1, by go_num, by omega, HF.out.skip hlt' HB1.out (by rw [← HPE.out, hs]; rfl)⟩
        case measure => simp [intOf]; omega
      | true =>
        obtain ⟨q, hq⟩ : ∃ q, q = p.extract 7 39 := ⟨_, rfl⟩
        obtain ⟨q2, hq2⟩ : ∃ q, q = p.extract 40 p.size := ⟨_, rfl⟩
        have e1 : splitV p = .tuple #[.string q, .string q2, .int .i64 0] := by unfold splitV; rw [hs, hq, hq2]; rfl
        rw [e1] at hSp
        have h39 : 39 ≤ p.size := by
          have := (S2.splitB_facts hs).2.1
          rw [bl_len] at this
          exact this
        have HQ : Hid (bl q = sgn p ∧ q.size = 32) := by
          refine ⟨?_, ?_⟩
          · rw [hq]; exact win_ex p 7
          · rw [hq, ex_size _ _ _ h39]
        have HS : Hid (splitB (bl p) = true) := hs
        clear e1 hq hq2 hs h39
        go_wp2_with (go_at_call 25; refine hSp.mono ?_; rintro e w1 ⟨rfl, hb1⟩; have HB1 : Hid (Below wr.heap.size wr w1) := hb1; have HBW1 : Hid (Below w.heap.size w w1) := HBW.out.trans (hb1.mono HBW.out.size); clear hb1 hSp hc)
        go_loopw [10, 11] (fun fv kv wx => ∃ k : Nat, kv = .int .i64 k ∧ k ≤ T ∧ fv = .bool ((ts.take k).any fun t => occ (sgn p) (bl t)) ∧ wx = w1) (fun _ kv _ => T - (intOf kv).toNat)
        case atStart => exact ⟨0, rfl, Nat.zero_le _, rfl, rfl⟩
        case round =>
          obtain ⟨k, rfl, hk, rfl, hwx⟩ := hrel
          subst hwx
          by_cases hkt : k < T
          · have hkt' : k < ts.length := by rw [← HTL.out]; exact hkt
            obtain rfl := HTA.out (by omega)
            have ct := HTC.out _ HBW1.out k hkt'
            obtain ⟨t, ht⟩ : ∃ t, t = ts[k] := ⟨_, rfl⟩
            rw [← ht] at ct
            have htb : t.size ≤ big := by rw [ht]; exact HTS.out _ (List.getElem_mem _)
            have hin := rin_ok q t wr HQ.out.2 htb
            rw [HQ.out.1] at hin
            have HA : Hid (((ts.take (k + 1)).any fun t => occ (sgn p) (bl t)) = (((ts.take k).any fun t => occ (sgn p) (bl t)) || occ (sgn p) (bl t))) := by
              show _ = _
              rw [List.take_succ_eq_append_getElem hkt', List.any_append, ← ht]
              simp
            have hkt2 : (k : Int) < (T : Int) := by omega
            clear ht htb
            cases hfd : (ts.take k).any fun t => occ (sgn p) (bl t) with
            | true =>
              have HFD : Hid _ := hfd
              clear hfd
              go_wp2
              go_roundw
              case rel => exact ⟨k + 1, by go_num, by omega, by rw [HA.out, HFD.out]; rfl, trivial⟩
              case measure => simp [intOf]; omega
            | false =>
              have HFD : Hid _ := hfd
              clear hfd
              go_wp2_with (go_at_call 26; refine hin.mono ?_; rintro e w2 ⟨rfl, rfl⟩; clear hin)
              go_roundw
              case rel => exact ⟨k + 1, by go_num, by omega, by rw [HA.out, HFD.out]; rfl, trivial⟩
              case measure => simp [intOf]; omega
          · have hke : k = T := by omega
            subst hke
            have e3 : ts.take k = ts := List.take_of_length_le (by rw [← HTL.out]; exact Nat.le_refl _)
            rw [e3]
            have hkt2 : ¬ (k : Int) < (k : Int) := by omega
            have HF1 : Hid (FSt w ts ps i u5 wr) := by
              obtain ⟨O, h1, h2, h3, h4, h5⟩ := HF.out
              exact ⟨O, own_belowS h1 HB1.out, h2, h3, h4, HBW1.out⟩
            cases hfd : ts.any fun t => occ (sgn p) (bl t) with
            | false =>
              have HFD : Hid _ := hfd
              clear hfd e3
              go_wp2
              go_roundw
              case rel => exact ⟨i + 1, by go_num, by omega, HF1.out.skip hlt' (Below.refl _ _) (by rw [← HPE.out, HFD.out]; simp)⟩
              case measure => simp [intOf]; omega
            | true =>
              have HFD : Hid _ := hfd
              clear hfd e3 HF HB1 hkt2 hkt
              obtain ⟨O, hO, hR, hM, hLe, hB5⟩ := HF1.out
              obtain ⟨n, hn⟩ : ∃ n, n = O.length := ⟨_, rfl⟩
              have HN : Hid _ := hn
              obtain ⟨oa, ob, ooff, oc, hv, hoa, hoc, hon, hol, hom⟩ := (TsAt.of_own hO).ex
              rw [← hn] at hv hoa hO hol hLe
              subst hv
              have HO : Hid (wr.ownsRow w.heap.size 9 1 (.slice oa n oc) n (O.map Value.string)) := hO
              have HOA : Hid _ := hoa
              have HOC : Hid (∀ wx, Below wr.heap.size wr wx → ∀ i (h : i < O.length), wx.cell? ⟨ob, ooff + i, none⟩ = some (.string O[i])) := fun wx hx i h => (World.cell?_of_block (w := wr) (hx.block ob (World.block_lt_of_cell? _ _ (hoc i h)))).trans (hoc i h)
              have HRM : Hid (RiseB O ∧ (∀ x, x ∈ O ↔ x ∈ foundP ts (ps.take i))) := ⟨hR, hM⟩
              have HB5 : Hid (Below w.heap.size w wr) := hB5
              unfold maxLen at hom
              clear hO hR hM hB5 hoa hoc hon hn HF1 HBW HBW1 HTC
              obtain ⟨W, hW⟩ : ∃ W, W = wr := ⟨_, rfl⟩
              rw [← hW] at HO HOC HB5
              rw [← hW]
              clear hW
              go_wp2
              go_loopw [12] (fun kv wx => ∃ j : Nat, kv = .int .i64 j ∧ j ≤ n ∧ (∀ m (hm : m < O.length), m < j → bytesBefore (bl O[m]) (bl p) = true) ∧ Below W.heap.size W wx) (fun kv _ => n - (intOf kv).toNat)
              case atStart => exact ⟨0, rfl, Nat.zero_le _, fun m _ h => absurd h (by omega), Below.refl _ _⟩
              case round =>
                obtain ⟨j, rfl, hj, hpre, hbx⟩ := hrel
                have HPRE : Hid _ := hpre
                have HBX : Hid (Below W.heap.size W wr) := hbx
                have hbw : Below w.heap.size w wr := HB5.out.trans (hbx.mono HB5.out.size)
                have HBWX : Hid _ := hbw
                clear hpre hbx
                by_cases hjn : j < n
                · have hjO : j < O.length := by rw [← HN.out]; exact hjn
                  obtain rfl := HOA.out (by omega)
                  have co := HOC.out wr HBX.out j hjO
                  have cp := HC.out wr hbw
                  obtain ⟨x, hx⟩ : ∃ x, x = O[j] := ⟨_, rfl⟩
                  rw [← hx] at co
                  have HX : Hid _ := hx
                  have hjn2 : (j : Int) < (n : Int) := by omega
                  have hjn3 : decide ((j : Int) < (n : Int)) = true := decide_eq_true hjn2
                  clear hx hbw
                  cases hls : Op.bytesLess x.toList p.toList with
                  | true =>
                    have HLS : Hid _ := hls
                    go_wp2_with fail
                    go_quiet (fail)
                    obtain ⟨w4, hw4⟩ : ∃ u, u = wr.drewN nq := ⟨_, rfl⟩
                    rw [← hw4]
                    have HB4 : Hid (Below W.heap.size W w4) := by
                      rw [hw4]
                      exact below_drw HBX.out nq
                    clear hw4 co cp hls
                    go_wp2
                    go_roundw
                    case rel =>
                      refine ⟨j + 1, by go_num, by omega, fun m hm hmj => ?_, HB4.out⟩
                      rcases Nat.lt_or_ge m j with h | h
                      · exact HPRE.out m hm h
                      · obtain rfl : m = j := by omega
                        rw [← HX.out]
                        have := HLS.out
                        rw [ByteArray.toList_eq, ByteArray.toList_eq, less_before] at this
                        exact this
                    case measure => simp [intOf]; omega
                  | false =>
                    go_wp2_with fail
                    go_quiet (fail)
                    obtain ⟨w4, hw4⟩ : ∃ u, u = wr.drewN nq := ⟨_, rfl⟩
                    rw [← hw4]
                    have HB4 : Hid (Below W.heap.size W w4) := by
                      rw [hw4]
                      exact below_drw HBX.out nq
                    have hb4 := HB5.out.trans (HB4.out.mono HB5.out.size)
                    have co4 := HOC.out w4 HB4.out j hjO
                    rw [← HX.out] at co4
                    have cp4 := HC.out w4 hb4
                    clear hw4 co cp
                    by_cases hxp : x = p
                    · subst hxp
                      clear hls
                      go_wp2_with fail
                      go_quiet (fail)
                      obtain ⟨w5, hw5⟩ : ∃ u, u = w4.drewN nq := ⟨_, rfl⟩
                      rw [← hw5]
                      have HB5' : Hid (Below W.heap.size W w5) := by
                        rw [hw5]
                        exact below_drw HB4.out nq
                      clear hw5 co4 cp4
                      go_wp2
                      go_roundw
                      case rel =>
                        refine ⟨i + 1, by go_num, by omega, O, ?_, HRM.out.1, fun y => ?_, by rw [← HN.out]; omega, HB5.out.trans (HB5'.out.mono HB5.out.size)⟩
                        · rw [← HN.out]; exact own_belowS HO.out HB5'.out
                        · rw [foundP_take ts ps i hlt', ← HRM.out.2 y]
                          constructor
                          · exact .inl
                          · rintro (h | ⟨h, _, _⟩)
                            · exact h
                            · rw [h, ← HPE.out, HX.out]
                              exact List.getElem_mem _
                      case measure => simp [intOf]; omega
                    · have hxl : (x.toList == p.toList) = false := by
                        have : x.toList ≠ p.toList := fun e => hxp (by
                          rw [ByteArray.toList_eq, ByteArray.toList_eq] at e
                          exact bl_inj e)
                        simpa using this
                      have HGT : Hid (bytesBefore (bl p) (bl O[j]) = true) := by
                        rw [ByteArray.toList_eq, ByteArray.toList_eq, less_before] at hls
                        rw [← HX.out]
                        rcases WideAt.bytes_total (bl x) (bl p) (fun e => hxp (bl_inj e)) with h | h
                        · rw [show bytesBefore (bl x) (bl p) = false from hls] at h
                          cases h
                        · exact h
                      clear hls
                      go_wp2_with fail
                      go_quiet (fail)
                      obtain ⟨w5, hw5⟩ : ∃ u, u = w4.drewN nq := ⟨_, rfl⟩
                      rw [← hw5]
                      have HB5' : Hid (Below W.heap.size W w5) := by
                        rw [hw5]
                        exact below_drw HB4.out nq
                      have HGE : Hid (∀ hj : j < O.length, bytesBefore (bl p) (bl O[j]) = true) := fun _ => HGT.out
                      clear hw5 co4 cp4 hxl hxp
                      have hO5 : w5.ownsRow w.heap.size 9 1 (.slice (some ⟨ob, ooff, none⟩) n oc) n (O.map Value.string) := own_belowS HO.out HB5'.out
                      have hb5 : Below w.heap.size w w5 := HB5.out.trans (HB5'.out.mono HB5.out.size)
                      obtain ⟨vt, hvt, hvt'⟩ := own_tail hO5 j hj
                      obtain ⟨vh, hvh, hvh', hvb⟩ := own_head hO5 j hj
                      have hrt := hvt (w5.alloc (.cells #[] 9))
                      have HO5 : Hid (w5.ownsRow w.heap.size 9 1 (.slice (some ⟨ob, ooff, none⟩) n oc) n (O.map Value.string)) := hO5
                      have HB5w : Hid (Below w.heap.size w w5) := hb5
                      have HVT : Hid (TsAt (w5.alloc (.cells #[] 9)) vt (O.drop j)) := hvt' _ (World.ownsRow.alloc hO5 _)
                      have HVH : Hid (∀ w : World, (Instr.slice 23 (.slice (some ⟨ob, ooff, none⟩) n oc) none (some (.int .i64 (j : Int))) none).run Tryd.prog w = .ok vh w) := hvh
                      have HVH' : Hid ((∀ wx : World, wx.ownsRow w.heap.size 9 1 (.slice (some ⟨ob, ooff, none⟩) n oc) n (O.map Value.string) → wx.ownsRow w.heap.size 9 1 vh j ((O.take j).map Value.string)) ∧ vh.ownBlock = (Value.slice (some ⟨ob, ooff, none⟩) n oc).ownBlock) := ⟨hvh', hvb⟩
                      have hOE := own_empty w5 9 1 w5.heap.size (Nat.le_refl _)
                      have hdl : (O.drop j).length = n - j := by rw [List.length_drop, ← HN.out]
                      have hby1 : (0 + (O.drop j).length) * 16 ≤ 140737488355328 := by rw [hdl]; omega
                      have hsz5 : w5.heap.size ≤ (w5.alloc (.cells #[] 9)).heap.size := by simp
                      clear hO5 hb5 hvt hvt' hvh hvh' hvb
                      go_wp2_with (at_builtin; go_loud (refine wpList_plain rfl fun K' hK' => ?_; refine ap_all (some 84) rfl _ _ rfl w5.heap.size _ _ _ rfl hOE vt (O.drop j) rfl HVT.out hsz5 hby1 (fun v6 w6 hO6 hG6 => hK' _ _ ?_); have hb56 : Below w5.heap.size w5 w6 := below_own hOE ((Below.refl _ _).alloc (Nat.le_refl _) _) hG6; rw [Nat.zero_add, List.nil_append] at hO6; have HO6 : Hid (w6.ownsRow w5.heap.size 9 1 v6 (O.drop j).length ((O.drop j).map Value.string)) := hO6; have HB56 : Hid (Below w5.heap.size w5 w6) := hb56; clear hO6 hG6 hb56 hrt hOE))
                      have hb6 : Below w.heap.size w w6 := HB5w.out.trans (HB56.out.mono HB5w.out.size)
                      have hbd6 : Below w6.heap.size w6 w6.drew := (Below.refl _ _).drew
                      have hbw6 : Below w.heap.size w w6.drew := hb6.trans (hbd6.mono hb6.size)
                      have HO6d : Hid (w6.drew.ownsRow w5.heap.size 9 1 v6 (O.drop j).length ((O.drop j).map Value.string)) := own_belowS HO6.out hbd6
                      have HOv : Hid (w6.drew.ownsRow w.heap.size 9 1 (.slice (some ⟨ob, ooff, none⟩) n oc) n (O.map Value.string)) := own_belowS (own_belowS HO5.out HB56.out) hbd6
                      have hOh := HVH'.out.1 _ HOv.out
                      have hby2 : (j + 1) * 16 ≤ 140737488355328 := by omega
                      refine wp_region_permA [(false, 0), (false, 1), (false, 2), (false, 3), (false, 4), (false, 5), (false, 6), (false, 9), (true, 7), (true, 8), (true, 10), (true, 11)] (fun wx => Below w.heap.size w wx) (by kernel_rfl) (by kernel_rfl) hbw6 ?_
                      refine a_move (some 85) _ rfl rfl rfl (by rfl) ?_
                      simp only [Act.put, List.setIfInBounds_toArray, List.set_cons_zero, List.set_cons_succ]
                      refine a_move (some 86) _ rfl rfl rfl (by rfl) ?_
                      simp only [Act.put, List.setIfInBounds_toArray, List.set_cons_zero, List.set_cons_succ]
                      refine a_value (some 87) ?_ rfl rfl (by rfl) (fun w hw => ?_) ?_
                      rotate_left
                      · have hv := HVH.out w
                        go_simp
                        go_simp
                        with_reducible rfl
                      simp only [Act.put, List.setIfInBounds_toArray, List.set_cons_zero, List.set_cons_succ]
                      refine a_move (some 88) _ rfl rfl rfl (by rfl) ?_
                      simp only [Act.put, List.setIfInBounds_toArray, List.set_cons_zero, List.set_cons_succ]
                      refine a_move (some 89) _ rfl rfl rfl (by rfl) ?_
                      simp only [Act.put, List.setIfInBounds_toArray, List.set_cons_zero, List.set_cons_succ]
                      refine a_value (some 90) ?_ rfl rfl (by rfl) (fun w hw => ?_) ?_
                      rotate_left
                      · go_simp
                        with_reducible rfl
                      simp only [Act.put, List.setIfInBounds_toArray, List.set_cons_zero, List.set_cons_succ]
                      refine a_value (some 91) ?_ rfl rfl (by rfl) (fun w hw => ?_) ?_
                      rotate_left
                      · have cp := HC.out w hw
                        go_simp
                        with_reducible rfl
                      simp only [Act.put, List.setIfInBounds_toArray, List.set_cons_zero, List.set_cons_succ]
                      refine a_move (some 94) _ rfl rfl rfl (by rfl) ?_
                      simp only [Act.put, List.setIfInBounds_toArray, List.set_cons_zero, List.set_cons_succ]
                      refine a_alone (some 92) (.slice (some ⟨w6.drew.heap.size, 0, none⟩) 1 1) (w6.drew.alloc (.cells #[.string p] 9)) rfl rfl (by rfl) (by go_simp) (hbw6.alloc hbw6.size _) ?_
                      simp only [Act.put, List.setIfInBounds_toArray, List.set_cons_zero, List.set_cons_succ]
                      refine a_wp rfl (by rfl) (ap_one (some 93) rfl _ _ rfl w.heap.size vh j _ rfl hOh p rfl hbw6.size hby2 (fun v8 w8 hO8 hG8 => ?_))
                      have hbA : Below w.heap.size w (w6.drew.alloc (.cells #[.string p] 9)) := hbw6.alloc hbw6.size _
                      have hb8 : Below w.heap.size w w8 := below_own (World.ownsRow.alloc hOh _) hbA hG8
                      have hO68 : w8.ownsRow w5.heap.size 9 1 v6 (O.drop j).length ((O.drop j).map Value.string) := own_other (World.ownsRow.alloc HO6d.out _) hG8 (fun r hr => by
                        rw [HVH'.out.2] at hr
                        exact own_lt HO5.out r hr)
                      refine ⟨hb8, ?_⟩
                      simp only [Act.put, List.setIfInBounds_toArray, List.set_cons_zero, List.set_cons_succ]
                      have hby3 : (j + 1 + (O.drop j).length) * 16 ≤ 140737488355328 := by rw [hdl]; omega
                      refine a_wp rfl (by rfl) (ap_all (some 95) rfl _ _ rfl w.heap.size v8 (j + 1) _ rfl hO8 v6 (O.drop j) rfl (TsAt.of_own hO68) hb8.size hby3 (fun v9 w9 hO9 hG9 => ?_))
                      have hb9 : Below w.heap.size w w9 := below_own hO8 hb8 hG9
                      have HFIN : Hid (FSt w ts ps (i + 1) v9 w9) := by
                        refine ⟨O.take j ++ p :: O.drop j, ?_, riseB_ins HRM.out.1 (by rw [← HN.out]; exact hj) (fun m hm hmj => HPRE.out m hm hmj) HGE.out, fun y => ?_, ?_, hb9⟩
                        · have e1 : j + 1 + (O.drop j).length = (O.take j ++ p :: O.drop j).length := by
                            have hN := HN.out
                            simp
                            omega
                          rw [e1] at hO9
                          simpa using hO9
                        · rw [mem_ins, foundP_take ts ps i hlt', HRM.out.2 y]
                          refine or_congr Iff.rfl ?_
                          rw [← HPE.out]
                          constructor
                          · intro h
                            exact ⟨h, HS.out, HFD.out⟩
                          · exact fun h => h.1
                        · have hN := HN.out
                          simp
                          omega
                      refine ⟨hb9, ?_⟩
                      clear hO9 hG9 hO8 hG8 hO68 hbA hOh hbw6 hb6 hbd6 hb8
                      simp only [Act.put, List.setIfInBounds_toArray, List.set_cons_zero, List.set_cons_succ]
                      refine a_alone (some 5) v9 w9 rfl rfl (by rfl) (by go_simp) hb9 ?_
                      simp only [Act.put, List.setIfInBounds_toArray, List.set_cons_zero, List.set_cons_succ]
                      clear hb9
                      refine a_done ?_
                      try simp only [Exit.then]
                      go_wp2
                      go_roundw
                      case rel => exact ⟨i + 1, by go_num, by omega, HFIN.out⟩
                      case measure => simp [intOf]; omega
                · have hje : Hid (j = n) := (by omega : j = n)
                  have hjn2 : ¬ (j : Int) < (n : Int) := by omega
                  have hjn3 : decide ((j : Int) < (n : Int)) = false := decide_eq_false hjn2
                  go_wp2_with fail
                  go_quiet (fail)
                  obtain ⟨w4, hw4⟩ : ∃ u, u = wr.drewN nq := ⟨_, rfl⟩
                  rw [← hw4]
                  have HB4 : Hid (Below W.heap.size W w4) := by
                    rw [hw4]
                    exact below_drw HBX.out nq
                  clear hw4
                  go_wp2_with fail
                  go_quiet (fail)
                  obtain ⟨w5, hw5⟩ : ∃ u, u = w4.drewN nq := ⟨_, rfl⟩
                  rw [← hw5]
                  have HB5' : Hid (Below W.heap.size W w5) := by
                    rw [hw5]
                    exact below_drw HB4.out nq
                  have HGE : Hid (∀ hj : j < O.length, bytesBefore (bl p) (bl O[j]) = true) := fun h => absurd h (by have := hje.out; rw [← HN.out]; omega)
                  clear hw5 hbw
                  have hO5 : w5.ownsRow w.heap.size 9 1 (.slice oa n oc) n (O.map Value.string) := own_belowS HO.out HB5'.out
                  have hb5 : Below w.heap.size w w5 := HB5.out.trans (HB5'.out.mono HB5.out.size)
                  obtain ⟨vt, hvt, hvt'⟩ := own_tail hO5 j hj
                  obtain ⟨vh, hvh, hvh', hvb⟩ := own_head hO5 j hj
                  have hrt := hvt (w5.alloc (.cells #[] 9))
                  have HO5 : Hid (w5.ownsRow w.heap.size 9 1 (.slice oa n oc) n (O.map Value.string)) := hO5
                  have HB5w : Hid (Below w.heap.size w w5) := hb5
                  have HVT : Hid (TsAt (w5.alloc (.cells #[] 9)) vt (O.drop j)) := hvt' _ (World.ownsRow.alloc hO5 _)
                  have HVH : Hid (∀ w : World, (Instr.slice 23 (.slice oa n oc) none (some (.int .i64 (j : Int))) none).run Tryd.prog w = .ok vh w) := hvh
                  have HVH' : Hid ((∀ wx : World, wx.ownsRow w.heap.size 9 1 (.slice oa n oc) n (O.map Value.string) → wx.ownsRow w.heap.size 9 1 vh j ((O.take j).map Value.string)) ∧ vh.ownBlock = (Value.slice oa n oc).ownBlock) := ⟨hvh', hvb⟩
                  have hOE := own_empty w5 9 1 w5.heap.size (Nat.le_refl _)
                  have hdl : (O.drop j).length = n - j := by rw [List.length_drop, ← HN.out]
                  have hby1 : (0 + (O.drop j).length) * 16 ≤ 140737488355328 := by rw [hdl]; omega
                  have hsz5 : w5.heap.size ≤ (w5.alloc (.cells #[] 9)).heap.size := by simp
                  clear hO5 hb5 hvt hvt' hvh hvh' hvb
                  go_wp2_with (at_builtin; go_loud (refine wpList_plain rfl fun K' hK' => ?_; refine ap_all (some 84) rfl _ _ rfl w5.heap.size _ _ _ rfl hOE vt (O.drop j) rfl HVT.out hsz5 hby1 (fun v6 w6 hO6 hG6 => hK' _ _ ?_); have hb56 : Below w5.heap.size w5 w6 := below_own hOE ((Below.refl _ _).alloc (Nat.le_refl _) _) hG6; rw [Nat.zero_add, List.nil_append] at hO6; have HO6 : Hid (w6.ownsRow w5.heap.size 9 1 v6 (O.drop j).length ((O.drop j).map Value.string)) := hO6; have HB56 : Hid (Below w5.heap.size w5 w6) := hb56; clear hO6 hG6 hb56 hrt hOE))
                  have hb6 : Below w.heap.size w w6 := HB5w.out.trans (HB56.out.mono HB5w.out.size)
                  have hbd6 : Below w6.heap.size w6 w6.drew := (Below.refl _ _).drew
                  have hbw6 : Below w.heap.size w w6.drew := hb6.trans (hbd6.mono hb6.size)
                  have HO6d : Hid (w6.drew.ownsRow w5.heap.size 9 1 v6 (O.drop j).length ((O.drop j).map Value.string)) := own_belowS HO6.out hbd6
                  have HOv : Hid (w6.drew.ownsRow w.heap.size 9 1 (.slice oa n oc) n (O.map Value.string)) := own_belowS (own_belowS HO5.out HB56.out) hbd6
                  have hOh := HVH'.out.1 _ HOv.out
                  have hby2 : (j + 1) * 16 ≤ 140737488355328 := by omega
                  refine wp_region_permA [(false, 0), (false, 1), (false, 2), (false, 3), (false, 4), (false, 5), (false, 6), (false, 9), (true, 7), (true, 8), (true, 10), (true, 11)] (fun wx => Below w.heap.size w wx) (by kernel_rfl) (by kernel_rfl) hbw6 ?_
                  refine a_move (some 85) _ rfl rfl rfl (by rfl) ?_
                  simp only [Act.put, List.setIfInBounds_toArray, List.set_cons_zero, List.set_cons_succ]
                  refine a_move (some 86) _ rfl rfl rfl (by rfl) ?_
                  simp only [Act.put, List.setIfInBounds_toArray, List.set_cons_zero, List.set_cons_succ]
                  refine a_value (some 87) ?_ rfl rfl (by rfl) (fun w hw => ?_) ?_
                  rotate_left
                  · have hv := HVH.out w
                    go_simp
                    go_simp
                    with_reducible rfl
                  simp only [Act.put, List.setIfInBounds_toArray, List.set_cons_zero, List.set_cons_succ]
                  refine a_move (some 88) _ rfl rfl rfl (by rfl) ?_
                  simp only [Act.put, List.setIfInBounds_toArray, List.set_cons_zero, List.set_cons_succ]
                  refine a_move (some 89) _ rfl rfl rfl (by rfl) ?_
                  simp only [Act.put, List.setIfInBounds_toArray, List.set_cons_zero, List.set_cons_succ]
                  refine a_value (some 90) ?_ rfl rfl (by rfl) (fun w hw => ?_) ?_
                  rotate_left
                  · go_simp
                    with_reducible rfl
                  simp only [Act.put, List.setIfInBounds_toArray, List.set_cons_zero, List.set_cons_succ]
                  refine a_value (some 91) ?_ rfl rfl (by rfl) (fun w hw => ?_) ?_
                  rotate_left
                  · have cp := HC.out w hw
                    go_simp
                    with_reducible rfl
                  simp only [Act.put, List.setIfInBounds_toArray, List.set_cons_zero, List.set_cons_succ]
                  refine a_move (some 94) _ rfl rfl rfl (by rfl) ?_
                  simp only [Act.put, List.setIfInBounds_toArray, List.set_cons_zero, List.set_cons_succ]
                  refine a_alone (some 92) (.slice (some ⟨w6.drew.heap.size, 0, none⟩) 1 1) (w6.drew.alloc (.cells #[.string p] 9)) rfl rfl (by rfl) (by go_simp) (hbw6.alloc hbw6.size _) ?_
                  simp only [Act.put, List.setIfInBounds_toArray, List.set_cons_zero, List.set_cons_succ]
                  refine a_wp rfl (by rfl) (ap_one (some 93) rfl _ _ rfl w.heap.size vh j _ rfl hOh p rfl hbw6.size hby2 (fun v8 w8 hO8 hG8 => ?_))
                  have hbA : Below w.heap.size w (w6.drew.alloc (.cells #[.string p] 9)) := hbw6.alloc hbw6.size _
                  have hb8 : Below w.heap.size w w8 := below_own (World.ownsRow.alloc hOh _) hbA hG8
                  have hO68 : w8.ownsRow w5.heap.size 9 1 v6 (O.drop j).length ((O.drop j).map Value.string) := own_other (World.ownsRow.alloc HO6d.out _) hG8 (fun r hr => by
                    rw [HVH'.out.2] at hr
                    exact own_lt HO5.out r hr)
                  refine ⟨hb8, ?_⟩
                  simp only [Act.put, List.setIfInBounds_toArray, List.set_cons_zero, List.set_cons_succ]
                  have hby3 : (j + 1 + (O.drop j).length) * 16 ≤ 140737488355328 := by rw [hdl]; omega
                  refine a_wp rfl (by rfl) (ap_all (some 95) rfl _ _ rfl w.heap.size v8 (j + 1) _ rfl hO8 v6 (O.drop j) rfl (TsAt.of_own hO68) hb8.size hby3 (fun v9 w9 hO9 hG9 => ?_))
                  have hb9 : Below w.heap.size w w9 := below_own hO8 hb8 hG9
                  have HFIN : Hid (FSt w ts ps (i + 1) v9 w9) := by
                    refine ⟨O.take j ++ p :: O.drop j, ?_, riseB_ins HRM.out.1 (by rw [← HN.out]; exact hj) (fun m hm hmj => HPRE.out m hm hmj) HGE.out, fun y => ?_, ?_, hb9⟩
                    · have e1 : j + 1 + (O.drop j).length = (O.take j ++ p :: O.drop j).length := by
                        have hN := HN.out
                        simp
                        omega
                      rw [e1] at hO9
                      simpa using hO9
                    · rw [mem_ins, foundP_take ts ps i hlt', HRM.out.2 y]
                      refine or_congr Iff.rfl ?_
                      rw [← HPE.out]
                      constructor
                      · intro h
                        exact ⟨h, HS.out, HFD.out⟩
                      · exact fun h => h.1
                    · have hN := HN.out
                      simp
                      omega
                  refine ⟨hb9, ?_⟩
                  clear hO9 hG9 hO8 hG8 hO68 hbA hOh hbw6 hb6 hbd6 hb8
                  simp only [Act.put, List.setIfInBounds_toArray, List.set_cons_zero, List.set_cons_succ]
                  refine a_alone (some 5) v9 w9 rfl rfl (by rfl) (by go_simp) hb9 ?_
                  simp only [Act.put, List.setIfInBounds_toArray, List.set_cons_zero, List.set_cons_succ]
                  clear hb9
                  refine a_done ?_
                  try simp only [Exit.then]
                  go_wp2
                  go_roundw
                  case rel => exact ⟨i + 1, by go_num, by omega, HFIN.out⟩
                  case measure => simp [intOf]; omega
    · have hie : i = L := by omega
      subst hie
      have HF : Hid (FSt w ts ps i u5 wr) := hF
      have hlt2 : ¬ (i : Int) < (i : Int) := by omega
      clear hF
      go_wp2
      go_ret
      exact ⟨_, rfl, HF.out⟩
end Go.Proofs.YtpkbfljoakodoaaDoor
