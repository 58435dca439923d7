/- My own work: the walk of found. -/
import Derived.Test.YtpkbfljoakodoaaDoorSSort
import Derived.Deep.DeepAppendWide
namespace Go.Proofs.YtpkbfljoakodoaaDoor
open Go.RowKit Go.Sort Go.Shelf
open S2 (bl bl_len bl_inj splitB splitV split_ok clone_ok Tab NTab ex_size)

theorem infoS9 : (Tryd.prog.info? 9).map (fun i => (i.zero, i.size, i.bytes)) = some (some (.string ⟨#[]⟩), 1, 16) := by kernel_rfl
/-- The paths whose signs are not sought any more. -/
def hits (S : List UInt8 → Bool) (ps : List ByteArray) : List ByteArray := ps.filter fun p => splitB (bl p) && !S (sgn p)
theorem hits_take (S : List UInt8 → Bool) (ps : List ByteArray) (n : Nat) (h : n < ps.length) : hits S (ps.take (n + 1)) = hits S (ps.take n) ++ (if splitB (bl ps[n]) && !S (sgn ps[n]) then [ps[n]] else []) := by
  unfold hits
  rw [List.take_succ_eq_append_getElem h, List.filter_append]
  congr 1
  cases hc : (splitB (bl ps[n]) && !S (sgn ps[n])) <;> simp [hc]
theorem enc_bl (l : List ByteArray) : (l.map bl).map encStr = l.map Value.string := by
  rw [List.map_map]
  refine List.map_congr_left fun s _ => ?_
  simp [encStr]
theorem own_belowS {w w' : World} {base n : Nat} {v : Value} {xs : List Value} (h : w.ownsRow base 9 1 v n xs) (hb : Below w.heap.size w w') : w'.ownsRow base 9 1 v n xs := by
  obtain ⟨h1, h2⟩ := h
  refine ⟨h1, ?_⟩
  rcases h2 with h2 | ⟨g, cap, cur, e, hb1, hg, h3⟩
  · exact .inl h2
  · exact .inr ⟨g, cap, cur, e, hb1, (hb.block g (Array.getElem?_eq_some_iff.1 hg).1).trans hg, h3⟩
theorem below_own {w0 w w' : World} {n : Nat} {v : Value} {xs : List Value} {e : TypeId} {s : Nat} (h : w.ownsRow w0.heap.size e s v n xs) (hb : Below w0.heap.size w0 w) (hg : w.grownBy w' v.ownBlock) : Below w0.heap.size w0 w' := by
  refine hb.grown hg hb.size (fun r hr => ?_)
  obtain ⟨_, ⟨rfl, _⟩ | ⟨g', cap, cur, rfl, hle, _⟩⟩ := h
  · cases hr
  · simp [Value.ownBlock] at hr; omega
theorem zero75 (w : World) : (zeroValue 75).run Tryd.prog w = .ok (.agg #[]) w := Tryd.zeroValue75 w
theorem set_look {w : World} {g N : Nat} {S : List UInt8 → Bool} {D : DataW Unit} (h : SetAt w g N S D) (q : ByteArray) (hq : q.size ≤ maxLen) : (Instr.lookup 55 (.map (some g)) (.string q) true).run Tryd.prog w = .ok (.tuple #[.agg #[], .bool (S (bl q))]) w := by
  obtain ⟨v, ps, h1, h2⟩ := h.own.look_ok str_keyed Tryd.underlying55 (zero75 w) unitElem_mk (Go.WideMaps.keyOf_string_mk Tryd.underlying9 hq)
  obtain ⟨rfl, _⟩ := unitElem_inv h2
  rw [h1, h.has]
set_option maxRecDepth 20000 in
set_option maxHeartbeats 4000000 in
/-- found: those paths whose signs are not in the set any more, rising, each once, on a row of its own. -/
theorem found_ok (a : Option Addr) (ps : List ByteArray) (c g N : Nat) (S : List UInt8 → Bool) (D : DataW Unit) (w : World) (h : StrsAt w a ps c) (hS : SetAt w g N S D) (hT : Tab w) (hNT : NTab w) :
    Calls Tryd.prog 24 #[.slice a ps.length c, .map (some g)] w fun e w' => ∃ v, e = .returned v ∧ w'.ownsRow w.heap.size 9 1 v (uniq ((hits S ps).map bl)).length ((uniq ((hits S ps).map bl)).map encStr) ∧ Below w.heap.size w w' := by
  obtain ⟨i0, hi, hz0, hz1, hz2⟩ := info_parts infoS9
  have hlen := h.len
  unfold big at hlen
  have H0 : Hid (StrsAt w a ps c) := h
  have HS : Hid (SetAt w g N S D) := hS
  have HT : Hid (Tab w) := hT
  have HN : Hid (NTab w) := hNT
  obtain ⟨L, hL⟩ : ∃ L, L = ps.length := ⟨_, rfl⟩
  rw [← hL] at hlen ⊢
  have HL : Hid _ := hL
  clear h hS hT hNT hL
  go_enter Tryd.func24, Tryd.ntmps24
  go_wp2
  go_loopw [5, 15] (fun v i wr => ∃ n : Nat, i = .int .i64 n ∧ n ≤ L ∧ wr.ownsRow w.heap.size 9 1 v (hits S (ps.take n)).length ((hits S (ps.take n)).map Value.string) ∧ Below w.heap.size w wr)
    (fun _ i _ => L - (intOf i).toNat)
  case atStart => exact ⟨0, rfl, Nat.zero_le _, World.ownsRow_nil .., Below.refl _ _⟩
  case round =>
    obtain ⟨n, rfl, hn, hown, hB⟩ := hrel
    have HB : Hid _ := hB
    have HO : Hid _ := hown
    by_cases hlt : n < L
    · have hlt' : n < ps.length := by rw [← HL.out]; exact hlt
      obtain ⟨b, off, ha, hcs⟩ := (H0.out.keep HB.out).ex
      have hc := hcs n hlt'
      obtain ⟨p, hp⟩ : ∃ p, p = ps[n] := ⟨_, rfl⟩
      have hps : p.size ≤ 140737488355328 := by
        have := H0.out.each p (by rw [hp]; exact List.getElem_mem _)
        unfold big at this
        omega
      have HF : Hid (hits S (ps.take (n + 1)) = hits S (ps.take n) ++ (if splitB (bl p) && !S (sgn p) then [p] else [])) := by
        show _ = _
        rw [hits_take S ps n hlt', ← hp]
      have hk : (hits S (ps.take n)).length ≤ n := by
        unfold hits
        exact Nat.le_trans (List.length_filter_le _ _) (by simp; omega)
      obtain ⟨k, hkk⟩ : ∃ k, k = (hits S (ps.take n)).length := ⟨_, rfl⟩
      rw [← hkk] at hk
      have HK : Hid _ := hkk
      rw [← hp] at hc
      have ha' := ha (by omega)
      subst ha'
      have hSp := split_ok p wr hps (HT.out.below HB.out HT.out.pos) (NTab.keep HN.out HB.out)
      clear hcs hp ha hB hown hkk
      cases hs : splitB (bl p) with
      | false =>
        have e1 : splitV p = .tuple #[.string ⟨#[]⟩, .string ⟨#[]⟩, .int .i64 17] := by unfold splitV; rw [hs]; rfl
        rw [e1] at hSp
        clear e1
        go_wp2_with (go_at_call 32; refine hSp.mono ?_; rintro e w1 ⟨rfl, hb1⟩; have HB1 : Hid _ := hb1; have hlk := set_look ((HS.out.keep HB.out).keep hb1) ⟨#[]⟩ (by decide); clear hb1 hSp)
        go_roundw
        case rel =>
          have hB := HB.out
          have hb1 := HB1.out
          have hb2 : Below wr.heap.size wr (w1.alloc (.cells #[] 75)) := hb1.alloc hb1.size _
          refine ⟨n + 1, by go_num, by omega, ?_, hB.trans (hb2.mono hB.size)⟩
          rw [HF.out, hs, ]
          simpa using own_belowS HO.out hb2
        case measure => simp [intOf]; omega
      | true =>
        obtain ⟨q, hq⟩ : ∃ q, q = p.extract 7 39 := ⟨_, rfl⟩
        obtain ⟨q2, hq2⟩ : ∃ q, q = p.extract 40 p.size := ⟨_, rfl⟩
        have e1 : splitV p = .tuple #[.string q, .string q2, .int .i64 0] := by unfold splitV; rw [hs, hq, hq2]; rfl
        rw [e1] at hSp
        have HQ : bl q = sgn p := by rw [hq]; exact win_ex p 7
        have hqs : q.size ≤ maxLen := by
          have : q.size ≤ p.size := by rw [hq]; simp; omega
          unfold maxLen
          omega
        have hset : ∀ w1, Below wr.heap.size wr w1 → (Instr.lookup 55 (.map (some g)) (.string q) true).run Tryd.prog w1 = .ok (.tuple #[.agg #[], .bool (S (sgn p))]) w1 := fun w1 hb1 => by
          rw [← HQ]
          exact set_look ((HS.out.keep HB.out).keep hb1) q hqs
        have HSET : Hid _ := hset
        clear e1 hq hq2 hqs HQ hset
        cases hb : S (sgn p) with
        | true =>
          have HS2 : Hid _ := hb
          go_wp2_with (go_at_call 32; refine hSp.mono ?_; rintro e w1 ⟨rfl, hb1⟩; have HB1 : Hid _ := hb1; have hlk := HSET.out w1 hb1; rw [hb] at hlk; clear hb1 hSp hb)
          go_roundw
          case rel =>
            have hB := HB.out
            have hb1 := HB1.out
            have hb2 : Below wr.heap.size wr (w1.alloc (.cells #[] 75)) := hb1.alloc hb1.size _
            refine ⟨n + 1, by go_num, by omega, ?_, hB.trans (hb2.mono hB.size)⟩
            rw [HF.out, hs, HS2.out]
            simpa using own_belowS HO.out hb2
          case measure => simp [intOf]; omega
        | false =>
          have HS2 : Hid _ := hb
          go_wp2_with (first
            | (go_at_call 32; refine hSp.mono ?_; rintro e w1 ⟨rfl, hb1⟩; have HB1 : Hid _ := hb1; have hlk := HSET.out w1 hb1; rw [hb] at hlk; clear hSp hb; have hC := clone_ok p (w1.alloc (.cells #[] 75)) hps; have hb2 : Below wr.heap.size wr (w1.alloc (.cells #[] 75)) := hb1.alloc hb1.size _; have HB2 : Hid _ := hb2; clear hb1 hb2)
            | (go_at_call 39; refine hC.mono ?_; rintro e w3 ⟨rfl, hb3⟩; have hb4 := HB2.out.trans (hb3.mono HB2.out.size); have HB4 : Hid _ := hb4; have hown3 := own_belowS HO.out hb4; rw [← HK.out] at hown3; have hsz3 := (HB.out.trans (hb4.mono HB.out.size)).size; clear hC hb3 hb4 hlk)
            | (at_builtin; refine wpList_append_own_wide _ rfl _ _ 23 rfl w.heap.size 9 i0 (.string ⟨#[]⟩) 1 16 Tryd.underlying23 hi hz0 hz1 hz2 rfl (by decide) _ _ _ rfl (hown3.alloc _) ⟨w3.heap.size, 0, none⟩ 1 1 [.string p] rfl rfl ?c1 ?c2 ?c3 ?c4 ?c5 ?_))
          case c1 => exact cell_one_new _ _ _
          case c2 => intro u hu; simp at hu; subst hu; rfl
          case c3 => unfold maxLen; omega
          case c4 => omega
          case c5 => simp; omega
          intro v' w5 hown5 hgrow5 _
          have H5 : Hid _ := hown5
          have HG5 : Hid _ := hgrow5
          have H3 : Hid _ := hown3
          clear hown5 hgrow5 hown3
          go_wp2
          go_roundw
          case rel =>
            have hB := HB.out
            have hb4 := HB4.out
            have hb6 : Below wr.heap.size wr (w3.alloc (.cells #[.string p] 9)) := hb4.alloc hb4.size _
            refine ⟨n + 1, by go_num, by omega, ?_, below_own (World.ownsRow.alloc H3.out _) (hB.trans (hb6.mono hB.size)) HG5.out⟩
            have h5 := H5.out
            rw [HF.out, hs, HS2.out]
            simp only [Bool.not_false, Bool.and_self, if_true, List.map_append, List.map_cons, List.map_nil, List.length_append, List.length_cons, List.length_nil]
            rw [← HK.out]
            exact h5
          case measure => simp [intOf]; omega
    · obtain rfl : n = L := by omega
      have hk : (hits S (ps.take n)).length ≤ n := by
        unfold hits
        exact Nat.le_trans (List.length_filter_le _ _) (by simp; omega)
      have e : ps.take n = ps := List.take_of_length_le (by have := HL.out; omega)
      rw [e, ← enc_bl] at hown
      rw [e] at hk
      have hso := sort_own hown (by omega)
      have HB : Hid _ := hB
      have HO : Hid _ := hown
      clear hB hown
      go_wp2_with (first
        | (go_at_call 40; refine hso.mono ?_; rintro e w1 ⟨⟨r, rfl⟩, hown1, hg1⟩; have hb1 := below_own HO.out HB.out hg1; have HB1 : Hid _ := hb1; have hco := compact_own hown1 (by omega); clear hown1 hg1 hb1 hso)
        | (go_at_call 41; refine hco.mono ?_; rintro e w2 ⟨v2, rfl, hown2, hb2⟩; have HO2 : Hid _ := hown2; have HB2 : Hid _ := hb2; clear hown2 hb2 hco))
      go_ret
      exact ⟨_, rfl, HO2.out, HB1.out.trans HB2.out⟩
end Go.Proofs.YtpkbfljoakodoaaDoor
