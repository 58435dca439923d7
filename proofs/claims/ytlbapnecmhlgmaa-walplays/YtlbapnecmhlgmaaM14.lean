/- Write and Flush once more: the events' row stays where it was, or lies in a new block. The walk of do once more: where the events lie; and Open where a header stands. -/
import Derived.Test.YtlbapnecmhlgmaaM8
import Derived.Test.YtlbapnecmhlgmaaM9
namespace Go.Proofs.Ytlbapnecmhlgmaa
open Go.RowKit

/-- A disk that goes on: what it is then, what has changed, and where its events lie. -/
structure To (w w' : World) (base g g1 c1 g2 c2 : Nat) (ev ev' : Value) (D' : Dk) : Prop where
  disk : DiskAt w' base g g1 c1 g2 c2 ev' D'
  chg : Chg g g2 ev w w'
  fresh : ∀ k, ev'.ownBlock = some k → ev.ownBlock = some k ∨ w.heap.size ≤ k
section
variable {w w1 w2 : World} {base g g1 c1 g2 c2 : Nat} {ev ev1 ev2 : Value} {D1 D2 : Dk}
theorem To.trans (h : To w w1 base g g1 c1 g2 c2 ev ev1 D1) (k : To w1 w2 base g g1 c1 g2 c2 ev1 ev2 D2) : To w w2 base g g1 c1 g2 c2 ev ev2 D2 :=
  ⟨k.disk, ⟨k.chg.os.trans h.chg.os, k.chg.tape.trans h.chg.tape, k.chg.output.trans h.chg.output, Nat.le_trans h.chg.size k.chg.size, fun q hq h1 h2 h3 =>
    (k.chg.block q (Nat.lt_of_lt_of_le hq h.chg.size) h1 h2 (fun e => by
      rcases h.fresh q e with h4 | h4
      · exact h3 h4
      · omega)).trans (h.chg.block q hq h1 h2 h3)⟩, fun q e => by
    rcases k.fresh q e with h4 | h4
    · exact h.fresh q h4
    · have := h.chg.size
      exact .inr (by omega)⟩
theorem To.after (hb : Below w.heap.size w w1) (k : To w1 w2 base g g1 c1 g2 c2 ev ev2 D2) : To w w2 base g g1 c1 g2 c2 ev ev2 D2 :=
  ⟨k.disk, (Chg.of_below hb).trans k.chg, fun q e => by
    rcases k.fresh q e with h4 | h4
    · exact .inl h4
    · have := hb.size
      exact .inr (by omega)⟩
theorem To.refl (h : DiskAt w base g g1 c1 g2 c2 ev D1) : To w w base g g1 c1 g2 c2 ev ev D1 := ⟨h, Chg.refl _ _ _ _, fun _ e => .inl e⟩
end
theorem wp_append_evs {P : Program} {w : World} {o : Oper} {a : Act} {K : Act → World → Prop} {Q : Exit → Act → World → Prop} (s x : Operand) (t : TypeId)
    (ho : o.op = .call { callee := .builtin .append, args := #[s, x], argTypes := #[t, t] })
    (base : Nat) (e : TypeId) (i : TypeInfo) (z : Value) (size bytes : Nat) (ht : P.underlying t = some (.slice e)) (hi : P.info? e = some i) (hz : i.zero = some z)
    (hsize : i.size = size) (hby : i.bytes = bytes) (hzs : z.cells.size = size) (hsz : 0 < size)
    (v : Value) (n : Nat) (xs : List Value) (hs : a.eval s = v) (hown : w.ownsRow base e size v n xs)
    (ad : Addr) (m c : Nat) (news : List Value) (hx : a.eval x = .slice (some ad) m c) (hl : news.length = m * size) (hnews : ∀ j u, news[j]? = some u → w.cell? (ad.add j) = some u) (h1 : ∀ u ∈ news, u.oneCell' = true)
    (h63 : n + m ≤ maxLen) (hbytes : (n + m) * bytes ≤ 140737488355328) (hbase : base ≤ w.heap.size)
    (h : ∀ v' w', w'.ownsRow base e size v' (n + m) (xs ++ news) → w.grownBy w' v.ownBlock → (v'.ownBlock = v.ownBlock ∨ v'.ownBlock = some w.heap.size) → K (a.put o.dst v') w') : o.wp P a w K Q := by
  obtain ⟨v', w', hr, h2, h3, _, h5⟩ := run_append_own_at (P := P) w base t o.type e i z size bytes ht hi hz hsize hby hzs hsz v n xs hown ad m c news hl hnews h1 h63 hbytes hbase
  unfold Oper.wp execOp
  simp only [ho, resolve, invoke, builtin, Sem.run_bind, Sem.run_pure, Result.andThen_ok, List.map_toArray, List.map_cons, List.map_nil, hs, hx, hr]
  exact h v' w' h2 h3 h5

set_option maxRecDepth 20000 in
set_option maxHeartbeats 2000000 in
theorem flush_to {w : World} {base g g1 c1 g2 c2 : Nat} {ev : Value} {D : Dk} (hD : DiskAt w base g g1 c1 g2 c2 ev D) (hbase : base ≤ w.heap.size) (hlen : D.E.length ≤ 1000000) :
    Calls Try.prog 41 #[.pointer (some ⟨g, 0, none⟩)] w fun e w' => e = .returned (.int .i64 0) ∧ ∃ ev', To w w' base g g1 c1 g2 c2 ev ev' D.flush := by
  have H := made_yes g g2 (D.s * 256) c2 w hD.cell1 (by have := hD.ok.lo; omega)
  obtain ⟨i0, hi, hz0, hz1, hz2⟩ := info_parts info65b
  have hR := hD.row
  have hevs := hD.evs
  have HD : Hid _ := hD
  clear hD
  have hevA : evA flushEv = flushEv.cells.toArray := rfl
  obtain ⟨n, hn⟩ : ∃ n, n = D.E.length := ⟨_, rfl⟩
  rw [← hn] at hlen
  have HN : Hid _ := hn
  clear hn
  obtain ⟨R, hRr⟩ : ∃ R, R = #[Value.slice (some ⟨g1, 0, none⟩) (D.s * 256) c1, .slice (some ⟨g2, 0, none⟩) (D.s * 256) c2, ev] := ⟨_, rfl⟩
  have hR2 : R[2]? = some ev := by rw [hRr]; rfl
  rw [← hRr] at hR
  have hone : ∀ w, (Instr.buildSlice 62 1 #[(0, .agg (evA flushEv))]).run Try.prog w = .ok (.slice (some ⟨w.heap.size, 0, none⟩) 1 1) (w.alloc (.cells (evA flushEv) 95)) := one_event flushEv
  have HO : Hid _ := hone
  clear hone hevA hRr
  go_enter Try.func41, Try.ntmps41
  go_wp2_with fail
  refine H.mono ?_
  rintro e w' ⟨rfl, hw'⟩
  subst w'
  clear H
  go_wp2_with fail
  refine wp_region_perm [(false, 0), (false, 1), (false, 2), (false, 3), (false, 4), (true, 5), (true, 6), (true, 7), (true, 8), (true, 9), (true, 10)] (fun wx => Row wx g R 64) (by kernel_rfl) (by kernel_rfl) hR ?_
  refine p_move (some 6) _ rfl rfl rfl (by rfl) ?_
  simp only [Act.put, List.setIfInBounds_toArray, List.set_cons_zero, List.set_cons_succ]
  refine p_move (some 7) _ rfl rfl rfl (by rfl) ?_
  simp only [Act.put, List.setIfInBounds_toArray, List.set_cons_zero, List.set_cons_succ]
  refine p_value (some 8) ?_ rfl rfl (by rfl) (fun w hw => ?_) ?_
  rotate_left
  · go_simp
    with_reducible rfl
  simp only [Act.put, List.setIfInBounds_toArray, List.set_cons_zero, List.set_cons_succ]
  refine p_value (some 9) ?_ rfl rfl (by rfl) (fun w hw => ?_) ?_
  rotate_left
  · go_simp
    with_reducible rfl
  simp only [Act.put, List.setIfInBounds_toArray, List.set_cons_zero, List.set_cons_succ]
  refine p_value (some 10) ?_ rfl rfl (by rfl) (fun w hw => ?_) ?_
  rotate_left
  · have hc := (hw.cell 2).trans hR2
    go_simp
    with_reducible rfl
  simp only [Act.put, List.setIfInBounds_toArray, List.set_cons_zero, List.set_cons_succ]
  refine p_call (some 11) rfl rfl (by rfl) 58 #[] (by go_simp) ((flush_any _).mono fun e w' ⟨he, hw'⟩ => ⟨_, he, fun _ => by rw [hw']; exact hR.alloc _, ?_⟩)
  subst hw'
  simp only [Act.put, List.setIfInBounds_toArray, List.set_cons_zero, List.set_cons_succ]
  refine p_buildSlice (some 12) 62 1 _ #[(0, .agg (evA flushEv))] _ _ rfl rfl rfl (by rfl) (by simp only [List.map_toArray, List.map_cons, List.map_nil]; rfl) (HO.out _) (fun _ => (hR.alloc _).alloc _) ?_
  simp only [Act.put, List.setIfInBounds_toArray, List.set_cons_zero, List.set_cons_succ]
  have hb1 : Below w.heap.size w ((w.drew.alloc (.cells (evA flushEv) 95)).alloc (.cells (evA flushEv) 95)) := (((Below.refl _ _).drew).alloc (Nat.le_refl _) _).alloc (by simp) _
  have hev1 : ((w.drew.alloc (.cells (evA flushEv) 95)).alloc (.cells (evA flushEv) 95)).ownsRow base 95 257 ev D.E.length (evCells D.E) := ownsRow_below hevs hb1
  have hR1 : Row ((w.drew.alloc (.cells (evA flushEv) 95)).alloc (.cells (evA flushEv) 95)) g R 64 := (hR.alloc _).alloc _
  have hnew : ∀ j u, flushEv.cells[j]? = some u → ((w.drew.alloc (.cells (evA flushEv) 95)).alloc (.cells (evA flushEv) 95)).cell? ((⟨(w.drew.alloc (.cells (evA flushEv) 95)).heap.size, 0, none⟩ : Addr).add j) = some u := fun j u hj => by
    rw [Addr.add_mid, Nat.zero_add, (Row.new (w.drew.alloc (.cells (evA flushEv) 95)) (evA flushEv) 95).cell j]
    simpa [evA] using hj
  refine p_wp rfl (by rfl) ?_
  refine wp_append_evs (.tmp 10) (.tmp 12) 62 rfl base 95 i0 (.agg (evA zeroEv)) 257 264 Try.underlying62 hi hz0 hz1 hz2 (evA_size _) (by decide) ev D.E.length (evCells D.E) rfl hev1 _ 1 1 flushEv.cells rfl (by rw [Ev.cells_len]) hnew (Ev.cells_one _) (by rw [← HN.out]; unfold maxLen; omega) (by rw [← HN.out]; omega) (by simp; omega) ?_
  intro ev' w3 hown hgr hat
  have hfr : ∀ k, ev'.ownBlock = some k → ev.ownBlock = some k ∨ w.heap.size ≤ k := fun k hk => by
    rcases hat with h | h
    · exact .inl (h ▸ hk)
    · rw [h] at hk; simp at hk; exact .inr (by omega)
  have HFR : Hid _ := hfr
  clear hfr hat
  have hc3 : Chg w.heap.size w.heap.size ev w w3 := (Chg.of_below hb1).trans (Chg.of_grown hgr)
  have hg0 : g < w.heap.size := hR.lt
  have hgev : ev.ownBlock ≠ some g := fun hq => by
    obtain ⟨_, _, cur', hr⟩ := ownsRow_lt hevs g hq
    have := hr.symm.trans hR
    simp at this
  have hR3 : Row w3 g R 64 := (hc3.block g hg0 (by omega) (by omega) hgev).trans hR
  refine ⟨fun _ => hR3, ?_⟩
  show wpPerm _ _ _ _ _ (Act.put _ (some 13) ev') w3
  have hc3' : Chg g g2 ev w w3 := (Chg.of_below hb1).trans (Chg.of_grown hgr)
  have hfin := HD.out.more flushEv ⟨fun _ => ⟨by show (0 : Int) ≤ 0; omega, by show (0 : Int) < 256; omega⟩, .inl rfl⟩ hc3 hown
  have HF : Hid _ := hfin
  obtain ⟨xv, cv, hev'⟩ : ∃ x c, ev' = .slice x (D.E.length + 1) c := by
    obtain ⟨_, ⟨_, h2⟩ | ⟨g', c', cur, h1, _⟩⟩ := hown
    · omega
    · exact ⟨_, _, h1⟩
  subst hev'
  have hcell := hR3.cell 2
  have hfz := hR3.frozen 2
  rw [hR2] at hcell
  clear hfin hown hgr hc3 hev1 hnew hb1 hR1
  simp only [Act.put, List.setIfInBounds_toArray, List.set_cons_zero, List.set_cons_succ]
  refine p_alone (some 14) (.pointer (some ⟨g, 0, none⟩)) w3 rfl rfl (by rfl) (by go_simp) (fun _ => hR3) ?_
  simp only [Act.put, List.setIfInBounds_toArray, List.set_cons_zero, List.set_cons_succ]
  refine p_alone (some 15) (.pointer (some ⟨g, 2, none⟩)) w3 rfl rfl (by rfl) (by go_simp) (fun _ => hR3) ?_
  simp only [Act.put, List.setIfInBounds_toArray, List.set_cons_zero, List.set_cons_succ]
  refine p_store (w3.setCell ⟨g, 2, none⟩ (.slice xv (D.E.length + 1) cv)) rfl rfl (by rfl) (by go_simp) (fun h => absurd rfl h) ?_
  refine p_done ?_
  simp only [Exit.then]
  go_wp2
  go_ret
  exact ⟨rfl, _, HF.out, hc3'.trans (Chg.of_setCell _ _ _), HFR.out⟩
set_option maxRecDepth 20000 in
set_option maxHeartbeats 4000000 in
theorem write_to {w : World} {base g g1 c1 g2 c2 : Nat} {ev : Value} {D : Dk} (hD : DiskAt w base g g1 c1 g2 c2 ev D) (hbase : base ≤ w.heap.size) (hlen : D.E.length ≤ 1000000) (n : Nat) (hn : n < D.s) (b off cap : Nat) (f : Nat → Int) (src : Array Value) (tb : TypeId) (h95 : tb ≠ 95) (hsrc : Row w b src tb) (hb : b ≠ g2)
    (hcs : ∀ i, i < 256 → src[off + i]? = some (.int .u8 (f i))) (hf : ∀ i, 0 ≤ f i ∧ f i < 256) :
    Calls Try.prog 19 #[.pointer (some ⟨g, 0, none⟩), .int .i64 n, .slice (some ⟨b, off, none⟩) 256 cap] w fun e w' => e = .returned (.int .i64 0) ∧ ∃ ev', To w w' base g g1 c1 g2 c2 ev ev' (D.write n f) := by
  have h0 := hD.ok.lo
  have h1 := hD.ok.hi
  have H := made_yes g g2 (D.s * 256) c2 w hD.cell1 (by omega)
  have HH := has_any g g2 D.s c2 n w hD.cell1 h0 h1
  rw [show decide (0 ≤ (n : Int) ∧ (n : Int) < D.s) = true by simp; omega] at HH
  obtain ⟨_, _, hmc, hc63, cur, hr2, hsz, _⟩ := ownsRow_slice hD.now
  have HS := sectorOf_any g2 (D.s * 256) n c2 w (by omega) hmc hc63
  have hc := hD.cell1
  have hlen256 := byts_len f 256
  have hcp := run_copy_row (P := Try.prog) w 40 40 3 5 g2 (n * 256) 256 256 ⟨b, off, none⟩ 256 cap cur 5 (byts f 256) Try.underlying40 info5s hr2 (by rw [hlen256]; rfl) (fun j v hj => by
    have hj' : j < 256 := by rw [← hlen256]; exact (List.getElem?_eq_some_iff.1 hj).1
    rw [Addr.add_mid, hsrc.cell, hcs j hj', ← hj, byts_at _ _ _ hj']) (by rw [hlen256]; omega) (byts_one _ _)
  rw [hlen256] at hcp
  have hD1 := hD.copied n hn f hf cur hr2
  have hsrc1 := hsrc.other (k := g2) (C' := (cur.toList.take (n * 256) ++ byts f 256 ++ cur.toList.drop (n * 256 + 256)).toArray) hb
  have hch1 : Chg g g2 ev w _ := Chg.of_setRow w (cur.toList.take (n * 256) ++ byts f 256 ++ cur.toList.drop (n * 256 + 256)).toArray
  generalize (cur.toList.take (n * 256) ++ byts f 256 ++ cur.toList.drop (n * 256 + 256)).toArray = C' at *
  have HF : Hid _ := hf
  have HN : Hid (n < D.s) := hn
  have HL : Hid (D.E.length ≤ 1000000) := hlen
  have HC : Hid _ := hch1
  have hbW : base ≤ (w.setRow g2 C').heap.size := by simpa [World.setRow] using hbase
  have HB : Hid _ := hbW
  have HD1 : Hid _ := hD1
  have HS1 : Hid _ := hsrc1
  have hm1 : D.s * 256 ≤ 524288 := by omega
  generalize D.s * 256 = m at *
  clear hf hn hlen hch1 hbW hD hD1 hsrc1 hr2 hsz hsrc hb hlen256 hmc hc63 h0 h1
  have hcs' : Hid _ := hcs
  clear hcs
  go_enter Try.func19, Try.ntmps19
  go_wp2_with fail
  refine H.mono ?_
  rintro e w' ⟨rfl, hw'⟩
  subst w'
  go_wp2_with fail
  refine HH.mono ?_
  rintro e w' ⟨rfl, hw'⟩
  subst w'
  go_wp2_with fail
  refine HS.mono ?_
  rintro e w' ⟨rfl, hw'⟩
  subst w'
  go_wp2_with fail
  clear hcp H HH HS hc
  have hD := HD1.out
  have hsrc := HS1.out
  have hbase := HB.out
  generalize w.setRow g2 C' = W at *
  obtain ⟨i0, hi, hz0, hz1, hz2⟩ := info_parts info65b
  have hR := hD.row
  have hevs := hD.evs
  have HD : Hid _ := hD
  clear hD HD1 HS1 HB
  obtain ⟨R, hRr⟩ : ∃ R, R = #[Value.slice (some ⟨g1, 0, none⟩) (D.s * 256) c1, .slice (some ⟨g2, 0, none⟩) (D.s * 256) c2, ev] := ⟨_, rfl⟩
  have hR2 : R[2]? = some ev := by rw [hRr]; rfl
  have hR' : Row W g R 64 := by rw [hRr]; exact hR
  have hbl := built_write n f
  have HBL : Hid _ := hbl
  have HO : Hid _ := one_event ⟨n, f⟩
  have haa : ∀ w : World, (Instr.arrayAt 83 (.slice (some ⟨b, off, none⟩) 256 cap)).run Try.prog w = .ok (.pointer (some ⟨b, off, none⟩)) w := fun w => run_arrayAt w 83 5 256 _ 256 cap Try.underlying83 (Nat.le_refl _)
  have hS : Row W.drew g R 64 ∧ Row W.drew b src tb := ⟨hR', hsrc⟩
  have hrange : ∀ wx : World, Row wx g R 64 ∧ Row wx b src tb → wx.rangeAt b off (byts f 256) := fun wx hx j v hj => by
    have hj' : j < 256 := by rw [← byts_len f 256]; exact (List.getElem?_eq_some_iff.1 hj).1
    rw [hx.2.cell, hcs'.out j hj', ← hj, byts_at _ _ _ hj']
  have HRG : Hid _ := hrange
  have i63 : (Try.prog.info? 83).map (·.size) = some (byts f 256).length := by rw [byts_len]; exact info63
  have hevA : evA ⟨n, f⟩ = (Ev.cells ⟨n, f⟩).toArray := rfl
  have hel := Ev.cells_len ⟨n, f⟩
  have heo := Ev.cells_one ⟨n, f⟩
  have HEO : Hid _ := heo
  generalize evA ⟨n, f⟩ = A at *
  generalize byts f 256 = L at *
  clear hRr hR hbl hrange heo
  refine wp_region_perm [(false, 0), (false, 1), (false, 2), (false, 3), (false, 4), (false, 5), (false, 6), (false, 7), (false, 8), (false, 9), (true, 10), (true, 11), (true, 12), (true, 13), (true, 14)] (fun wx => Row wx g R 64 ∧ Row wx b src tb) (by kernel_rfl) (by kernel_rfl) hS ?_
  refine p_move (some 27) _ rfl rfl rfl (by rfl) ?_
  simp only [Act.put, List.setIfInBounds_toArray, List.set_cons_zero, List.set_cons_succ]
  refine p_move (some 28) _ rfl rfl rfl (by rfl) ?_
  simp only [Act.put, List.setIfInBounds_toArray, List.set_cons_zero, List.set_cons_succ]
  refine p_value (some 29) ?_ rfl rfl (by rfl) (fun w hw => ?_) ?_
  rotate_left
  · go_simp
    with_reducible rfl
  simp only [Act.put, List.setIfInBounds_toArray, List.set_cons_zero, List.set_cons_succ]
  refine p_value (some 30) ?_ rfl rfl (by rfl) (fun w hw => ?_) ?_
  rotate_left
  · go_simp
    with_reducible rfl
  simp only [Act.put, List.setIfInBounds_toArray, List.set_cons_zero, List.set_cons_succ]
  refine p_value (some 31) ?_ rfl rfl (by rfl) (fun w hw => ?_) ?_
  rotate_left
  · have hc := (hw.1.cell 2).trans hR2
    go_simp
    with_reducible rfl
  simp only [Act.put, List.setIfInBounds_toArray, List.set_cons_zero, List.set_cons_succ]
  refine p_move (some 32) _ rfl rfl rfl (by rfl) ?_
  simp only [Act.put, List.setIfInBounds_toArray, List.set_cons_zero, List.set_cons_succ]
  refine p_move (some 33) _ rfl rfl rfl (by rfl) ?_
  simp only [Act.put, List.setIfInBounds_toArray, List.set_cons_zero, List.set_cons_succ]
  refine p_value (some 34) ?_ rfl rfl (by rfl) (fun w hw => ?_) ?_
  rotate_left
  · go_simp
    with_reducible rfl
  simp only [Act.put, List.setIfInBounds_toArray, List.set_cons_zero, List.set_cons_succ]
  refine p_load_mid (some 35) 83 _ rfl rfl rfl (by rfl) b off rfl L _ HRG.out Try.underlying83 rfl i63 ?_
  simp only [Act.put, List.setIfInBounds_toArray, List.set_cons_zero, List.set_cons_succ]
  refine p_build (some 36) 95 _ #[(0, .int .i64 n), (1, .agg L.toArray)] A rfl rfl rfl (by rfl) (by simp only [List.map_toArray, List.map_cons, List.map_nil]; rfl) HBL.out ?_
  simp only [Act.put, List.setIfInBounds_toArray, List.set_cons_zero, List.set_cons_succ]
  refine p_buildSlice (some 37) 62 1 _ #[(0, .agg A)] _ _ rfl rfl rfl (by rfl) (by simp only [List.map_toArray, List.map_cons, List.map_nil]; rfl) (HO.out _) (fun _ => ⟨hS.1.alloc _, hS.2.alloc _⟩) ?_
  simp only [Act.put, List.setIfInBounds_toArray, List.set_cons_zero, List.set_cons_succ]
  have hb1 : Below W.heap.size W (W.drew.alloc (.cells A 95)) := ((Below.refl _ _).drew).alloc (Nat.le_refl _) _
  have hev1 : (W.drew.alloc (.cells A 95)).ownsRow base 95 257 ev D.E.length (evCells D.E) := ownsRow_below hevs hb1
  have hnew : ∀ j u, (Ev.cells ⟨n, f⟩)[j]? = some u → (W.drew.alloc (.cells A 95)).cell? ((⟨W.drew.heap.size, 0, none⟩ : Addr).add j) = some u := fun j u hj => by
    rw [Addr.add_mid, Nat.zero_add, (Row.new W.drew A 95).cell j, hevA]
    simpa using hj
  refine p_wp rfl (by rfl) ?_
  refine wp_append_evs (.tmp 31) (.tmp 37) 62 rfl base 95 i0 (.agg (evA zeroEv)) 257 264 Try.underlying62 hi hz0 hz1 hz2 (evA_size _) (by decide) ev D.E.length (evCells D.E) rfl hev1 _ 1 1 (Ev.cells ⟨n, f⟩) rfl (by rw [hel]) hnew HEO.out (by have := HL.out; unfold maxLen; omega) (by have := HL.out; omega) (by simp; omega) ?_
  intro ev' w3 hown hgr hat
  have hfr : ∀ k, ev'.ownBlock = some k → ev.ownBlock = some k ∨ W.heap.size ≤ k := fun k hk => by
    rcases hat with h | h
    · exact .inl (h ▸ hk)
    · rw [h] at hk; simp at hk; exact .inr (by omega)
  have HFR : Hid _ := hfr
  clear hfr hat
  have hc3 : Chg W.heap.size W.heap.size ev W w3 := (Chg.of_below hb1).trans (Chg.of_grown hgr)
  have hc3' : Chg g g2 ev W w3 := (Chg.of_below hb1).trans (Chg.of_grown hgr)
  have hg0 : g < W.heap.size := hR'.lt
  have hb0 : b < W.heap.size := Row.lt hsrc
  have hgev : ev.ownBlock ≠ some g := fun hq => by
    obtain ⟨_, _, cur', hr⟩ := ownsRow_lt hevs g hq
    have := hr.symm.trans hR'
    simp at this
  have hbev : ev.ownBlock ≠ some b := fun hq => by
    obtain ⟨_, _, cur', hr⟩ := ownsRow_lt hevs b hq
    have := hr.symm.trans hsrc
    simp at this
    exact h95 this.2.symm
  have hR3 : Row w3 g R 64 := (hc3.block g hg0 (by omega) (by omega) hgev).trans hR'
  have hS3 : Row w3 b src tb := (hc3.block b hb0 (by omega) (by omega) hbev).trans hsrc
  refine ⟨fun _ => ⟨hR3, hS3⟩, ?_⟩
  show wpPerm _ _ _ _ _ (Act.put _ (some 38) ev') w3
  have hfin := HD.out.more ⟨n, f⟩ ⟨HF.out, .inr ⟨by simp, by have := HN.out; show (n : Int) < (D.s : Int); omega⟩⟩ hc3 hown
  have HFN : Hid _ := hfin
  obtain ⟨xv, cv, hev'⟩ : ∃ x c, ev' = .slice x (D.E.length + 1) c := by
    obtain ⟨_, ⟨_, h2⟩ | ⟨g', c', cur, h1, _⟩⟩ := hown
    · omega
    · exact ⟨_, _, h1⟩
  subst hev'
  have hcell := hR3.cell 2
  have hfz := hR3.frozen 2
  rw [hR2] at hcell
  clear hfin hown hgr hc3 hev1 hnew hb1 hevs hel
  simp only [Act.put, List.setIfInBounds_toArray, List.set_cons_zero, List.set_cons_succ]
  refine p_alone (some 39) (.pointer (some ⟨g, 0, none⟩)) w3 rfl rfl (by rfl) (by go_simp) (fun _ => ⟨hR3, hS3⟩) ?_
  simp only [Act.put, List.setIfInBounds_toArray, List.set_cons_zero, List.set_cons_succ]
  refine p_alone (some 40) (.pointer (some ⟨g, 2, none⟩)) w3 rfl rfl (by rfl) (by go_simp) (fun _ => ⟨hR3, hS3⟩) ?_
  simp only [Act.put, List.setIfInBounds_toArray, List.set_cons_zero, List.set_cons_succ]
  refine p_store (w3.setCell ⟨g, 2, none⟩ (.slice xv (D.E.length + 1) cv)) rfl rfl (by rfl) (by go_simp) (fun h => absurd rfl h) ?_
  refine p_done ?_
  simp only [Exit.then]
  go_wp2
  go_ret
  exact ⟨rfl, _, HFN.out, HC.out.trans (hc3'.trans (Chg.of_setCell _ _ _)), fun k hk => by
    rcases HFR.out k hk with h | h
    · exact .inl h
    · exact .inr (Nat.le_trans HC.out.size h)⟩

end Go.Proofs.Ytlbapnecmhlgmaa
namespace Go.Proofs.Ytlbapnecmhlgmaa
open Go.RowKit

set_option maxRecDepth 20000 in
set_option maxHeartbeats 4000000 in
theorem do_to {w : World} {base g1 c1 g2 c2 gd : Nat} {ev : Value} {D : Dk} {jb gj gm kb : Nat} {J : Jn} {v : Value} {K : List Nat} (hD : DiskAt w base gd g1 c1 g2 c2 ev D) (hbase : base ≤ w.heap.size) (hlen : D.E.length ≤ 500000) (hJ : JAt w jb gj gm gd J) (hok : J.at' + J.sec ≤ D.s)
    (hK : NumsAt w kb v K) (hKl : K.length + 1 ≤ J.sec) (hs : J.sec ≤ 31) (hKs : ∀ i, i < K.length → K.getD i 0 < D.s) :
    Calls Try.prog 32 #[.pointer (some ⟨gj, 0, none⟩), v] w fun e w' => (∃ r, e = .returned r) ∧ ∃ ev', To w w' base gd g1 c1 g2 c2 ev ev' (doD D J.at' K) ∧ Fr g2 w w' ∧ Below base w w' := by
  obtain ⟨a, c, rfl, hKI⟩ := hK.ex
  have hmk := fun w => run_make_row' (P := Try.prog) 40 5 (.int .u8 0) 1 Try.underlying40 Try.info5 rfl .i64 .i64 256 (by omega) (by omega) w
  simp only [show ((256 : Nat) : Int) = 256 from rfl] at hmk
  have hZb := made_byts 256
  generalize madeCells #[.int .u8 0] 256 = Z at *
  have HZb : Hid _ := hZb
  have hD2 := hD.ok.hi
  have HD : Hid _ := hD
  have HJ : Hid _ := hJ
  have HKI : Hid _ := hKI
  have HKs : Hid _ := hKs
  clear hD hJ hKI hK hZb hKs
  go_enter Try.func32, Try.ntmps32
  go_wp2
  go_loopw [10] (fun iv wx => ∃ (i : Nat) (evi : Value), i ≤ K.length ∧ iv = .int .i64 i ∧ Hid (To w wx base gd g1 c1 g2 c2 ev evi (doN D J.at' K i)) ∧ Hid (Fr g2 w wx) ∧ Hid (Below base w wx)) (fun iv _ => K.length - (intOf iv).toNat)
  case atStart => exact ⟨0, ev, Nat.zero_le _, rfl, To.refl HD.out, Fr.refl _ _, Below.refl _ _⟩
  case round =>
    obtain ⟨i, evi, hi, rfl, hDi, hFi, hBi⟩ := hrel
    clear HD
    have hsz := Nat.le_trans hbase hBi.out.size
    by_cases hlt : i < K.length
    · obtain ⟨b, rfl, _, hI⟩ := HKI.out (by omega)
      have ci := (hI.fr hFi.out).cell i hlt
      obtain ⟨kn, hkn⟩ : ∃ kn, K.getD i 0 = kn := ⟨_, rfl⟩
      have hkb := HKs.out i hlt
      rw [hkn] at ci hkb
      have HKN : Hid _ := hkn
      have hJd : Hid (JAt wr.drew jb gj gm gd J) := (HJ.out.fr hFi.out).below (Below.refl _ _).drew
      have hDd : DiskAt wr.drew base gd g1 c1 g2 c2 evi (doN D J.at' K i) := hDi.out.disk.below (Below.refl _ _).drew (Nat.le_refl _)
      have HDT : Hid _ := data_any hJd.out (by omega) i (by omega)
      have hRD := read_ok hDd (J.at' + 1 + i) (by rw [doN_s]; omega)
      rw [show ((J.at' + 1 + i : Nat) : Int) = (J.at' : Int) + 1 + i by omega] at hRD
      have HRD : Hid _ := hRD
      have hDa := hDd.below ((Below.refl wr.drew.heap.size wr.drew).alloc (Nat.le_refl _) (.cells (byts (fun j => (doN D J.at' K i).B ((J.at' + 1 + i) * 256 + j)) 256).toArray 5)) (Nat.le_refl _)
      have hsB := hDd.ok.B
      have HWr := write_to hDa (by simp; omega) (by rw [doN_len]; omega) kn (by rw [doN_s]; exact hkb) wr.drew.heap.size 0 256 (secF (doN D J.at' K i).B (J.at' + 1 + i)) _ 5 (by decide) (Row.new wr.drew _ 5) (by have := hDd.lt2; omega) (fun j hj => by rw [Nat.zero_add]; show _ = some (Value.int .u8 ((doN D J.at' K i).B ((J.at' + 1 + i) * 256 + j))); simpa using byts_at (fun j => (doN D J.at' K i).B ((J.at' + 1 + i) * 256 + j)) 256 j hj) (fun j => hsB _)
      have HHW : Hid _ := HWr
      have HDA : Hid _ := hDa
      have c0 : ∀ C, (wr.drew.alloc (.cells C 5)).cell? ⟨gj, 0, none⟩ = some (.pointer (some ⟨gd, 0, none⟩)) := fun C => ((hJd.out.row.alloc (.cells C 5)).cell 0).trans rfl
      clear HWr hRD hDd hDa hsB hkn hkb hI
      go_wp2_with fail
      refine wp_region_mix [false, false, false, false, false, false, true, true, false, false, false, false, false] (fun wx => Row wx gj #[.pointer (some ⟨gd, 0, none⟩), .int .i64 J.at', .int .i64 J.sec, .map (some gm)] 56) (by kernel_rfl) (by kernel_rfl) hJd.out.row ?_
      refine m_move _ rfl (by rfl) ?_
      simp only [Act.put, List.setIfInBounds_toArray, List.set_cons_zero, List.set_cons_succ]
      refine m_value ?_ (by rfl) (fun w hw => ?_) ?_
      rotate_left
      · go_simp
        with_reducible rfl
      simp only [Act.put, List.setIfInBounds_toArray, List.set_cons_zero, List.set_cons_succ]
      refine m_value ?_ (by rfl) (fun w hw => ?_) ?_
      rotate_left
      · go_simp
        with_reducible rfl
      simp only [Act.put, List.setIfInBounds_toArray, List.set_cons_zero, List.set_cons_succ]
      refine m_value ?_ (by rfl) (fun w hw => ?_) ?_
      rotate_left
      · have hc := (hw.cell 0).trans (rfl : _ = some (Value.pointer (some ⟨gd, 0, none⟩)))
        go_simp
        with_reducible rfl
      simp only [Act.put, List.setIfInBounds_toArray, List.set_cons_zero, List.set_cons_succ]
      refine m_move _ rfl (by rfl) ?_
      simp only [Act.put, List.setIfInBounds_toArray, List.set_cons_zero, List.set_cons_succ]
      refine m_move _ rfl (by rfl) ?_
      simp only [Act.put, List.setIfInBounds_toArray, List.set_cons_zero, List.set_cons_succ]
      refine m_call (by rfl) 40 #[.pointer (some ⟨gj, 0, none⟩), .int .i64 i] (by go_simp) (Calls.mono HDT.out fun e w' ⟨he, hw'⟩ => ⟨_, he, by rw [hw']; exact hJd.out.row, ?_⟩)
      subst hw'
      simp only [Act.put, List.setIfInBounds_toArray, List.set_cons_zero, List.set_cons_succ]
      refine m_call (by rfl) 28 #[.pointer (some ⟨gd, 0, none⟩), .int .i64 (J.at' + 1 + i)] (by go_simp) (Calls.mono HRD.out fun e w' ⟨he, hw'⟩ => ⟨_, he, by rw [hw']; exact hJd.out.row.alloc _, ?_⟩)
      subst hw'
      simp only [Act.put, List.setIfInBounds_toArray, List.set_cons_zero, List.set_cons_succ]
      refine m_move _ rfl (by rfl) ?_
      simp only [Act.put, List.setIfInBounds_toArray, List.set_cons_zero, List.set_cons_succ]
      refine m_value ?_ (by rfl) (fun w hw => ?_) ?_
      rotate_left
      · go_simp
        with_reducible rfl
      simp only [Act.put, List.setIfInBounds_toArray, List.set_cons_zero, List.set_cons_succ]
      refine m_value ?_ (by rfl) (fun w hw => ?_) ?_
      rotate_left
      · go_simp
        with_reducible rfl
      simp only [Act.put, List.setIfInBounds_toArray, List.set_cons_zero, List.set_cons_succ]
      refine m_assign _ rfl (by rfl) ?_
      simp only [Act.put, List.setIfInBounds_toArray, List.set_cons_zero, List.set_cons_succ]
      refine m_assign _ rfl (by rfl) ?_
      simp only [Act.put, List.setIfInBounds_toArray, List.set_cons_zero, List.set_cons_succ]
      refine m_done ?_
      try simp only [Exit.then]
      generalize (byts (fun j => (doN D J.at' K i).B ((J.at' + 1 + i) * 256 + j)) 256).toArray = Ca at *
      have c0a := c0 Ca
      have hbA : Below wr.heap.size wr (wr.drew.alloc (.cells Ca 5)) := ((Below.refl _ _).drew).alloc (Nat.le_refl _) _
      clear c0
      have hszA : wr.heap.size ≤ (wr.drew.alloc (.cells Ca 5)).heap.size := hbA.size
      generalize wr.drew.alloc (.cells Ca 5) = wA at *
      go_wp2_with fail
      refine Calls.mono HHW.out ?_
      rintro e w3 ⟨rfl, ev3, hT3⟩
      have hc3 := hT3.chg
      have hD3' : Hid (To w w3 base gd g1 c1 g2 c2 ev ev3 (doN D J.at' K (i + 1))) := by
        show To w w3 base gd g1 c1 g2 c2 ev ev3 ((doN D J.at' K i).write (K.getD i 0) (secF (doN D J.at' K i).B (J.at' + 1 + i)))
        rw [show K.getD i 0 = kn from HKN.out]
        exact hDi.out.trans (To.after hbA hT3)
      have hF3 : Hid (Fr g2 w w3) := hFi.out.trans ((Fr.of_below hbA).trans (Fr.of_chg HDA.out hc3))
      have hB3 : Hid (Below base w w3) := hBi.out.trans ((hbA.mono hsz).trans (HDA.out.chg hc3 (by omega)))
      clear hT3 hc3 hbA HHW HDA c0a HRD HDT hJd
      go_wp2
      go_roundw
      case rel => exact ⟨i + 1, ev3, by omega, by go_num, hD3', hF3, hB3⟩
      case measure => simp [intOf]; omega
    · have hiK : i = K.length := by omega
      subst hiK
      have hJr := HJ.out.fr hFi.out
      have c0 := (hJr.row.cell 0).trans (rfl : _ = some (Value.pointer (some ⟨gd, 0, none⟩)))
      have HFl := flush_to hDi.out.disk hsz (by rw [doN_len]; omega)
      have HHF : Hid _ := HFl
      have HJr : Hid _ := hJr
      clear HFl hJr
      go_wp2_with fail
      refine Calls.mono HHF.out ?_
      rintro e w4 ⟨rfl, ev4, hT4⟩
      have hD4 := hT4.disk
      have hc4 := hT4.chg
      have HT4 : Hid _ := hDi.out.trans hT4
      have hF4 : Fr g2 w w4 := hFi.out.trans (Fr.of_chg hDi.out.disk hc4)
      have hB4 : Below base w w4 := hBi.out.trans (hDi.out.disk.chg hc4 hsz)
      have hJ4 : Hid (JAt w4.drew jb gj gm gd J) := (HJ.out.fr hF4).below (Below.refl _ _).drew
      have hs4 := Nat.le_trans hbase hB4.size
      have hbZ : Below w4.heap.size w4 (w4.drew.alloc (.cells Z 5)) := ((Below.refl _ _).drew).alloc (Nat.le_refl _) _
      have hD4' := hD4.below hbZ (Nat.le_refl _)
      have HD4' : Hid _ := hD4'
      have hW2 := write_to hD4' (by simp; omega) (by show ((doN D J.at' K K.length).E ++ [_]).length ≤ _; rw [List.length_append, doN_len]; simp; omega) J.at' (by show J.at' < (doN D J.at' K K.length).s; rw [doN_s]; omega) w4.drew.heap.size 0 256 (fun _ => 0) Z 5 (by decide) (Row.new w4.drew Z 5) (by have := hD4.lt2; show w4.heap.size ≠ g2; omega) (fun j hj => by rw [Nat.zero_add, ← Array.getElem?_toList, show Z.toList = _ from HZb.out, byts_at _ _ _ hj]) (fun _ => by decide)
      have HW2 : Hid _ := hW2
      have HF4 : Hid _ := hF4
      have HB4 : Hid _ := hB4
      have HbZ : Hid _ := hbZ
      clear hT4 hD4 hc4 hD4' hW2 hF4 hB4 hbZ HHF c0
      go_wp2_with fail
      refine wp_region_mix [false, false, false, false, false, false, false, false, true, true] (fun wx => Row wx gj #[.pointer (some ⟨gd, 0, none⟩), .int .i64 J.at', .int .i64 J.sec, .map (some gm)] 56) (by kernel_rfl) (by kernel_rfl) hJ4.out.row ?_
      refine m_move _ rfl (by rfl) ?_
      simp only [Act.put, List.setIfInBounds_toArray, List.set_cons_zero, List.set_cons_succ]
      refine m_value ?_ (by rfl) (fun w hw => ?_) ?_
      rotate_left
      · go_simp
        with_reducible rfl
      simp only [Act.put, List.setIfInBounds_toArray, List.set_cons_zero, List.set_cons_succ]
      refine m_value ?_ (by rfl) (fun w hw => ?_) ?_
      rotate_left
      · go_simp
        with_reducible rfl
      simp only [Act.put, List.setIfInBounds_toArray, List.set_cons_zero, List.set_cons_succ]
      refine m_value ?_ (by rfl) (fun w hw => ?_) ?_
      rotate_left
      · have hc := (hw.cell 0).trans (rfl : _ = some (Value.pointer (some ⟨gd, 0, none⟩)))
        go_simp
        with_reducible rfl
      simp only [Act.put, List.setIfInBounds_toArray, List.set_cons_zero, List.set_cons_succ]
      refine m_move _ rfl (by rfl) ?_
      simp only [Act.put, List.setIfInBounds_toArray, List.set_cons_zero, List.set_cons_succ]
      refine m_value ?_ (by rfl) (fun w hw => ?_) ?_
      rotate_left
      · go_simp
        with_reducible rfl
      simp only [Act.put, List.setIfInBounds_toArray, List.set_cons_zero, List.set_cons_succ]
      refine m_value ?_ (by rfl) (fun w hw => ?_) ?_
      rotate_left
      · go_simp
        with_reducible rfl
      simp only [Act.put, List.setIfInBounds_toArray, List.set_cons_zero, List.set_cons_succ]
      refine m_value ?_ (by rfl) (fun w hw => ?_) ?_
      rotate_left
      · have hc := (hw.cell 1).trans (rfl : _ = some (Value.int .i64 (J.at' : Int)))
        go_simp
        with_reducible rfl
      simp only [Act.put, List.setIfInBounds_toArray, List.set_cons_zero, List.set_cons_succ]
      refine m_alone (.slice (some ⟨w4.drew.heap.size, 0, none⟩) 256 256) (w4.drew.alloc (.cells Z 5)) (by rfl) (by have hq := hmk w4.drew; go_simp) (hJ4.out.row.alloc _) ?_
      simp only [Act.put, List.setIfInBounds_toArray, List.set_cons_zero, List.set_cons_succ]
      refine m_call (by rfl) 19 #[.pointer (some ⟨gd, 0, none⟩), .int .i64 J.at', .slice (some ⟨w4.drew.heap.size, 0, none⟩) 256 256] (by go_simp) (Calls.mono HW2.out fun e w5 ⟨he, ev5, hT5⟩ => ⟨_, he, (hJ4.out.row.alloc (.cells Z 5)).chg HD4'.out hT5.chg (by decide) (by decide) (fun e => absurd e (by decide)), ?_⟩)
      have hD5 := hT5.disk
      have hc5 := hT5.chg
      have HT5 : Hid _ := HT4.out.trans (To.after HbZ.out hT5)
      have hF5 : Hid (Fr g2 w w5) := HF4.out.trans ((Fr.of_below HbZ.out).trans (Fr.of_chg HD4'.out hc5))
      have hB5 : Hid (Below base w w5) := HB4.out.trans ((HbZ.out.mono hs4).trans (HD4'.out.chg hc5 (by simp; omega)))
      have hJ5 := HJ.out.fr hF5.out
      have c0 := (hJ5.row.cell 0).trans (rfl : _ = some (Value.pointer (some ⟨gd, 0, none⟩)))
      have hs5 := Nat.le_trans hbase hB5.out.size
      have HFl2 := flush_to hD5 hs5 (by show ((doN D J.at' K K.length).E ++ [_] ++ [_]).length ≤ _; rw [List.length_append, List.length_append, doN_len]; simp; omega)
      have HHF2 : Hid _ := HFl2
      have HD5 : Hid _ := hD5
      clear HFl2 hT5 hD5 hc5 hJ5 HW2 HD4' HbZ HF4 HB4
      subst he
      simp only [Act.put, List.setIfInBounds_toArray, List.set_cons_zero, List.set_cons_succ]
      refine m_done ?_
      try simp only [Exit.then]
      go_wp2_with fail
      refine Calls.mono HHF2.out ?_
      rintro e w6 ⟨rfl, ev6, hT6⟩
      have hc6 := hT6.chg
      have hF6 : Fr g2 w w6 := hF5.out.trans (Fr.of_chg HD5.out hc6)
      have hB6 : Below base w w6 := hB5.out.trans (HD5.out.chg hc6 hs5)
      have HT6 : Hid _ := HT5.out.trans hT6
      clear hT6 hc6 HHF2
      go_wp2
      go_end0
      exact ⟨⟨_, rfl⟩, ev6, HT6.out, hF6, hB6⟩

set_option maxRecDepth 20000 in
set_option maxHeartbeats 2000000 in
theorem open_do {w : World} {base g1 c1 g2 c2 gd : Nat} {ev : Value} {D : Dk} (hD : DiskAt w base gd g1 c1 g2 c2 ev D) (hbase : base ≤ w.heap.size) (hlen : D.E.length ≤ 400000) (at' sec : Nat) (h2 : 2 ≤ sec) (h31 : sec ≤ 31) (hfit : at' + sec ≤ D.s)
    (hm : ((s8 (secF D.B at')).toList == [115, 116, 105, 108, 108, 119, 97, 108]) = true) (cnt : Nat) (hcnt : word (secF D.B at') 1 = cnt) (hlo : 1 ≤ cnt) (hhi : cnt + 1 ≤ sec) (hall : ∀ i, i < cnt → okW (secF D.B at') D.s at' sec i) :
    Calls Try.prog 10 #[.pointer (some ⟨gd, 0, none⟩), .int .i64 at', .int .i64 sec] w fun e w' => ∃ gj ev', e = .returned (.tuple #[.pointer (some ⟨gj, 0, none⟩), .int .i64 0]) ∧ To w w' base gd g1 c1 g2 c2 ev ev' (doD D at' (wordsL (secF D.B at') cnt)) ∧ Fr g2 w w' ∧ Below base w w' := by
  have hlo' := hD.ok.lo
  have hhi' := hD.ok.hi
  have H1 := sectors_yes gd g2 D.s c2 w hD.cell1 hlo' hhi'
  have hbM : Below w.heap.size w (w.alloc (.map #[] 0)) := (Below.refl _ _).alloc (Nat.le_refl _) _
  have hbJ : Below w.heap.size w ((w.alloc (.map #[] 0)).alloc (.cells #[.pointer (some ⟨gd, 0, none⟩), .int .i64 at', .int .i64 sec, .map (some w.heap.size)] 56)) := hbM.alloc hbM.size _
  have hJ : JAt ((w.alloc (.map #[] 0)).alloc (.cells #[.pointer (some ⟨gd, 0, none⟩), .int .i64 at', .int .i64 sec, .map (some w.heap.size)] 56)) w.heap.size (w.heap.size + 1) w.heap.size gd ⟨at', sec, []⟩ := by
    refine ⟨?_, (MapAt.made w).below ((Below.refl _ _).alloc (Nat.le_refl _) _), by omega, Nat.le_refl _⟩
    have h := Row.new (w.alloc (.map #[] 0)) #[.pointer (some ⟨gd, 0, none⟩), .int .i64 at', .int .i64 sec, .map (some w.heap.size)] 56
    rw [World.size_alloc] at h
    exact h
  have hDJ := hD.below hbJ (Nat.le_refl _)
  have HR := read_ok hDJ at' (by omega)
  have HDJ : Hid _ := hDJ
  have HHR : Hid _ := HR
  have HJ : Hid _ := hJ
  have HB : Hid _ := hbJ
  have hBb := hD.ok.B
  have HBb : Hid _ := hBb
  have hmm : ∀ w : World, (Instr.makeMap 54 none).run Try.prog w = .ok (.map (some w.heap.size)) (w.alloc (.map #[] 0)) := fun _ => rfl
  have h1 : ¬ (D.s : Int) = 0 := by omega
  have h3 : ¬ (sec : Int) < 2 := by omega
  have h4 : ¬ (31 : Int) < sec := by omega
  have h5 : ¬ ((D.s : Int) - sec < at') := by omega
  have HM : Hid _ := hm
  have HCN : Hid _ := hcnt
  have HALL : Hid _ := hall
  have HFIT : Hid _ := hfit
  clear hD hDJ HR hJ hbJ hbM hBb hm hcnt hall
  go_enter Try.func10, Try.ntmps10
  go_wp2_with fail
  refine H1.mono ?_
  rintro e w' ⟨rfl, hw'⟩
  subst w'
  go_wp2_with fail
  refine H1.mono ?_
  rintro e w' ⟨rfl, hw'⟩
  subst w'
  clear H1
  go_wp2_with fail
  refine Calls.mono HHR.out ?_
  rintro e w' ⟨rfl, hw'⟩
  subst w'
  generalize (w.alloc (.map #[] 0)).alloc (.cells #[.pointer (some ⟨gd, 0, none⟩), .int .i64 at', .int .i64 sec, .map (some w.heap.size)] 56) = wJ at *
  have hbC : Below wJ.heap.size wJ (wJ.alloc (.cells (byts (fun i => D.B (at' * 256 + i)) 256).toArray 5)) := (Below.refl _ _).alloc (Nat.le_refl _) _
  have hDC := HDJ.out.below hbC (Nat.le_refl _)
  have hJC := HJ.out.below hbC
  have hLk := look_go hDC hJC HFIT.out h31 wJ.heap.size 256 (secF D.B at') (Nat.le_refl _) (by decide) _ (Row.new wJ _ 5) (fun i hi => by
    show _ = some (Value.int .u8 (D.B (at' * 256 + i)))
    simpa using byts_at (fun i => D.B (at' * 256 + i)) 256 i hi) (fun i => HBb.out _) HM.out cnt HCN.out hlo hhi
  have HLk : Hid _ := hLk
  have hB2 : Below w.heap.size w (wJ.alloc (.cells (byts (fun i => D.B (at' * 256 + i)) 256).toArray 5)) := HB.out.trans (hbC.mono HB.out.size)
  have HB2 : Hid _ := hB2
  have HDC : Hid _ := hDC
  have HJC : Hid _ := hJC
  generalize (byts (fun i => D.B (at' * 256 + i)) 256).toArray = C at *
  clear hbC hDC hJC hLk hB2 HHR HDJ HJ HB
  go_wp2_with fail
  generalize wJ.alloc (.cells C 5) = wC at *
  refine Calls.mono HLk.out ?_
  rintro e w3 ⟨k, v, rfl, hk, _, hkn, hN3, hb3⟩
  have hkc : k = cnt := by
    rcases Nat.lt_or_ge k cnt with h | h
    · exact absurd (HALL.out k h) (hkn h)
    · omega
  subst hkc
  have hD3 := HDC.out.below hb3 (Nat.le_refl _)
  have hJ3 := HJC.out.below hb3
  have hB3 : Below w.heap.size w w3 := HB2.out.trans (hb3.mono HB2.out.size)
  have hs3 : base ≤ w3.heap.size := Nat.le_trans hbase hB3.size
  have hDo := do_to hD3 hs3 (by omega) hJ3 HFIT.out hN3 (by rw [wordsL_len]; exact hhi) h31 (fun i hi => by
    rw [wordsL_len] at hi
    rw [wordsL_at _ _ _ hi]
    have := (HALL.out i hi).1
    have := (word_bd (secF D.B at') (fun j => HBb.out _) (2 + i)).1
    omega)
  have HDo : Hid _ := hDo
  have HB3 : Hid _ := hB3
  clear hDo hD3 hJ3 hB3 hN3 hb3 HLk HDC HJC HB2 hkn
  go_wp2_with fail
  refine Calls.mono HDo.out ?_
  rintro e w4 ⟨⟨r, rfl⟩, ev4, hT4, hF4, hB4⟩
  have HT : Hid _ := To.after HB3.out hT4
  have HF : Hid (Fr g2 w w4) := (Fr.of_below HB3.out).trans hF4
  have HBB : Hid (Below base w w4) := (HB3.out.mono hbase).trans hB4
  clear hT4 hF4 hB4 HDo HB3
  go_wp2
  go_ret2
  exact ⟨_, ev4, rfl, HT.out, HF.out, HBB.out⟩
end Go.Proofs.Ytlbapnecmhlgmaa
