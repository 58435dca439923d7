/- Write and Flush once more: the events' row stays where it was, or lies in a new block. -/
import Derived.Test.YtlbapnecmhlgmaaDo
namespace Go.Proofs.Ytlbapnecmhlgmaa
open Go.RowKit

/-- A disk that goes on: what it is then, what has changed, and where its events lie. -/
structure To (w w' : World) (base g g1 c1 g2 c2 : Nat) (ev ev' : Value) (D' : Dk) : Prop where
  disk : DiskAt w' base g g1 c1 g2 c2 ev' D'
  chg : Chg g g2 ev w w'
  fresh : ∀ k, ev'.ownBlock = some k → ev.ownBlock = some k ∨ w.heap.size ≤ k
section
variable {w w1 w2 : World} {base g g1 c1 g2 c2 : Nat} {ev ev1 ev2 : Value} {D1 D2 : Dk}
theorem To.trans (h : To w w1 base g g1 c1 g2 c2 ev ev1 D1) (k : To w1 w2 base g g1 c1 g2 c2 ev1 ev2 D2) : To w w2 base g g1 c1 g2 c2 ev ev2 D2 :=
  ⟨k.disk, ⟨k.chg.os.trans h.chg.os, k.chg.tape.trans h.chg.tape, k.chg.output.trans h.chg.output, Nat.le_trans h.chg.size k.chg.size, fun q hq h1 h2 h3 =>
    (k.chg.block q (Nat.lt_of_lt_of_le hq h.chg.size) h1 h2 (fun e => by
      rcases h.fresh q e with h4 | h4
      · exact h3 h4
      · omega)).trans (h.chg.block q hq h1 h2 h3)⟩, fun q e => by
    rcases k.fresh q e with h4 | h4
    · exact h.fresh q h4
    · have := h.chg.size
      exact .inr (by omega)⟩
theorem To.after (hb : Below w.heap.size w w1) (k : To w1 w2 base g g1 c1 g2 c2 ev ev2 D2) : To w w2 base g g1 c1 g2 c2 ev ev2 D2 :=
  ⟨k.disk, (Chg.of_below hb).trans k.chg, fun q e => by
    rcases k.fresh q e with h4 | h4
    · exact .inl h4
    · have := hb.size
      exact .inr (by omega)⟩
theorem To.refl (h : DiskAt w base g g1 c1 g2 c2 ev D1) : To w w base g g1 c1 g2 c2 ev ev D1 := ⟨h, Chg.refl _ _ _ _, fun _ e => .inl e⟩
end
theorem wp_append_evs {P : Program} {w : World} {o : Oper} {a : Act} {K : Act → World → Prop} {Q : Exit → Act → World → Prop} (s x : Operand) (t : TypeId)
    (ho : o.op = .call { callee := .builtin .append, args := #[s, x], argTypes := #[t, t] })
    (base : Nat) (e : TypeId) (i : TypeInfo) (z : Value) (size bytes : Nat) (ht : P.underlying t = some (.slice e)) (hi : P.info? e = some i) (hz : i.zero = some z)
    (hsize : i.size = size) (hby : i.bytes = bytes) (hzs : z.cells.size = size) (hsz : 0 < size)
    (v : Value) (n : Nat) (xs : List Value) (hs : a.eval s = v) (hown : w.ownsRow base e size v n xs)
    (ad : Addr) (m c : Nat) (news : List Value) (hx : a.eval x = .slice (some ad) m c) (hl : news.length = m * size) (hnews : ∀ j u, news[j]? = some u → w.cell? (ad.add j) = some u) (h1 : ∀ u ∈ news, u.oneCell' = true)
    (h63 : n + m ≤ maxLen) (hbytes : (n + m) * bytes ≤ 140737488355328) (hbase : base ≤ w.heap.size)
    (h : ∀ v' w', w'.ownsRow base e size v' (n + m) (xs ++ news) → w.grownBy w' v.ownBlock → (v'.ownBlock = v.ownBlock ∨ v'.ownBlock = some w.heap.size) → K (a.put o.dst v') w') : o.wp P a w K Q := by
  obtain ⟨v', w', hr, h2, h3, _, h5⟩ := run_append_own_at (P := P) w base t o.type e i z size bytes ht hi hz hsize hby hzs hsz v n xs hown ad m c news hl hnews h1 h63 hbytes hbase
  unfold Oper.wp execOp
  simp only [ho, resolve, invoke, builtin, Sem.run_bind, Sem.run_pure, Result.andThen_ok, List.map_toArray, List.map_cons, List.map_nil, hs, hx, hr]
  exact h v' w' h2 h3 h5

set_option maxRecDepth 20000 in
set_option maxHeartbeats 2000000 in
theorem flush_to {w : World} {base g g1 c1 g2 c2 : Nat} {ev : Value} {D : Dk} (hD : DiskAt w base g g1 c1 g2 c2 ev D) (hbase : base ≤ w.heap.size) (hlen : D.E.length ≤ 1000000) :
    Calls Try.prog 41 #[.pointer (some ⟨g, 0, none⟩)] w fun e w' => e = .returned (.int .i64 0) ∧ ∃ ev', To w w' base g g1 c1 g2 c2 ev ev' D.flush := by
  have H := made_yes g g2 (D.s * 256) c2 w hD.cell1 (by have := hD.ok.lo; omega)
  obtain ⟨i0, hi, hz0, hz1, hz2⟩ := info_parts info65b
  have hR := hD.row
  have hevs := hD.evs
  have HD : Hid _ := hD
  clear hD
  have hevA : evA flushEv = flushEv.cells.toArray := rfl
  obtain ⟨n, hn⟩ : ∃ n, n = D.E.length := ⟨_, rfl⟩
  rw [← hn] at hlen
  have HN : Hid _ := hn
  clear hn
  obtain ⟨R, hRr⟩ : ∃ R, R = #[Value.slice (some ⟨g1, 0, none⟩) (D.s * 256) c1, .slice (some ⟨g2, 0, none⟩) (D.s * 256) c2, ev] := ⟨_, rfl⟩
  have hR2 : R[2]? = some ev := by rw [hRr]; rfl
  rw [← hRr] at hR
  have hone : ∀ w, (Instr.buildSlice 62 1 #[(0, .agg (evA flushEv))]).run Try.prog w = .ok (.slice (some ⟨w.heap.size, 0, none⟩) 1 1) (w.alloc (.cells (evA flushEv) 95)) := one_event flushEv
  have HO : Hid _ := hone
  clear hone hevA hRr
  go_enter Try.func41, Try.ntmps41
  go_wp2_with fail
  refine H.mono ?_
  rintro e w' ⟨rfl, hw'⟩
  subst w'
  clear H
  go_wp2_with fail
  refine wp_region_perm [(false, 0), (false, 1), (false, 2), (false, 3), (false, 4), (true, 5), (true, 6), (true, 7), (true, 8), (true, 9), (true, 10)] (fun wx => Row wx g R 64) (by kernel_rfl) (by kernel_rfl) hR ?_
  refine p_move (some 6) _ rfl rfl rfl (by rfl) ?_
  simp only [Act.put, List.setIfInBounds_toArray, List.set_cons_zero, List.set_cons_succ]
  refine p_move (some 7) _ rfl rfl rfl (by rfl) ?_
  simp only [Act.put, List.setIfInBounds_toArray, List.set_cons_zero, List.set_cons_succ]
  refine p_value (some 8) ?_ rfl rfl (by rfl) (fun w hw => ?_) ?_
  rotate_left
  · go_simp
    with_reducible rfl
  simp only [Act.put, List.setIfInBounds_toArray, List.set_cons_zero, List.set_cons_succ]
  refine p_value (some 9) ?_ rfl rfl (by rfl) (fun w hw => ?_) ?_
  rotate_left
  · go_simp
    with_reducible rfl
  simp only [Act.put, List.setIfInBounds_toArray, List.set_cons_zero, List.set_cons_succ]
  refine p_value (some 10) ?_ rfl rfl (by rfl) (fun w hw => ?_) ?_
  rotate_left
  · have hc := (hw.cell 2).trans hR2
    go_simp
    with_reducible rfl
  simp only [Act.put, List.setIfInBounds_toArray, List.set_cons_zero, List.set_cons_succ]
  refine p_call (some 11) rfl rfl (by rfl) 58 #[] (by go_simp) ((flush_any _).mono fun e w' ⟨he, hw'⟩ => ⟨_, he, fun _ => by rw [hw']; exact hR.alloc _, ?_⟩)
  subst hw'
  simp only [Act.put, List.setIfInBounds_toArray, List.set_cons_zero, List.set_cons_succ]
  refine p_buildSlice (some 12) 62 1 _ #[(0, .agg (evA flushEv))] _ _ rfl rfl rfl (by rfl) (by simp only [List.map_toArray, List.map_cons, List.map_nil]; rfl) (HO.out _) (fun _ => (hR.alloc _).alloc _) ?_
  simp only [Act.put, List.setIfInBounds_toArray, List.set_cons_zero, List.set_cons_succ]
  have hb1 : Below w.heap.size w ((w.drew.alloc (.cells (evA flushEv) 95)).alloc (.cells (evA flushEv) 95)) := (((Below.refl _ _).drew).alloc (Nat.le_refl _) _).alloc (by simp) _
  have hev1 : ((w.drew.alloc (.cells (evA flushEv) 95)).alloc (.cells (evA flushEv) 95)).ownsRow base 95 257 ev D.E.length (evCells D.E) := ownsRow_below hevs hb1
  have hR1 : Row ((w.drew.alloc (.cells (evA flushEv) 95)).alloc (.cells (evA flushEv) 95)) g R 64 := (hR.alloc _).alloc _
  have hnew : ∀ j u, flushEv.cells[j]? = some u → ((w.drew.alloc (.cells (evA flushEv) 95)).alloc (.cells (evA flushEv) 95)).cell? ((⟨(w.drew.alloc (.cells (evA flushEv) 95)).heap.size, 0, none⟩ : Addr).add j) = some u := fun j u hj => by
    rw [Addr.add_mid, Nat.zero_add, (Row.new (w.drew.alloc (.cells (evA flushEv) 95)) (evA flushEv) 95).cell j]
    simpa [evA] using hj
  refine p_wp rfl (by rfl) ?_
  refine wp_append_evs (.tmp 10) (.tmp 12) 62 rfl base 95 i0 (.agg (evA zeroEv)) 257 264 Try.underlying62 hi hz0 hz1 hz2 (evA_size _) (by decide) ev D.E.length (evCells D.E) rfl hev1 _ 1 1 flushEv.cells rfl (by rw [Ev.cells_len]) hnew (Ev.cells_one _) (by rw [← HN.out]; unfold maxLen; omega) (by rw [← HN.out]; omega) (by simp; omega) ?_
  intro ev' w3 hown hgr hat
  have hfr : ∀ k, ev'.ownBlock = some k → ev.ownBlock = some k ∨ w.heap.size ≤ k := fun k hk => by
    rcases hat with h | h
    · exact .inl (h ▸ hk)
    · rw [h] at hk; simp at hk; exact .inr (by omega)
  have HFR : Hid _ := hfr
  clear hfr hat
  have hc3 : Chg w.heap.size w.heap.size ev w w3 := (Chg.of_below hb1).trans (Chg.of_grown hgr)
  have hg0 : g < w.heap.size := hR.lt
  have hgev : ev.ownBlock ≠ some g := fun hq => by
    obtain ⟨_, _, cur', hr⟩ := ownsRow_lt hevs g hq
    have := hr.symm.trans hR
    simp at this
  have hR3 : Row w3 g R 64 := (hc3.block g hg0 (by omega) (by omega) hgev).trans hR
  refine ⟨fun _ => hR3, ?_⟩
  show wpPerm _ _ _ _ _ (Act.put _ (some 13) ev') w3
  have hc3' : Chg g g2 ev w w3 := (Chg.of_below hb1).trans (Chg.of_grown hgr)
  have hfin := HD.out.more flushEv ⟨fun _ => ⟨by show (0 : Int) ≤ 0; omega, by show (0 : Int) < 256; omega⟩, .inl rfl⟩ hc3 hown
  have HF : Hid _ := hfin
  obtain ⟨xv, cv, hev'⟩ : ∃ x c, ev' = .slice x (D.E.length + 1) c := by
    obtain ⟨_, ⟨_, h2⟩ | ⟨g', c', cur, h1, _⟩⟩ := hown
    · omega
    · exact ⟨_, _, h1⟩
  subst hev'
  have hcell := hR3.cell 2
  have hfz := hR3.frozen 2
  rw [hR2] at hcell
  clear hfin hown hgr hc3 hev1 hnew hb1 hR1
  simp only [Act.put, List.setIfInBounds_toArray, List.set_cons_zero, List.set_cons_succ]
  refine p_alone (some 14) (.pointer (some ⟨g, 0, none⟩)) w3 rfl rfl (by rfl) (by go_simp) (fun _ => hR3) ?_
  simp only [Act.put, List.setIfInBounds_toArray, List.set_cons_zero, List.set_cons_succ]
  refine p_alone (some 15) (.pointer (some ⟨g, 2, none⟩)) w3 rfl rfl (by rfl) (by go_simp) (fun _ => hR3) ?_
  simp only [Act.put, List.setIfInBounds_toArray, List.set_cons_zero, List.set_cons_succ]
  refine p_store (w3.setCell ⟨g, 2, none⟩ (.slice xv (D.E.length + 1) cv)) rfl rfl (by rfl) (by go_simp) (fun h => absurd rfl h) ?_
  refine p_done ?_
  simp only [Exit.then]
  go_wp2
  go_ret
  exact ⟨rfl, _, HF.out, hc3'.trans (Chg.of_setCell _ _ _), HFR.out⟩
set_option maxRecDepth 20000 in
set_option maxHeartbeats 4000000 in
theorem write_to {w : World} {base g g1 c1 g2 c2 : Nat} {ev : Value} {D : Dk} (hD : DiskAt w base g g1 c1 g2 c2 ev D) (hbase : base ≤ w.heap.size) (hlen : D.E.length ≤ 1000000) (n : Nat) (hn : n < D.s) (b off cap : Nat) (f : Nat → Int) (src : Array Value) (tb : TypeId) (h95 : tb ≠ 95) (hsrc : Row w b src tb) (hb : b ≠ g2)
    (hcs : ∀ i, i < 256 → src[off + i]? = some (.int .u8 (f i))) (hf : ∀ i, 0 ≤ f i ∧ f i < 256) :
    Calls Try.prog 19 #[.pointer (some ⟨g, 0, none⟩), .int .i64 n, .slice (some ⟨b, off, none⟩) 256 cap] w fun e w' => e = .returned (.int .i64 0) ∧ ∃ ev', To w w' base g g1 c1 g2 c2 ev ev' (D.write n f) := by
  have h0 := hD.ok.lo
  have h1 := hD.ok.hi
  have H := made_yes g g2 (D.s * 256) c2 w hD.cell1 (by omega)
  have HH := has_any g g2 D.s c2 n w hD.cell1 h0 h1
  rw [show decide (0 ≤ (n : Int) ∧ (n : Int) < D.s) = true by simp; omega] at HH
  obtain ⟨_, _, hmc, hc63, cur, hr2, hsz, _⟩ := ownsRow_slice hD.now
  have HS := sectorOf_any g2 (D.s * 256) n c2 w (by omega) hmc hc63
  have hc := hD.cell1
  have hlen256 := byts_len f 256
  have hcp := run_copy_row (P := Try.prog) w 40 40 3 5 g2 (n * 256) 256 256 ⟨b, off, none⟩ 256 cap cur 5 (byts f 256) Try.underlying40 info5s hr2 (by rw [hlen256]; rfl) (fun j v hj => by
    have hj' : j < 256 := by rw [← hlen256]; exact (List.getElem?_eq_some_iff.1 hj).1
    rw [Addr.add_mid, hsrc.cell, hcs j hj', ← hj, byts_at _ _ _ hj']) (by rw [hlen256]; omega) (byts_one _ _)
  rw [hlen256] at hcp
  have hD1 := hD.copied n hn f hf cur hr2
  have hsrc1 := hsrc.other (k := g2) (C' := (cur.toList.take (n * 256) ++ byts f 256 ++ cur.toList.drop (n * 256 + 256)).toArray) hb
  have hch1 : Chg g g2 ev w _ := Chg.of_setRow w (cur.toList.take (n * 256) ++ byts f 256 ++ cur.toList.drop (n * 256 + 256)).toArray
  generalize (cur.toList.take (n * 256) ++ byts f 256 ++ cur.toList.drop (n * 256 + 256)).toArray = C' at *
  have HF : Hid _ := hf
  have HN : Hid (n < D.s) := hn
  have HL : Hid (D.E.length ≤ 1000000) := hlen
  have HC : Hid _ := hch1
  have hbW : base ≤ (w.setRow g2 C').heap.size := by simpa [World.setRow] using hbase
  have HB : Hid _ := hbW
  have HD1 : Hid _ := hD1
  have HS1 : Hid _ := hsrc1
  have hm1 : D.s * 256 ≤ 524288 := by omega
  generalize D.s * 256 = m at *
  clear hf hn hlen hch1 hbW hD hD1 hsrc1 hr2 hsz hsrc hb hlen256 hmc hc63 h0 h1
  have hcs' : Hid _ := hcs
  clear hcs
  go_enter Try.func19, Try.ntmps19
  go_wp2_with fail
  refine H.mono ?_
  rintro e w' ⟨rfl, hw'⟩
  subst w'
  go_wp2_with fail
  refine HH.mono ?_
  rintro e w' ⟨rfl, hw'⟩
  subst w'
  go_wp2_with fail
  refine HS.mono ?_
  rintro e w' ⟨rfl, hw'⟩
  subst w'
  go_wp2_with fail
  clear hcp H HH HS hc
  have hD := HD1.out
  have hsrc := HS1.out
  have hbase := HB.out
  generalize w.setRow g2 C' = W at *
  obtain ⟨i0, hi, hz0, hz1, hz2⟩ := info_parts info65b
  have hR := hD.row
  have hevs := hD.evs
  have HD : Hid _ := hD
  clear hD HD1 HS1 HB
  obtain ⟨R, hRr⟩ : ∃ R, R = #[Value.slice (some ⟨g1, 0, none⟩) (D.s * 256) c1, .slice (some ⟨g2, 0, none⟩) (D.s * 256) c2, ev] := ⟨_, rfl⟩
  have hR2 : R[2]? = some ev := by rw [hRr]; rfl
  have hR' : Row W g R 64 := by rw [hRr]; exact hR
  have hbl := built_write n f
  have HBL : Hid _ := hbl
  have HO : Hid _ := one_event ⟨n, f⟩
  have haa : ∀ w : World, (Instr.arrayAt 83 (.slice (some ⟨b, off, none⟩) 256 cap)).run Try.prog w = .ok (.pointer (some ⟨b, off, none⟩)) w := fun w => run_arrayAt w 83 5 256 _ 256 cap Try.underlying83 (Nat.le_refl _)
  have hS : Row W.drew g R 64 ∧ Row W.drew b src tb := ⟨hR', hsrc⟩
  have hrange : ∀ wx : World, Row wx g R 64 ∧ Row wx b src tb → wx.rangeAt b off (byts f 256) := fun wx hx j v hj => by
    have hj' : j < 256 := by rw [← byts_len f 256]; exact (List.getElem?_eq_some_iff.1 hj).1
    rw [hx.2.cell, hcs'.out j hj', ← hj, byts_at _ _ _ hj']
  have HRG : Hid _ := hrange
  have i63 : (Try.prog.info? 83).map (·.size) = some (byts f 256).length := by rw [byts_len]; exact info63
  have hevA : evA ⟨n, f⟩ = (Ev.cells ⟨n, f⟩).toArray := rfl
  have hel := Ev.cells_len ⟨n, f⟩
  have heo := Ev.cells_one ⟨n, f⟩
  have HEO : Hid _ := heo
  generalize evA ⟨n, f⟩ = A at *
  generalize byts f 256 = L at *
  clear hRr hR hbl hrange heo
  refine wp_region_perm [(false, 0), (false, 1), (false, 2), (false, 3), (false, 4), (false, 5), (false, 6), (false, 7), (false, 8), (false, 9), (true, 10), (true, 11), (true, 12), (true, 13), (true, 14)] (fun wx => Row wx g R 64 ∧ Row wx b src tb) (by kernel_rfl) (by kernel_rfl) hS ?_
  refine p_move (some 27) _ rfl rfl rfl (by rfl) ?_
  simp only [Act.put, List.setIfInBounds_toArray, List.set_cons_zero, List.set_cons_succ]
  refine p_move (some 28) _ rfl rfl rfl (by rfl) ?_
  simp only [Act.put, List.setIfInBounds_toArray, List.set_cons_zero, List.set_cons_succ]
  refine p_value (some 29) ?_ rfl rfl (by rfl) (fun w hw => ?_) ?_
  rotate_left
  · go_simp
    with_reducible rfl
  simp only [Act.put, List.setIfInBounds_toArray, List.set_cons_zero, List.set_cons_succ]
  refine p_value (some 30) ?_ rfl rfl (by rfl) (fun w hw => ?_) ?_
  rotate_left
  · go_simp
    with_reducible rfl
  simp only [Act.put, List.setIfInBounds_toArray, List.set_cons_zero, List.set_cons_succ]
  refine p_value (some 31) ?_ rfl rfl (by rfl) (fun w hw => ?_) ?_
  rotate_left
  · have hc := (hw.1.cell 2).trans hR2
    go_simp
    with_reducible rfl
  simp only [Act.put, List.setIfInBounds_toArray, List.set_cons_zero, List.set_cons_succ]
  refine p_move (some 32) _ rfl rfl rfl (by rfl) ?_
  simp only [Act.put, List.setIfInBounds_toArray, List.set_cons_zero, List.set_cons_succ]
  refine p_move (some 33) _ rfl rfl rfl (by rfl) ?_
  simp only [Act.put, List.setIfInBounds_toArray, List.set_cons_zero, List.set_cons_succ]
  refine p_value (some 34) ?_ rfl rfl (by rfl) (fun w hw => ?_) ?_
  rotate_left
  · go_simp
    with_reducible rfl
  simp only [Act.put, List.setIfInBounds_toArray, List.set_cons_zero, List.set_cons_succ]
  refine p_load_mid (some 35) 83 _ rfl rfl rfl (by rfl) b off rfl L _ HRG.out Try.underlying83 rfl i63 ?_
  simp only [Act.put, List.setIfInBounds_toArray, List.set_cons_zero, List.set_cons_succ]
  refine p_build (some 36) 95 _ #[(0, .int .i64 n), (1, .agg L.toArray)] A rfl rfl rfl (by rfl) (by simp only [List.map_toArray, List.map_cons, List.map_nil]; rfl) HBL.out ?_
  simp only [Act.put, List.setIfInBounds_toArray, List.set_cons_zero, List.set_cons_succ]
  refine p_buildSlice (some 37) 62 1 _ #[(0, .agg A)] _ _ rfl rfl rfl (by rfl) (by simp only [List.map_toArray, List.map_cons, List.map_nil]; rfl) (HO.out _) (fun _ => ⟨hS.1.alloc _, hS.2.alloc _⟩) ?_
  simp only [Act.put, List.setIfInBounds_toArray, List.set_cons_zero, List.set_cons_succ]
  have hb1 : Below W.heap.size W (W.drew.alloc (.cells A 95)) := ((Below.refl _ _).drew).alloc (Nat.le_refl _) _
  have hev1 : (W.drew.alloc (.cells A 95)).ownsRow base 95 257 ev D.E.length (evCells D.E) := ownsRow_below hevs hb1
  have hnew : ∀ j u, (Ev.cells ⟨n, f⟩)[j]? = some u → (W.drew.alloc (.cells A 95)).cell? ((⟨W.drew.heap.size, 0, none⟩ : Addr).add j) = some u := fun j u hj => by
    rw [Addr.add_mid, Nat.zero_add, (Row.new W.drew A 95).cell j, hevA]
    simpa using hj
  refine p_wp rfl (by rfl) ?_
  refine wp_append_evs (.tmp 31) (.tmp 37) 62 rfl base 95 i0 (.agg (evA zeroEv)) 257 264 Try.underlying62 hi hz0 hz1 hz2 (evA_size _) (by decide) ev D.E.length (evCells D.E) rfl hev1 _ 1 1 (Ev.cells ⟨n, f⟩) rfl (by rw [hel]) hnew HEO.out (by have := HL.out; unfold maxLen; omega) (by have := HL.out; omega) (by simp; omega) ?_
  intro ev' w3 hown hgr hat
  have hfr : ∀ k, ev'.ownBlock = some k → ev.ownBlock = some k ∨ W.heap.size ≤ k := fun k hk => by
    rcases hat with h | h
    · exact .inl (h ▸ hk)
    · rw [h] at hk; simp at hk; exact .inr (by omega)
  have HFR : Hid _ := hfr
  clear hfr hat
  have hc3 : Chg W.heap.size W.heap.size ev W w3 := (Chg.of_below hb1).trans (Chg.of_grown hgr)
  have hc3' : Chg g g2 ev W w3 := (Chg.of_below hb1).trans (Chg.of_grown hgr)
  have hg0 : g < W.heap.size := hR'.lt
  have hb0 : b < W.heap.size := Row.lt hsrc
  have hgev : ev.ownBlock ≠ some g := fun hq => by
    obtain ⟨_, _, cur', hr⟩ := ownsRow_lt hevs g hq
    have := hr.symm.trans hR'
    simp at this
  have hbev : ev.ownBlock ≠ some b := fun hq => by
    obtain ⟨_, _, cur', hr⟩ := ownsRow_lt hevs b hq
    have := hr.symm.trans hsrc
    simp at this
    exact h95 this.2.symm
  have hR3 : Row w3 g R 64 := (hc3.block g hg0 (by omega) (by omega) hgev).trans hR'
  have hS3 : Row w3 b src tb := (hc3.block b hb0 (by omega) (by omega) hbev).trans hsrc
  refine ⟨fun _ => ⟨hR3, hS3⟩, ?_⟩
  show wpPerm _ _ _ _ _ (Act.put _ (some 38) ev') w3
  have hfin := HD.out.more ⟨n, f⟩ ⟨HF.out, .inr ⟨by simp, by have := HN.out; show (n : Int) < (D.s : Int); omega⟩⟩ hc3 hown
  have HFN : Hid _ := hfin
  obtain ⟨xv, cv, hev'⟩ : ∃ x c, ev' = .slice x (D.E.length + 1) c := by
    obtain ⟨_, ⟨_, h2⟩ | ⟨g', c', cur, h1, _⟩⟩ := hown
    · omega
    · exact ⟨_, _, h1⟩
  subst hev'
  have hcell := hR3.cell 2
  have hfz := hR3.frozen 2
  rw [hR2] at hcell
  clear hfin hown hgr hc3 hev1 hnew hb1 hevs hel
  simp only [Act.put, List.setIfInBounds_toArray, List.set_cons_zero, List.set_cons_succ]
  refine p_alone (some 39) (.pointer (some ⟨g, 0, none⟩)) w3 rfl rfl (by rfl) (by go_simp) (fun _ => ⟨hR3, hS3⟩) ?_
  simp only [Act.put, List.setIfInBounds_toArray, List.set_cons_zero, List.set_cons_succ]
  refine p_alone (some 40) (.pointer (some ⟨g, 2, none⟩)) w3 rfl rfl (by rfl) (by go_simp) (fun _ => ⟨hR3, hS3⟩) ?_
  simp only [Act.put, List.setIfInBounds_toArray, List.set_cons_zero, List.set_cons_succ]
  refine p_store (w3.setCell ⟨g, 2, none⟩ (.slice xv (D.E.length + 1) cv)) rfl rfl (by rfl) (by go_simp) (fun h => absurd rfl h) ?_
  refine p_done ?_
  simp only [Exit.then]
  go_wp2
  go_ret
  exact ⟨rfl, _, HFN.out, HC.out.trans (hc3'.trans (Chg.of_setCell _ _ _)), fun k hk => by
    rcases HFR.out k hk with h | h
    · exact .inl h
    · exact .inr (Nat.le_trans HC.out.size h)⟩

end Go.Proofs.Ytlbapnecmhlgmaa
