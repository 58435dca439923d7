/- The walk of Write. -/
import Derived.Test.YtdbnnljlbfjobaaGreatDoorWrite
namespace Go.Proofs.YtdbnnljlbfjobaaGreatDoor
open Go.RowKit

theorem info63 : (Tryz.prog.info? 99).map (·.size) = some 256 := by kernel_rfl

/-- n * 256 bytes, of which one sector is written over. -/
theorem over_take (cur : Array Value) (B f : Nat → Int) (s n c : Nat) (hs : cur.size = c) (hle : s * 256 ≤ c) (hn : n < s) (ht : cur.toList.take (s * 256) = byts B (s * 256)) :
    (cur.toList.take (n * 256) ++ byts f 256 ++ cur.toList.drop (n * 256 + 256)).take (s * 256) = byts (over B n f) (s * 256) := by
  have hl : cur.toList.length = c := by simpa using hs
  have e : ∀ i, i < s * 256 → cur.toList[i]? = some (.int .u8 (B i)) := fun i hi => by
    have h : (cur.toList.take (s * 256))[i]? = cur.toList[i]? := by rw [List.getElem?_take_of_lt hi]
    rw [← h, ht, byts_at _ _ _ hi]
  apply List.ext_getElem?
  intro i
  by_cases hi : i < s * 256
  · rw [List.getElem?_take_of_lt hi, byts_at _ _ _ hi]
    unfold over
    by_cases h1 : i < n * 256
    · rw [if_neg (by omega), List.getElem?_append_left (by simp [byts_len]; omega), List.getElem?_append_left (by simp; omega), List.getElem?_take_of_lt h1, e i hi]
    · by_cases h2 : i < n * 256 + 256
      · rw [if_pos (by omega), List.getElem?_append_left (by simp [byts_len]; omega), List.getElem?_append_right (by simp; omega)]
        have : (cur.toList.take (n * 256)).length = n * 256 := by simp; omega
        rw [this, byts_at _ _ _ (by omega)]
      · rw [if_neg (by omega), List.getElem?_append_right (by simp [byts_len]; omega), List.getElem?_drop]
        have : (cur.toList.take (n * 256) ++ byts f 256).length = n * 256 + 256 := by simp [byts_len]; omega
        rw [this, show n * 256 + 256 + (i - (n * 256 + 256)) = i by omega, e i hi]
  · rw [List.getElem?_eq_none (by simp; omega), List.getElem?_eq_none (by rw [byts_len]; omega)]

theorem DiskAt.copied {w : World} {base g g1 c1 g2 c2 : Nat} {ev : Value} {D : Dk} (hD : DiskAt w base g g1 c1 g2 c2 ev D) (n : Nat) (hn : n < D.s) (f : Nat → Int) (hf : ∀ i, 0 ≤ f i ∧ f i < 256) (cur : Array Value) (hr : Row w g2 cur 5) :
    DiskAt (w.setRow g2 (cur.toList.take (n * 256) ++ byts f 256 ++ cur.toList.drop (n * 256 + 256)).toArray) base g g1 c1 g2 c2 ev { D with B := over D.B n f } := by
  obtain ⟨h1, _, h3, h4, cur', hr', hs, ht⟩ := ownsRow_slice hD.now
  obtain rfl : cur' = cur := by have := hr'.symm.trans hr; simpa using this
  have hs' : cur'.size = c2 := by omega
  have ng : g ≠ g2 := fun e => by subst e; have := hr.symm.trans hD.row; simp at this
  refine ⟨(setRow_other w g2 g _ ng).trans hD.row, ownsRow_keep hD.first (fun k hk _ => ?_), ⟨by simp [byts_len], .inr ⟨g2, c2, _, rfl, h1, hr.setRow, h3, h4, ?_, ?_⟩⟩, ownsRow_keep hD.evs (fun k hk _ => ?_), hD.ge, hD.ne, ⟨hD.ok.lo, hD.ok.hi, hD.ok.F, fun i => ?_, hD.ok.E⟩⟩
  · obtain rfl : g1 = k := by simpa [Value.ownBlock] using hk
    exact setRow_other w g2 g1 _ hD.ne
  · simp [byts_len]
    omega
  · show ((cur'.toList.take (n * 256) ++ byts f 256 ++ cur'.toList.drop (n * 256 + 256)).toArray.toList).take (D.s * 256 * 1) = _
    rw [Nat.mul_one]
    exact over_take cur' D.B f D.s n c2 hs' h3 hn (by rw [Nat.mul_one] at ht; exact ht)
  · refine setRow_other w g2 k _ (fun e => ?_)
    subst e
    obtain ⟨_, _, c, hr2⟩ := ownsRow_lt hD.evs k hk
    have := hr2.symm.trans hr
    simp at this
  · show 0 ≤ over D.B n f i ∧ over D.B n f i < 256
    unfold over
    split
    · exact hf _
    · exact hD.ok.B i

set_option maxRecDepth 20000 in
set_option maxHeartbeats 4000000 in
theorem write_okT {w : World} {base g g1 c1 g2 c2 : Nat} {ev : Value} {D : Dk} (hD : DiskAt w base g g1 c1 g2 c2 ev D) (hbase : base ≤ w.heap.size) (hlen : D.E.length ≤ 1000000) (n : Nat) (hn : n < D.s) (b off cap : Nat) (f : Nat → Int) (src : Array Value) (tb : TypeId) (h95 : tb ≠ 101) (hsrc : Row w b src tb) (hb : b ≠ g2)
    (hcs : ∀ i, i < 256 → src[off + i]? = some (.int .u8 (f i))) (hf : ∀ i, 0 ≤ f i ∧ f i < 256) :
    Calls Tryz.prog 89 #[.pointer (some ⟨g, 0, none⟩), .int .i64 n, .slice (some ⟨b, off, none⟩) 256 cap] w fun e w' => e = .returned (.int .i64 0) ∧ ∃ ev', DiskAt w' base g g1 c1 g2 c2 ev' (D.write n f) ∧ Chg g g2 ev w w' := by
  have h0 := hD.ok.lo
  have h1 := hD.ok.hi
  have H := made_yes g g2 (D.s * 256) c2 w hD.cell1 (by omega)
  have HH := has_any g g2 D.s c2 n w hD.cell1 h0 h1
  rw [show decide (0 ≤ (n : Int) ∧ (n : Int) < D.s) = true by simp; omega] at HH
  obtain ⟨_, _, hmc, hc63, cur, hr2, hsz, _⟩ := ownsRow_slice hD.now
  have HS := sectorOf_any g2 (D.s * 256) n c2 w (by omega) hmc hc63
  have hc := hD.cell1
  have hlen256 := byts_len f 256
  have hcp := run_copy_row (P := Tryz.prog) w 31 31 3 5 g2 (n * 256) 256 256 ⟨b, off, none⟩ 256 cap cur 5 (byts f 256) Tryz.underlying31 info5s hr2 (by rw [hlen256]; rfl) (fun j v hj => by
    have hj' : j < 256 := by rw [← hlen256]; exact (List.getElem?_eq_some_iff.1 hj).1
    rw [Addr.add_mid, hsrc.cell, hcs j hj', ← hj, byts_at _ _ _ hj']) (by rw [hlen256]; omega) (byts_one _ _)
  rw [hlen256] at hcp
  have hD1 := hD.copied n hn f hf cur hr2
  have hsrc1 := hsrc.other (k := g2) (C' := (cur.toList.take (n * 256) ++ byts f 256 ++ cur.toList.drop (n * 256 + 256)).toArray) hb
  have hch1 : Chg g g2 ev w _ := Chg.of_setRow w (cur.toList.take (n * 256) ++ byts f 256 ++ cur.toList.drop (n * 256 + 256)).toArray
  generalize (cur.toList.take (n * 256) ++ byts f 256 ++ cur.toList.drop (n * 256 + 256)).toArray = C' at *
  have HF : Hid _ := hf
  have HN : Hid (n < D.s) := hn
  have HL : Hid (D.E.length ≤ 1000000) := hlen
  have HC : Hid _ := hch1
  have hbW : base ≤ (w.setRow g2 C').heap.size := by simpa [World.setRow] using hbase
  have HB : Hid _ := hbW
  have HD1 : Hid _ := hD1
  have HS1 : Hid _ := hsrc1
  have hm1 : D.s * 256 ≤ 524288 := by omega
  generalize D.s * 256 = m at *
  clear hf hn hlen hch1 hbW hD hD1 hsrc1 hr2 hsz hsrc hb hlen256 hmc hc63 h0 h1
  have hcs' : Hid _ := hcs
  clear hcs
  go_enter Tryz.func89, Tryz.ntmps89
  go_wp2_with fail
  refine H.mono ?_
  rintro e w' ⟨rfl, hw'⟩
  subst w'
  go_wp2_with fail
  refine HH.mono ?_
  rintro e w' ⟨rfl, hw'⟩
  subst w'
  go_wp2_with fail
  refine HS.mono ?_
  rintro e w' ⟨rfl, hw'⟩
  subst w'
  go_wp2_with fail
  clear hcp H HH HS hc
  have hD := HD1.out
  have hsrc := HS1.out
  have hbase := HB.out
  generalize w.setRow g2 C' = W at *
  obtain ⟨i0, hi, hz0, hz1, hz2⟩ := info_parts info65b
  have hR := hD.row
  have hevs := hD.evs
  have HD : Hid _ := hD
  clear hD HD1 HS1 HB
  obtain ⟨R, hRr⟩ : ∃ R, R = #[Value.slice (some ⟨g1, 0, none⟩) (D.s * 256) c1, .slice (some ⟨g2, 0, none⟩) (D.s * 256) c2, ev] := ⟨_, rfl⟩
  have hR2 : R[2]? = some ev := by rw [hRr]; rfl
  have hR' : Row W g R 60 := by rw [hRr]; exact hR
  have hbl := built_write n f
  have HBL : Hid _ := hbl
  have HO : Hid _ := one_event ⟨n, f⟩
  have haa : ∀ w : World, (Instr.arrayAt 99 (.slice (some ⟨b, off, none⟩) 256 cap)).run Tryz.prog w = .ok (.pointer (some ⟨b, off, none⟩)) w := fun w => run_arrayAt w 99 5 256 _ 256 cap Tryz.underlying99 (Nat.le_refl _)
  have hS : Row W.drew g R 60 ∧ Row W.drew b src tb := ⟨hR', hsrc⟩
  have hrange : ∀ wx : World, Row wx g R 60 ∧ Row wx b src tb → wx.rangeAt b off (byts f 256) := fun wx hx j v hj => by
    have hj' : j < 256 := by rw [← byts_len f 256]; exact (List.getElem?_eq_some_iff.1 hj).1
    rw [hx.2.cell, hcs'.out j hj', ← hj, byts_at _ _ _ hj']
  have HRG : Hid _ := hrange
  have i63 : (Tryz.prog.info? 99).map (·.size) = some (byts f 256).length := by rw [byts_len]; exact info63
  have hevA : evA ⟨n, f⟩ = (Ev.cells ⟨n, f⟩).toArray := rfl
  have hel := Ev.cells_len ⟨n, f⟩
  have heo := Ev.cells_one ⟨n, f⟩
  have HEO : Hid _ := heo
  generalize evA ⟨n, f⟩ = A at *
  generalize byts f 256 = L at *
  clear hRr hR hbl hrange heo
  refine wp_region_perm [(false, 0), (false, 1), (false, 2), (false, 3), (false, 4), (false, 5), (false, 6), (false, 7), (false, 8), (false, 9), (true, 10), (true, 11), (true, 12), (true, 13), (true, 14)] (fun wx => Row wx g R 60 ∧ Row wx b src tb) (by kernel_rfl) (by kernel_rfl) hS ?_
  refine p_move (some 27) _ rfl rfl rfl (by rfl) ?_
  simp only [Act.put, List.setIfInBounds_toArray, List.set_cons_zero, List.set_cons_succ]
  refine p_move (some 28) _ rfl rfl rfl (by rfl) ?_
  simp only [Act.put, List.setIfInBounds_toArray, List.set_cons_zero, List.set_cons_succ]
  refine p_value (some 29) ?_ rfl rfl (by rfl) (fun w hw => ?_) ?_
  rotate_left
  · go_simp
    with_reducible rfl
  simp only [Act.put, List.setIfInBounds_toArray, List.set_cons_zero, List.set_cons_succ]
  refine p_value (some 30) ?_ rfl rfl (by rfl) (fun w hw => ?_) ?_
  rotate_left
  · go_simp
    with_reducible rfl
  simp only [Act.put, List.setIfInBounds_toArray, List.set_cons_zero, List.set_cons_succ]
  refine p_value (some 31) ?_ rfl rfl (by rfl) (fun w hw => ?_) ?_
  rotate_left
  · have hc := (hw.1.cell 2).trans hR2
    go_simp
    with_reducible rfl
  simp only [Act.put, List.setIfInBounds_toArray, List.set_cons_zero, List.set_cons_succ]
  refine p_move (some 32) _ rfl rfl rfl (by rfl) ?_
  simp only [Act.put, List.setIfInBounds_toArray, List.set_cons_zero, List.set_cons_succ]
  refine p_move (some 33) _ rfl rfl rfl (by rfl) ?_
  simp only [Act.put, List.setIfInBounds_toArray, List.set_cons_zero, List.set_cons_succ]
  refine p_value (some 34) ?_ rfl rfl (by rfl) (fun w hw => ?_) ?_
  rotate_left
  · go_simp
    with_reducible rfl
  simp only [Act.put, List.setIfInBounds_toArray, List.set_cons_zero, List.set_cons_succ]
  refine p_load_mid (some 35) 99 _ rfl rfl rfl (by rfl) b off rfl L _ HRG.out Tryz.underlying99 rfl i63 ?_
  simp only [Act.put, List.setIfInBounds_toArray, List.set_cons_zero, List.set_cons_succ]
  refine p_build (some 36) 101 _ #[(0, .int .i64 n), (1, .agg L.toArray)] A rfl rfl rfl (by rfl) (by simp only [List.map_toArray, List.map_cons, List.map_nil]; rfl) HBL.out ?_
  simp only [Act.put, List.setIfInBounds_toArray, List.set_cons_zero, List.set_cons_succ]
  refine p_buildSlice (some 37) 58 1 _ #[(0, .agg A)] _ _ rfl rfl rfl (by rfl) (by simp only [List.map_toArray, List.map_cons, List.map_nil]; rfl) (HO.out _) (fun _ => ⟨hS.1.alloc _, hS.2.alloc _⟩) ?_
  simp only [Act.put, List.setIfInBounds_toArray, List.set_cons_zero, List.set_cons_succ]
  have hb1 : Below W.heap.size W (W.drew.alloc (.cells A 101)) := ((Below.refl _ _).drew).alloc (Nat.le_refl _) _
  have hev1 : (W.drew.alloc (.cells A 101)).ownsRow base 101 257 ev D.E.length (evCells D.E) := ownsRow_below hevs hb1
  have hnew : ∀ j u, (Ev.cells ⟨n, f⟩)[j]? = some u → (W.drew.alloc (.cells A 101)).cell? ((⟨W.drew.heap.size, 0, none⟩ : Addr).add j) = some u := fun j u hj => by
    rw [Addr.add_mid, Nat.zero_add, (Row.new W.drew A 101).cell j, hevA]
    simpa using hj
  refine p_wp rfl (by rfl) ?_
  refine wp_append_own_wide _ (.tmp 31) (.tmp 37) 58 rfl base 101 i0 (.agg (evA zeroEv)) 257 264 Tryz.underlying58 hi hz0 hz1 hz2 (evA_size _) (by decide) ev D.E.length (evCells D.E) rfl hev1 _ 1 1 (Ev.cells ⟨n, f⟩) rfl (by rw [hel]) hnew HEO.out (by have := HL.out; unfold maxLen; omega) (by have := HL.out; omega) (by simp; omega) ?_
  intro ev' w3 hown hgr _
  have hc3 : Chg W.heap.size W.heap.size ev W w3 := (Chg.of_below hb1).trans (Chg.of_grown hgr)
  have hc3' : Chg g g2 ev W w3 := (Chg.of_below hb1).trans (Chg.of_grown hgr)
  have hg0 : g < W.heap.size := hR'.lt
  have hb0 : b < W.heap.size := Row.lt hsrc
  have hgev : ev.ownBlock ≠ some g := fun hq => by
    obtain ⟨_, _, cur', hr⟩ := ownsRow_lt hevs g hq
    have := hr.symm.trans hR'
    simp at this
  have hbev : ev.ownBlock ≠ some b := fun hq => by
    obtain ⟨_, _, cur', hr⟩ := ownsRow_lt hevs b hq
    have := hr.symm.trans hsrc
    simp at this
    exact h95 this.2.symm
  have hR3 : Row w3 g R 60 := (hc3.block g hg0 (by omega) (by omega) hgev).trans hR'
  have hS3 : Row w3 b src tb := (hc3.block b hb0 (by omega) (by omega) hbev).trans hsrc
  refine ⟨fun _ => ⟨hR3, hS3⟩, ?_⟩
  show wpPerm _ _ _ _ _ (Act.put _ (some 38) ev') w3
  have hfin := HD.out.more ⟨n, f⟩ ⟨HF.out, .inr ⟨by simp, by have := HN.out; show (n : Int) < (D.s : Int); omega⟩⟩ hc3 hown
  have HFN : Hid _ := hfin
  obtain ⟨xv, cv, hev'⟩ : ∃ x c, ev' = .slice x (D.E.length + 1) c := by
    obtain ⟨_, ⟨_, h2⟩ | ⟨g', c', cur, h1, _⟩⟩ := hown
    · omega
    · exact ⟨_, _, h1⟩
  subst hev'
  have hcell := hR3.cell 2
  have hfz := hR3.frozen 2
  rw [hR2] at hcell
  clear hfin hown hgr hc3 hev1 hnew hb1 hevs hel
  simp only [Act.put, List.setIfInBounds_toArray, List.set_cons_zero, List.set_cons_succ]
  refine p_alone (some 39) (.pointer (some ⟨g, 0, none⟩)) w3 rfl rfl (by rfl) (by go_simp) (fun _ => ⟨hR3, hS3⟩) ?_
  simp only [Act.put, List.setIfInBounds_toArray, List.set_cons_zero, List.set_cons_succ]
  refine p_alone (some 40) (.pointer (some ⟨g, 2, none⟩)) w3 rfl rfl (by rfl) (by go_simp) (fun _ => ⟨hR3, hS3⟩) ?_
  simp only [Act.put, List.setIfInBounds_toArray, List.set_cons_zero, List.set_cons_succ]
  refine p_store (w3.setCell ⟨g, 2, none⟩ (.slice xv (D.E.length + 1) cv)) rfl rfl (by rfl) (by go_simp) (fun h => absurd rfl h) ?_
  refine p_done ?_
  simp only [Exit.then]
  go_wp2
  go_ret
  exact ⟨rfl, ⟨_, HFN.out⟩, HC.out.trans (hc3'.trans (Chg.of_setCell _ _ _))⟩

theorem write_ok {w : World} {base g g1 c1 g2 c2 : Nat} {ev : Value} {D : Dk} (hD : DiskAt w base g g1 c1 g2 c2 ev D) (hbase : base ≤ w.heap.size) (hlen : D.E.length ≤ 1000000) (n : Nat) (hn : n < D.s) (b off cap : Nat) (f : Nat → Int) (src : Array Value) (hsrc : Row w b src 5) (hb : b ≠ g2)
    (hcs : ∀ i, i < 256 → src[off + i]? = some (.int .u8 (f i))) (hf : ∀ i, 0 ≤ f i ∧ f i < 256) :
    Calls Tryz.prog 89 #[.pointer (some ⟨g, 0, none⟩), .int .i64 n, .slice (some ⟨b, off, none⟩) 256 cap] w fun e w' => e = .returned (.int .i64 0) ∧ ∃ ev', DiskAt w' base g g1 c1 g2 c2 ev' (D.write n f) ∧ Chg g g2 ev w w' :=
  write_okT hD hbase hlen n hn b off cap f src 5 (by decide) hsrc hb hcs hf
theorem write_bad {w : World} {base g g1 c1 g2 c2 : Nat} {ev : Value} {D : Dk} (hD : DiskAt w base g g1 c1 g2 c2 ev D) (n : Int) (a : Option Addr) (len cap : Nat) (hn : ¬ (0 ≤ n ∧ n < D.s) ∨ len ≠ 256) :
    Calls Tryz.prog 89 #[.pointer (some ⟨g, 0, none⟩), .int .i64 n, .slice a len cap] w fun e w' => e = .returned (.int .i64 2) ∧ w' = w := by
  have h0 := hD.ok.lo
  have h1 := hD.ok.hi
  have H := made_yes g g2 (D.s * 256) c2 w hD.cell1 (by omega)
  have HH := has_any g g2 D.s c2 n w hD.cell1 h0 h1
  clear hD
  by_cases h : 0 ≤ n ∧ n < D.s
  · have hl : len ≠ 256 := hn.resolve_left (fun hh => hh h)
    have hd : decide (0 ≤ n ∧ n < (D.s : Int)) = true := by simpa using h
    rw [hd] at HH
    clear hn h hd h0 h1
    go_enter Tryz.func89, Tryz.ntmps89
    go_wp2_with fail
    refine H.mono ?_
    rintro e w' ⟨rfl, rfl⟩
    go_wp2_with fail
    refine HH.mono ?_
    rintro e w' ⟨rfl, rfl⟩
    go_wp2
    go_ret
    exact ⟨rfl, rfl⟩
  · have hd : decide (0 ≤ n ∧ n < (D.s : Int)) = false := by simpa using h
    rw [hd] at HH
    clear hn h hd h0 h1
    go_enter Tryz.func89, Tryz.ntmps89
    go_wp2_with fail
    refine H.mono ?_
    rintro e w' ⟨rfl, rfl⟩
    go_wp2_with fail
    refine HH.mono ?_
    rintro e w' ⟨rfl, rfl⟩
    go_wp2
    go_ret
    exact ⟨rfl, rfl⟩
end Go.Proofs.YtdbnnljlbfjobaaGreatDoor
