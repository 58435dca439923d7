/- The walk of Write. Statements that draw their order, walked in an order of one's own, all in one class of worlds. The event that stands for a flush is itself. An event compared with the one that stands for a flush; the walks of flushed, kept and redo. The walk of redo. -/
import Derived.Test.YtlbapnecmhlgmaaM4
import Derived.Test.YtlbapnecmhlgmaaM2
import Derived.Test.YtlbapnecmhlgmaaM1
import Derived.DeepKeys
namespace Go.Proofs.Ytlbapnecmhlgmaa
open Go.RowKit

theorem info63 : (Try.prog.info? 83).map (·.size) = some 256 := by kernel_rfl

/-- n * 256 bytes, of which one sector is written over. -/
theorem over_take (cur : Array Value) (B f : Nat → Int) (s n c : Nat) (hs : cur.size = c) (hle : s * 256 ≤ c) (hn : n < s) (ht : cur.toList.take (s * 256) = byts B (s * 256)) :
    (cur.toList.take (n * 256) ++ byts f 256 ++ cur.toList.drop (n * 256 + 256)).take (s * 256) = byts (over B n f) (s * 256) := by
  have hl : cur.toList.length = c := by simpa using hs
  have e : ∀ i, i < s * 256 → cur.toList[i]? = some (.int .u8 (B i)) := fun i hi => by
    have h : (cur.toList.take (s * 256))[i]? = cur.toList[i]? := by rw [List.getElem?_take_of_lt hi]
    rw [← h, ht, byts_at _ _ _ hi]
  apply List.ext_getElem?
  intro i
  by_cases hi : i < s * 256
  · rw [List.getElem?_take_of_lt hi, byts_at _ _ _ hi]
    unfold over
    by_cases h1 : i < n * 256
    · rw [if_neg (by omega), List.getElem?_append_left (by simp [byts_len]; omega), List.getElem?_append_left (by simp; omega), List.getElem?_take_of_lt h1, e i hi]
    · by_cases h2 : i < n * 256 + 256
      · rw [if_pos (by omega), List.getElem?_append_left (by simp [byts_len]; omega), List.getElem?_append_right (by simp; omega)]
        have : (cur.toList.take (n * 256)).length = n * 256 := by simp; omega
        rw [this, byts_at _ _ _ (by omega)]
      · rw [if_neg (by omega), List.getElem?_append_right (by simp [byts_len]; omega), List.getElem?_drop]
        have : (cur.toList.take (n * 256) ++ byts f 256).length = n * 256 + 256 := by simp [byts_len]; omega
        rw [this, show n * 256 + 256 + (i - (n * 256 + 256)) = i by omega, e i hi]
  · rw [List.getElem?_eq_none (by simp; omega), List.getElem?_eq_none (by rw [byts_len]; omega)]

theorem DiskAt.copied {w : World} {base g g1 c1 g2 c2 : Nat} {ev : Value} {D : Dk} (hD : DiskAt w base g g1 c1 g2 c2 ev D) (n : Nat) (hn : n < D.s) (f : Nat → Int) (hf : ∀ i, 0 ≤ f i ∧ f i < 256) (cur : Array Value) (hr : Row w g2 cur 5) :
    DiskAt (w.setRow g2 (cur.toList.take (n * 256) ++ byts f 256 ++ cur.toList.drop (n * 256 + 256)).toArray) base g g1 c1 g2 c2 ev { D with B := over D.B n f } := by
  obtain ⟨h1, _, h3, h4, cur', hr', hs, ht⟩ := ownsRow_slice hD.now
  obtain rfl : cur' = cur := by have := hr'.symm.trans hr; simpa using this
  have hs' : cur'.size = c2 := by omega
  have ng : g ≠ g2 := fun e => by subst e; have := hr.symm.trans hD.row; simp at this
  refine ⟨(setRow_other w g2 g _ ng).trans hD.row, ownsRow_keep hD.first (fun k hk _ => ?_), ⟨by simp [byts_len], .inr ⟨g2, c2, _, rfl, h1, hr.setRow, h3, h4, ?_, ?_⟩⟩, ownsRow_keep hD.evs (fun k hk _ => ?_), hD.ge, hD.ne, ⟨hD.ok.lo, hD.ok.hi, hD.ok.F, fun i => ?_, hD.ok.E⟩⟩
  · obtain rfl : g1 = k := by simpa [Value.ownBlock] using hk
    exact setRow_other w g2 g1 _ hD.ne
  · simp [byts_len]
    omega
  · show ((cur'.toList.take (n * 256) ++ byts f 256 ++ cur'.toList.drop (n * 256 + 256)).toArray.toList).take (D.s * 256 * 1) = _
    rw [Nat.mul_one]
    exact over_take cur' D.B f D.s n c2 hs' h3 hn (by rw [Nat.mul_one] at ht; exact ht)
  · refine setRow_other w g2 k _ (fun e => ?_)
    subst e
    obtain ⟨_, _, c, hr2⟩ := ownsRow_lt hD.evs k hk
    have := hr2.symm.trans hr
    simp at this
  · show 0 ≤ over D.B n f i ∧ over D.B n f i < 256
    unfold over
    split
    · exact hf _
    · exact hD.ok.B i

set_option maxRecDepth 20000 in
set_option maxHeartbeats 4000000 in
theorem write_okT {w : World} {base g g1 c1 g2 c2 : Nat} {ev : Value} {D : Dk} (hD : DiskAt w base g g1 c1 g2 c2 ev D) (hbase : base ≤ w.heap.size) (hlen : D.E.length ≤ 1000000) (n : Nat) (hn : n < D.s) (b off cap : Nat) (f : Nat → Int) (src : Array Value) (tb : TypeId) (h95 : tb ≠ 95) (hsrc : Row w b src tb) (hb : b ≠ g2)
    (hcs : ∀ i, i < 256 → src[off + i]? = some (.int .u8 (f i))) (hf : ∀ i, 0 ≤ f i ∧ f i < 256) :
    Calls Try.prog 19 #[.pointer (some ⟨g, 0, none⟩), .int .i64 n, .slice (some ⟨b, off, none⟩) 256 cap] w fun e w' => e = .returned (.int .i64 0) ∧ ∃ ev', DiskAt w' base g g1 c1 g2 c2 ev' (D.write n f) ∧ Chg g g2 ev w w' := by
  have h0 := hD.ok.lo
  have h1 := hD.ok.hi
  have H := made_yes g g2 (D.s * 256) c2 w hD.cell1 (by omega)
  have HH := has_any g g2 D.s c2 n w hD.cell1 h0 h1
  rw [show decide (0 ≤ (n : Int) ∧ (n : Int) < D.s) = true by simp; omega] at HH
  obtain ⟨_, _, hmc, hc63, cur, hr2, hsz, _⟩ := ownsRow_slice hD.now
  have HS := sectorOf_any g2 (D.s * 256) n c2 w (by omega) hmc hc63
  have hc := hD.cell1
  have hlen256 := byts_len f 256
  have hcp := run_copy_row (P := Try.prog) w 40 40 3 5 g2 (n * 256) 256 256 ⟨b, off, none⟩ 256 cap cur 5 (byts f 256) Try.underlying40 info5s hr2 (by rw [hlen256]; rfl) (fun j v hj => by
    have hj' : j < 256 := by rw [← hlen256]; exact (List.getElem?_eq_some_iff.1 hj).1
    rw [Addr.add_mid, hsrc.cell, hcs j hj', ← hj, byts_at _ _ _ hj']) (by rw [hlen256]; omega) (byts_one _ _)
  rw [hlen256] at hcp
  have hD1 := hD.copied n hn f hf cur hr2
  have hsrc1 := hsrc.other (k := g2) (C' := (cur.toList.take (n * 256) ++ byts f 256 ++ cur.toList.drop (n * 256 + 256)).toArray) hb
  have hch1 : Chg g g2 ev w _ := Chg.of_setRow w (cur.toList.take (n * 256) ++ byts f 256 ++ cur.toList.drop (n * 256 + 256)).toArray
  generalize (cur.toList.take (n * 256) ++ byts f 256 ++ cur.toList.drop (n * 256 + 256)).toArray = C' at *
  have HF : Hid _ := hf
  have HN : Hid (n < D.s) := hn
  have HL : Hid (D.E.length ≤ 1000000) := hlen
  have HC : Hid _ := hch1
  have hbW : base ≤ (w.setRow g2 C').heap.size := by simpa [World.setRow] using hbase
  have HB : Hid _ := hbW
  have HD1 : Hid _ := hD1
  have HS1 : Hid _ := hsrc1
  have hm1 : D.s * 256 ≤ 524288 := by omega
  generalize D.s * 256 = m at *
  clear hf hn hlen hch1 hbW hD hD1 hsrc1 hr2 hsz hsrc hb hlen256 hmc hc63 h0 h1
  have hcs' : Hid _ := hcs
  clear hcs
  go_enter Try.func19, Try.ntmps19
  go_wp2_with fail
  refine H.mono ?_
  rintro e w' ⟨rfl, hw'⟩
  subst w'
  go_wp2_with fail
  refine HH.mono ?_
  rintro e w' ⟨rfl, hw'⟩
  subst w'
  go_wp2_with fail
  refine HS.mono ?_
  rintro e w' ⟨rfl, hw'⟩
  subst w'
  go_wp2_with fail
  clear hcp H HH HS hc
  have hD := HD1.out
  have hsrc := HS1.out
  have hbase := HB.out
  generalize w.setRow g2 C' = W at *
  obtain ⟨i0, hi, hz0, hz1, hz2⟩ := info_parts info65b
  have hR := hD.row
  have hevs := hD.evs
  have HD : Hid _ := hD
  clear hD HD1 HS1 HB
  obtain ⟨R, hRr⟩ : ∃ R, R = #[Value.slice (some ⟨g1, 0, none⟩) (D.s * 256) c1, .slice (some ⟨g2, 0, none⟩) (D.s * 256) c2, ev] := ⟨_, rfl⟩
  have hR2 : R[2]? = some ev := by rw [hRr]; rfl
  have hR' : Row W g R 64 := by rw [hRr]; exact hR
  have hbl := built_write n f
  have HBL : Hid _ := hbl
  have HO : Hid _ := one_event ⟨n, f⟩
  have haa : ∀ w : World, (Instr.arrayAt 83 (.slice (some ⟨b, off, none⟩) 256 cap)).run Try.prog w = .ok (.pointer (some ⟨b, off, none⟩)) w := fun w => run_arrayAt w 83 5 256 _ 256 cap Try.underlying83 (Nat.le_refl _)
  have hS : Row W.drew g R 64 ∧ Row W.drew b src tb := ⟨hR', hsrc⟩
  have hrange : ∀ wx : World, Row wx g R 64 ∧ Row wx b src tb → wx.rangeAt b off (byts f 256) := fun wx hx j v hj => by
    have hj' : j < 256 := by rw [← byts_len f 256]; exact (List.getElem?_eq_some_iff.1 hj).1
    rw [hx.2.cell, hcs'.out j hj', ← hj, byts_at _ _ _ hj']
  have HRG : Hid _ := hrange
  have i63 : (Try.prog.info? 83).map (·.size) = some (byts f 256).length := by rw [byts_len]; exact info63
  have hevA : evA ⟨n, f⟩ = (Ev.cells ⟨n, f⟩).toArray := rfl
  have hel := Ev.cells_len ⟨n, f⟩
  have heo := Ev.cells_one ⟨n, f⟩
  have HEO : Hid _ := heo
  generalize evA ⟨n, f⟩ = A at *
  generalize byts f 256 = L at *
  clear hRr hR hbl hrange heo
  refine wp_region_perm [(false, 0), (false, 1), (false, 2), (false, 3), (false, 4), (false, 5), (false, 6), (false, 7), (false, 8), (false, 9), (true, 10), (true, 11), (true, 12), (true, 13), (true, 14)] (fun wx => Row wx g R 64 ∧ Row wx b src tb) (by kernel_rfl) (by kernel_rfl) hS ?_
  refine p_move (some 27) _ rfl rfl rfl (by rfl) ?_
  simp only [Act.put, List.setIfInBounds_toArray, List.set_cons_zero, List.set_cons_succ]
  refine p_move (some 28) _ rfl rfl rfl (by rfl) ?_
  simp only [Act.put, List.setIfInBounds_toArray, List.set_cons_zero, List.set_cons_succ]
  refine p_value (some 29) ?_ rfl rfl (by rfl) (fun w hw => ?_) ?_
  rotate_left
  · go_simp
    with_reducible rfl
  simp only [Act.put, List.setIfInBounds_toArray, List.set_cons_zero, List.set_cons_succ]
  refine p_value (some 30) ?_ rfl rfl (by rfl) (fun w hw => ?_) ?_
  rotate_left
  · go_simp
    with_reducible rfl
  simp only [Act.put, List.setIfInBounds_toArray, List.set_cons_zero, List.set_cons_succ]
  refine p_value (some 31) ?_ rfl rfl (by rfl) (fun w hw => ?_) ?_
  rotate_left
  · have hc := (hw.1.cell 2).trans hR2
    go_simp
    with_reducible rfl
  simp only [Act.put, List.setIfInBounds_toArray, List.set_cons_zero, List.set_cons_succ]
  refine p_move (some 32) _ rfl rfl rfl (by rfl) ?_
  simp only [Act.put, List.setIfInBounds_toArray, List.set_cons_zero, List.set_cons_succ]
  refine p_move (some 33) _ rfl rfl rfl (by rfl) ?_
  simp only [Act.put, List.setIfInBounds_toArray, List.set_cons_zero, List.set_cons_succ]
  refine p_value (some 34) ?_ rfl rfl (by rfl) (fun w hw => ?_) ?_
  rotate_left
  · go_simp
    with_reducible rfl
  simp only [Act.put, List.setIfInBounds_toArray, List.set_cons_zero, List.set_cons_succ]
  refine p_load_mid (some 35) 83 _ rfl rfl rfl (by rfl) b off rfl L _ HRG.out Try.underlying83 rfl i63 ?_
  simp only [Act.put, List.setIfInBounds_toArray, List.set_cons_zero, List.set_cons_succ]
  refine p_build (some 36) 95 _ #[(0, .int .i64 n), (1, .agg L.toArray)] A rfl rfl rfl (by rfl) (by simp only [List.map_toArray, List.map_cons, List.map_nil]; rfl) HBL.out ?_
  simp only [Act.put, List.setIfInBounds_toArray, List.set_cons_zero, List.set_cons_succ]
  refine p_buildSlice (some 37) 62 1 _ #[(0, .agg A)] _ _ rfl rfl rfl (by rfl) (by simp only [List.map_toArray, List.map_cons, List.map_nil]; rfl) (HO.out _) (fun _ => ⟨hS.1.alloc _, hS.2.alloc _⟩) ?_
  simp only [Act.put, List.setIfInBounds_toArray, List.set_cons_zero, List.set_cons_succ]
  have hb1 : Below W.heap.size W (W.drew.alloc (.cells A 95)) := ((Below.refl _ _).drew).alloc (Nat.le_refl _) _
  have hev1 : (W.drew.alloc (.cells A 95)).ownsRow base 95 257 ev D.E.length (evCells D.E) := ownsRow_below hevs hb1
  have hnew : ∀ j u, (Ev.cells ⟨n, f⟩)[j]? = some u → (W.drew.alloc (.cells A 95)).cell? ((⟨W.drew.heap.size, 0, none⟩ : Addr).add j) = some u := fun j u hj => by
    rw [Addr.add_mid, Nat.zero_add, (Row.new W.drew A 95).cell j, hevA]
    simpa using hj
  refine p_wp rfl (by rfl) ?_
  refine wp_append_own_wide _ (.tmp 31) (.tmp 37) 62 rfl base 95 i0 (.agg (evA zeroEv)) 257 264 Try.underlying62 hi hz0 hz1 hz2 (evA_size _) (by decide) ev D.E.length (evCells D.E) rfl hev1 _ 1 1 (Ev.cells ⟨n, f⟩) rfl (by rw [hel]) hnew HEO.out (by have := HL.out; unfold maxLen; omega) (by have := HL.out; omega) (by simp; omega) ?_
  intro ev' w3 hown hgr _
  have hc3 : Chg W.heap.size W.heap.size ev W w3 := (Chg.of_below hb1).trans (Chg.of_grown hgr)
  have hc3' : Chg g g2 ev W w3 := (Chg.of_below hb1).trans (Chg.of_grown hgr)
  have hg0 : g < W.heap.size := hR'.lt
  have hb0 : b < W.heap.size := Row.lt hsrc
  have hgev : ev.ownBlock ≠ some g := fun hq => by
    obtain ⟨_, _, cur', hr⟩ := ownsRow_lt hevs g hq
    have := hr.symm.trans hR'
    simp at this
  have hbev : ev.ownBlock ≠ some b := fun hq => by
    obtain ⟨_, _, cur', hr⟩ := ownsRow_lt hevs b hq
    have := hr.symm.trans hsrc
    simp at this
    exact h95 this.2.symm
  have hR3 : Row w3 g R 64 := (hc3.block g hg0 (by omega) (by omega) hgev).trans hR'
  have hS3 : Row w3 b src tb := (hc3.block b hb0 (by omega) (by omega) hbev).trans hsrc
  refine ⟨fun _ => ⟨hR3, hS3⟩, ?_⟩
  show wpPerm _ _ _ _ _ (Act.put _ (some 38) ev') w3
  have hfin := HD.out.more ⟨n, f⟩ ⟨HF.out, .inr ⟨by simp, by have := HN.out; show (n : Int) < (D.s : Int); omega⟩⟩ hc3 hown
  have HFN : Hid _ := hfin
  obtain ⟨xv, cv, hev'⟩ : ∃ x c, ev' = .slice x (D.E.length + 1) c := by
    obtain ⟨_, ⟨_, h2⟩ | ⟨g', c', cur, h1, _⟩⟩ := hown
    · omega
    · exact ⟨_, _, h1⟩
  subst hev'
  have hcell := hR3.cell 2
  have hfz := hR3.frozen 2
  rw [hR2] at hcell
  clear hfin hown hgr hc3 hev1 hnew hb1 hevs hel
  simp only [Act.put, List.setIfInBounds_toArray, List.set_cons_zero, List.set_cons_succ]
  refine p_alone (some 39) (.pointer (some ⟨g, 0, none⟩)) w3 rfl rfl (by rfl) (by go_simp) (fun _ => ⟨hR3, hS3⟩) ?_
  simp only [Act.put, List.setIfInBounds_toArray, List.set_cons_zero, List.set_cons_succ]
  refine p_alone (some 40) (.pointer (some ⟨g, 2, none⟩)) w3 rfl rfl (by rfl) (by go_simp) (fun _ => ⟨hR3, hS3⟩) ?_
  simp only [Act.put, List.setIfInBounds_toArray, List.set_cons_zero, List.set_cons_succ]
  refine p_store (w3.setCell ⟨g, 2, none⟩ (.slice xv (D.E.length + 1) cv)) rfl rfl (by rfl) (by go_simp) (fun h => absurd rfl h) ?_
  refine p_done ?_
  simp only [Exit.then]
  go_wp2
  go_ret
  exact ⟨rfl, ⟨_, HFN.out⟩, HC.out.trans (hc3'.trans (Chg.of_setCell _ _ _))⟩

theorem write_ok {w : World} {base g g1 c1 g2 c2 : Nat} {ev : Value} {D : Dk} (hD : DiskAt w base g g1 c1 g2 c2 ev D) (hbase : base ≤ w.heap.size) (hlen : D.E.length ≤ 1000000) (n : Nat) (hn : n < D.s) (b off cap : Nat) (f : Nat → Int) (src : Array Value) (hsrc : Row w b src 5) (hb : b ≠ g2)
    (hcs : ∀ i, i < 256 → src[off + i]? = some (.int .u8 (f i))) (hf : ∀ i, 0 ≤ f i ∧ f i < 256) :
    Calls Try.prog 19 #[.pointer (some ⟨g, 0, none⟩), .int .i64 n, .slice (some ⟨b, off, none⟩) 256 cap] w fun e w' => e = .returned (.int .i64 0) ∧ ∃ ev', DiskAt w' base g g1 c1 g2 c2 ev' (D.write n f) ∧ Chg g g2 ev w w' :=
  write_okT hD hbase hlen n hn b off cap f src 5 (by decide) hsrc hb hcs hf
theorem write_bad {w : World} {base g g1 c1 g2 c2 : Nat} {ev : Value} {D : Dk} (hD : DiskAt w base g g1 c1 g2 c2 ev D) (n : Int) (a : Option Addr) (len cap : Nat) (hn : ¬ (0 ≤ n ∧ n < D.s) ∨ len ≠ 256) :
    Calls Try.prog 19 #[.pointer (some ⟨g, 0, none⟩), .int .i64 n, .slice a len cap] w fun e w' => e = .returned (.int .i64 2) ∧ w' = w := by
  have h0 := hD.ok.lo
  have h1 := hD.ok.hi
  have H := made_yes g g2 (D.s * 256) c2 w hD.cell1 (by omega)
  have HH := has_any g g2 D.s c2 n w hD.cell1 h0 h1
  clear hD
  by_cases h : 0 ≤ n ∧ n < D.s
  · have hl : len ≠ 256 := hn.resolve_left (fun hh => hh h)
    have hd : decide (0 ≤ n ∧ n < (D.s : Int)) = true := by simpa using h
    rw [hd] at HH
    clear hn h hd h0 h1
    go_enter Try.func19, Try.ntmps19
    go_wp2_with fail
    refine H.mono ?_
    rintro e w' ⟨rfl, rfl⟩
    go_wp2_with fail
    refine HH.mono ?_
    rintro e w' ⟨rfl, rfl⟩
    go_wp2
    go_ret
    exact ⟨rfl, rfl⟩
  · have hd : decide (0 ≤ n ∧ n < (D.s : Int)) = false := by simpa using h
    rw [hd] at HH
    clear hn h hd h0 h1
    go_enter Try.func19, Try.ntmps19
    go_wp2_with fail
    refine H.mono ?_
    rintro e w' ⟨rfl, rfl⟩
    go_wp2_with fail
    refine HH.mono ?_
    rintro e w' ⟨rfl, rfl⟩
    go_wp2
    go_ret
    exact ⟨rfl, rfl⟩
end Go.Proofs.Ytlbapnecmhlgmaa
namespace Go.Proofs.Ytlbapnecmhlgmaa
open Go.RowKit
section
variable {P : Program} {ops : Array Oper} {md : Region.Mode} {S : World → Prop}

/-- The walk in the order that is told: false: the operation only reads; true: it stands alone. -/
def wpPermA (P : Program) (ops : Array Oper) (S : World → Prop) (Q : Act → World → Prop) : List (Bool × Nat) → Act → World → Prop
  | [], a, w => Q a w
  | (true, i) :: fs, a, w => ∃ o, ops[i]? = some o ∧ Region.wanted o (yielded ops a.tmps) = true ∧ o.wp P a w (fun a' w' => S w' ∧ wpPermA P ops S Q fs a' w') (fun _ _ _ => False)
  | (false, i) :: fs, a, w => ∃ o, ops[i]? = some o ∧ ∃ v, YieldsIf P ops S o v a ∧ wpPermA P ops S Q fs (a.put o.dst v) w

def permA (md : Region.Mode) (ops : Array Oper) : List (Bool × Nat) → Array Bool → Bool
  | [], listed => (Region.ready md ops listed).isEmpty
  | (true, k) :: fs, listed => decide (Region.ready md ops listed = [k]) && permA md ops fs (listed.setIfInBounds k true)
  | (false, k) :: fs, listed => (Region.ready md ops listed).contains k && Region.free md ops listed k && permA md ops fs (listed.setIfInBounds k true)

theorem wpAnyH_permA {Q : Act → World → Prop} (hs : Region.noSelect ops = true) : ∀ (fs : List (Bool × Nat)) (listed : Array Bool) (a : Act) (w : World),
    permA md ops fs listed = true → S w → wpPermA P ops S Q fs a w → wpAnyH P md ops (Only Q) S fs.length listed a w
  | [], listed, a, w, hB, _, h => ⟨by simpa [permA] using hB, h⟩
  | (true, k) :: fs, listed, a, w, hB, hS, h => by
    simp only [permA, Bool.and_eq_true, decide_eq_true_eq] at hB
    refine wpAnyH_all hB.1 (by simp) fun i hi => ?_
    have hik : i = k := by simpa using hi
    subst hik
    obtain ⟨o, h0, hw, hwp⟩ := h
    unfold wpOp
    simp only [h0, hw, if_true]
    refine .inl (wp_monoQ (fun _ _ _ h => h.elim) (Oper.wp_mono (fun a' w' h' => ?_) hwp))
    exact ⟨h'.1, wpAnyH_permA hs fs _ a' w' hB.2 h'.1 h'.2⟩
  | (false, k) :: fs, listed, a, w, hB, hS, h => by
    simp only [permA, Bool.and_eq_true] at hB
    obtain ⟨o, h0, v, hy, h'⟩ := h
    refine wpAnyH_take h0 hs hB.1.2 hB.1.1 (fun _ _ _ h => h.elim) hy hS ?_
    exact wpAnyH_permA hs fs _ _ w hB.2 hS h'

theorem wp_region_permA {id : Nat} {Q : Exit → Act → World → Prop} {a : Act} {w : World} {l : List Oper} (fs : List (Bool × Nat)) (S : World → Prop) (hm : P.follows .mixedOrders = true)
    (hB : (Region.noSelect l.toArray && (decide (fs.length = l.length) && permA .any l.toArray fs (Array.replicate l.length false))) = true) (hS : S w.drew)
    (h : wpPermA P l.toArray S (Q .normal) fs a w.drew) : (Code.region id l.toArray true).wp P Q a w := by
  simp only [Bool.and_eq_true, decide_eq_true_eq] at hB
  refine wp_region_any hm ?_
  have h1 := wpAnyH_permA (md := .any) (Q := Q .normal) hB.1 fs _ a w.drew hB.2.2 hS h
  have h2 := wpAny_monoQ (Q' := Q) (fun e a w h => by cases e <;> first | exact h | exact h.elim) _ _ _ _ (wpAny_of_held _ _ _ _ h1)
  rw [hB.2.1] at h2
  simpa using h2

variable {Q : Act → World → Prop} {a : Act} {w : World} {o : Oper} {i : Nat} {fs : List (Bool × Nat)}

theorem a_value (d : Option Tmp) (v : Value) (hi : ops[i]? = some o) (hd : o.dst = d) (hw : Region.wanted o (yielded ops a.tmps) = true) (h : ∀ w, S w → (execOp a.eval o).run P w = .ok (.value v) w) (k : wpPermA P ops S Q fs (a.put d v) w) : wpPermA P ops S Q ((false, i) :: fs) a w :=
  ⟨o, hi, v, .inl ⟨hw, h⟩, by rw [hd]; exact k⟩
theorem a_skip (d : Option Tmp) (hi : ops[i]? = some o) (hd : o.dst = d) (hw : Region.wanted o (yielded ops a.tmps) = false) (k : wpPermA P ops S Q fs (a.put d undef) w) : wpPermA P ops S Q ((false, i) :: fs) a w :=
  ⟨o, hi, undef, .inr ⟨hw, rfl⟩, by rw [hd]; exact k⟩
theorem a_move (d : Option Tmp) (x : Operand) (hi : ops[i]? = some o) (hd : o.dst = d) (ho : o.op = .move x) (hw : Region.wanted o (yielded ops a.tmps) = true) (k : wpPermA P ops S Q fs (a.put d (a.eval x)) w) : wpPermA P ops S Q ((false, i) :: fs) a w :=
  a_value d _ hi hd hw (fun w _ => by unfold execOp; simp only [ho]; rfl) k
theorem a_load_mid (dd : Option Tmp) (ty : TypeId) (x : Operand) (hi : ops[i]? = some o) (hd' : o.dst = dd) (ho : o.op = .load ty x) (hw : Region.wanted o (yielded ops a.tmps) = true) (b off : Nat) (hx : a.eval x = .pointer (some ⟨b, off, none⟩)) (cs : List Value) (d : TypeDesc)
    (hC : ∀ w, S w → w.rangeAt b off cs) (hu : P.underlying ty = some d) (hd : d.isRow = true) (hs : (P.info? ty).map (·.size) = some cs.length)
    (k : wpPermA P ops S Q fs (a.put dd (.agg cs.toArray)) w) : wpPermA P ops S Q ((false, i) :: fs) a w :=
  ⟨o, hi, _, yieldsIf_load_mid hw ty x ho b off hx cs d hC hu hd hs, by rw [hd']; exact k⟩
theorem a_call (d : Option Tmp) (hi : ops[i]? = some o) (hd : o.dst = d) (hw : Region.wanted o (yielded ops a.tmps) = true) (f : FuncId) (args : Array Value) (h : (execOp a.eval o).run P w = .ok (.enter f args) w)
    (hc : Calls P f args w fun e w' => ∃ v, e = .returned v ∧ S w' ∧ wpPermA P ops S Q fs (a.put d v) w') : wpPermA P ops S Q ((true, i) :: fs) a w := by
  refine ⟨o, hi, hw, ?_⟩
  unfold Oper.wp
  rw [h]
  simp only [Oper.upon]
  refine hc.mono ?_
  rintro e w' ⟨v, rfl, h1, h2⟩
  subst hd
  exact ⟨h1, h2⟩
theorem a_alone (d : Option Tmp) (v : Value) (w' : World) (hi : ops[i]? = some o) (hd : o.dst = d) (hw : Region.wanted o (yielded ops a.tmps) = true) (h : (execOp a.eval o).run P w = .ok (.value v) w') (hS : S w')
    (k : wpPermA P ops S Q fs (a.put d v) w') : wpPermA P ops S Q ((true, i) :: fs) a w := by
  refine ⟨o, hi, hw, ?_⟩
  unfold Oper.wp
  rw [h]
  subst hd
  exact ⟨hS, k⟩
theorem a_store (w' : World) (hi : ops[i]? = some o) (hd : o.dst = none) (hw : Region.wanted o (yielded ops a.tmps) = true) (h : (execOp a.eval o).run P w = .ok .skip w') (hS : S w')
    (k : wpPermA P ops S Q fs a w') : wpPermA P ops S Q ((true, i) :: fs) a w := by
  refine ⟨o, hi, hw, ?_⟩
  unfold Oper.wp
  rw [h]
  simp only [Oper.upon, hd]
  exact ⟨hS, k⟩
/-- An operation that stands alone, by a law of its own. -/
theorem a_wp (hi : ops[i]? = some o) (hw : Region.wanted o (yielded ops a.tmps) = true) (h : o.wp P a w (fun a' w' => S w' ∧ wpPermA P ops S Q fs a' w') (fun _ _ _ => False)) : wpPermA P ops S Q ((true, i) :: fs) a w :=
  ⟨o, hi, hw, h⟩
theorem a_done (h : Q a w) : wpPermA P ops S Q [] a w := h
end
end Go.Proofs.Ytlbapnecmhlgmaa
namespace Go.Proofs.Ytlbapnecmhlgmaa
open Go.RowKit
theorem eq_flush (w : World) : (Op.equalIn 10000 95 (.agg (evA flushEv)) (.agg (evA flushEv))).run Try.prog w = .ok true w := by
  kernel_rfl
end Go.Proofs.Ytlbapnecmhlgmaa
namespace Go.Proofs.Ytlbapnecmhlgmaa
open Go.RowKit

theorem eq_other (e : Ev) (h : 0 ≤ e.n) (w : World) : (Op.equalIn 10000 95 (.agg (evA e)) (.agg (evA flushEv))).run Try.prog w = .ok false w := by
  have hf : Try.prog.underlying 95 = some (.struct (Try.prog.fieldsOf 95)) := by simp only [Program.fieldsOf, Try.underlying95]
  rw [run_equalIn_struct w 9999 95 _ _ hf (by kernel_rfl)]
  simp only [Program.fieldsOf, Try.underlying95, Op.eqFields]
  have p1 : (part 3 (evA e) 0).run Try.prog w = .ok (.int .i64 e.n) w := by simp [part, isAgg, run_underlying Try.underlying3, evA, Ev.cells]
  have p2 : (part 3 (evA flushEv) 0).run Try.prog w = .ok (.int .i64 (-1)) w := by simp [part, isAgg, run_underlying Try.underlying3, evA, Ev.cells, flushEv]
  have p3 := run_equalIn_int (P := Try.prog) w 9998 3 .i64 .i64 e.n (-1) Try.underlying3
  have hq : (e.n == -1) = false := by simp; omega
  simp [p1, p2, p3, hq]
/-- Is it a flush? -/
def Ev.isFl (e : Ev) : Bool := decide (e.n < 0)
theorem eq_ev {s : Nat} (e : Ev) (he : e.ok s) (w : World) : (Op.equalIn 10000 95 (.agg (evA e)) (.agg (evA flushEv))).run Try.prog w = .ok e.isFl w := by
  rcases he.2 with rfl | h
  · exact eq_flush w
  · rw [eq_other e h.1 w]
    simp [Ev.isFl]
    omega

/-- Events in memory, from the head of a block on. -/
structure Evs (w : World) (a : Option Addr) (g3 k s : Nat) (E : Nat → Ev) : Prop where
  at' : 0 < k → a = some ⟨g3, 0, none⟩
  range : ∀ i, i < k → w.rangeAt g3 (i * 257) (E i).cells
  ok : ∀ i, i < k → (E i).ok s
theorem Evs.lt {w : World} {a : Option Addr} {g3 k s : Nat} {E : Nat → Ev} (h : Evs w a g3 k s E) (hk : 0 < k) : g3 < w.heap.size := by
  have := h.range 0 hk 0 (.int .i64 (E 0).n) rfl
  exact World.block_lt_of_cell? _ _ this
theorem Evs.keep {w w' : World} {a : Option Addr} {g3 k s : Nat} {E : Nat → Ev} (h : Evs w a g3 k s E) (hb : 0 < k → w'.heap[g3]? = w.heap[g3]?) : Evs w' a g3 k s E :=
  ⟨h.at', fun i hi j v hj => (World.cell?_of_block (w := w) (hb (by omega))).trans (h.range i hi j v hj), h.ok⟩
theorem Evs.belowAll {w w' : World} {a : Option Addr} {g3 k s : Nat} {E : Nat → Ev} (h : Evs w a g3 k s E) (hb : Below w.heap.size w w') : Evs w' a g3 k s E := h.keep fun hk => hb.block g3 (h.lt hk)

/-- How many of the first k events are the last flush and those ahead of it. -/
def safeN (E : Nat → Ev) : Nat → Nat
  | 0 => 0
  | k + 1 => if (E k).isFl then k + 1 else safeN E k
theorem safeN_le (E : Nat → Ev) (k : Nat) : safeN E k ≤ k := by
  induction k with
  | zero => exact Nat.le_refl _
  | succ k ih => unfold safeN; split <;> omega

theorem info65c (e : Ev) : (Try.prog.info? 95).map (·.size) = some e.cells.length := by rw [Ev.cells_len]; exact info65s

set_option maxRecDepth 20000 in
set_option maxHeartbeats 2000000 in
theorem flushed_any (a : Option Addr) (g3 k c s : Nat) (E : Nat → Ev) (w : World) (hE : Evs w a g3 k s E) (hk : k ≤ 1000000) :
    Calls Try.prog 52 #[.slice a k c] w fun e w' => e = .returned (.int .i64 (safeN E k)) ∧ Below w.heap.size w w' := by
  have HE : Hid _ := hE
  clear hE
  go_enter Try.func52, Try.ntmps52
  go_wp2
  go_loopw [3] (fun i wr => ∃ j : Nat, j ≤ k ∧ i = .int .i64 j ∧ Hid (safeN E k = safeN E j) ∧ Below w.heap.size w wr) (fun i _ => (intOf i).toNat)
  case atStart => exact ⟨k, Nat.le_refl _, rfl, rfl, Below.refl _ _⟩
  case round =>
    obtain ⟨j, hj, rfl, hs, hb⟩ := hrel
    by_cases h0 : 0 < j
    · obtain ⟨i, rfl⟩ : ∃ i, j = i + 1 := ⟨j - 1, by omega⟩
      obtain rfl := HE.out.at' (by omega)
      have hEr := HE.out.belowAll hb
      have hrg := hEr.range i (by omega)
      have heq := eq_ev (E i) (hEr.ok i (by omega))
      have hel := info65c (E i)
      have HL : Hid _ := hrg
      clear hrg hEr
      have hsi : ((i + 1 : Nat) : Int) - 1 = (i : Int) := by omega
      have hwr : IntKind.i64.wrap (i : Int) = i := by unfold IntKind.wrap; simp [IntKind.signed, IntKind.bits]; omega
      have hik : i < k := by omega
      have hA : evA (E i) = (E i).cells.toArray := rfl
      rw [hA] at heq
      have hfl : safeN E (i + 1) = if (E i).isFl then i + 1 else safeN E i := rfl
      have HFL : Hid _ := hfl
      generalize (E i).cells = L at *
      generalize (E i).isFl = fl at *
      clear hfl hA
      go_wp2_with fail
      refine wp_region_permA [(false, 0), (false, 1), (false, 2), (false, 3), (false, 4), (true, 5), (false, 6)] (fun wx => wx.rangeAt g3 (i * 257) L ∧ Below w.heap.size w wx) (by kernel_rfl) (by kernel_rfl) ⟨HL.out, hb.drew⟩ ?_
      refine a_move (some 10) _ rfl rfl rfl (by rfl) ?_
      simp only [Act.put, List.setIfInBounds_toArray, List.set_cons_zero, List.set_cons_succ]
      refine a_move (some 11) _ rfl rfl rfl (by rfl) ?_
      simp only [Act.put, List.setIfInBounds_toArray, List.set_cons_zero, List.set_cons_succ]
      refine a_value (some 12) ?_ rfl rfl (by rfl) (fun w hw => ?_) ?_
      rotate_left
      · go_simp
        with_reducible rfl
      simp only [Act.put, List.setIfInBounds_toArray, List.set_cons_zero, List.set_cons_succ]
      refine a_value (some 13) ?_ rfl rfl (by rfl) (fun w hw => ?_) ?_
      rotate_left
      · go_simp
        with_reducible rfl
      simp only [Act.put, List.setIfInBounds_toArray, List.set_cons_zero, List.set_cons_succ]
      refine a_load_mid (some 14) 95 _ rfl rfl rfl (by rfl) g3 (i * 257) rfl L _ (fun w h => h.1) Try.underlying95 rfl hel ?_
      simp only [Act.put, List.setIfInBounds_toArray, List.set_cons_zero, List.set_cons_succ]
      refine a_call (some 15) rfl rfl (by rfl) 58 #[] (by go_simp) ((flush_any _).mono fun e w' ⟨he, hw'⟩ => ⟨_, he, ?_, ?_⟩)
      · rw [hw']
        refine ⟨fun x v hv => ?_, hb.drew.alloc hb.size _⟩
        have hc : wr.drew.cell? ⟨g3, i * 257 + x, none⟩ = some v := HL.out x v hv
        rw [World.cell?_alloc_lt _ _ _ (World.block_lt_of_cell? _ _ hc)]
        exact hc
      subst hw'
      simp only [Act.put, List.setIfInBounds_toArray, List.set_cons_zero, List.set_cons_succ]
      refine a_value (some 16) ?_ rfl rfl (by rfl) (fun w hw => ?_) ?_
      rotate_left
      · go_simp
        with_reducible rfl
      simp only [Act.put, List.setIfInBounds_toArray, List.set_cons_zero, List.set_cons_succ]
      refine a_done ?_
      simp only [Exit.then]
      have hbN : Below w.heap.size w (wr.drew.alloc (.cells (evA flushEv) 95)) := hb.drew.alloc hb.size _
      generalize wr.drew.alloc (.cells (evA flushEv) 95) = W at *
      cases fl with
      | true =>
        go_wp2
        go_ret
        refine ⟨?_, hbN⟩
        rw [hs, HFL.out]
        simp
      | false =>
        go_wp2
        go_roundw
        case rel => exact ⟨i, by omega, by go_num, by show _ = _; rw [hs, HFL.out]; simp, hbN⟩
        case measure => simp [intOf]
    · obtain rfl : j = 0 := by omega
      go_wp2
      go_ret
      exact ⟨by rw [hs]; rfl, hb⟩

/-- Is the k-th of the later writes kept? -/
def keptB (len : Nat) (f : Nat → Bool) (k : Nat) : Bool := decide (k < len) && f k

set_option maxRecDepth 20000 in
theorem kept_any (a : Option Addr) (b off len cap k : Nat) (f : Nat → Bool) (w : World) (hK : Bl w a b off len f) (hk : k ≤ 1000000) (hl : len ≤ 281474976710656) :
    Calls Try.prog 54 #[.slice a len cap, .int .i64 k] w fun e w' => e = .returned (.bool (keptB len f k)) ∧ w' = w := by
  by_cases h : k < len
  · obtain rfl := hK.at' (by omega)
    have hc := hK.cell k h
    have e : keptB len f k = f k := by simp [keptB, h]
    rw [e]
    clear e hK
    go_enter Try.func54, Try.ntmps54
    go_wp2
    go_ret
    exact ⟨rfl, rfl⟩
  · have e : keptB len f k = false := by simp [keptB, h]
    rw [e]
    clear e hK
    go_enter Try.func54, Try.ntmps54
    go_wp2
    go_ret
    exact ⟨rfl, rfl⟩

/-- What an event does to bytes. -/
def redoF (e : Ev) (F : Nat → Int) : Nat → Int := if e.isFl then F else over F e.n.toNat e.f
theorem results30 : Try.f55.results = #[] := by kernel_rfl

/-- Of the blocks that were there only g has changed. -/
structure Lone (g : Nat) (w w' : World) : Prop where
  os : w'.os = w.os
  tape : w'.tape = w.tape
  output : w'.output = w.output
  size : w.heap.size ≤ w'.heap.size
  block : ∀ k, k < w.heap.size → k ≠ g → w'.heap[k]? = w.heap[k]?
theorem Lone.of_below {g : Nat} {w w' : World} (h : Below w.heap.size w w') : Lone g w w' := ⟨h.os, h.tape, h.output, h.size, fun k hk _ => h.block k hk⟩
theorem Lone.trans {g : Nat} {a b c : World} (h : Lone g a b) (k : Lone g b c) : Lone g a c :=
  ⟨k.os.trans h.os, k.tape.trans h.tape, k.output.trans h.output, Nat.le_trans h.size k.size, fun i hi h1 => (k.block i (Nat.lt_of_lt_of_le hi h.size) h1).trans (h.block i hi h1)⟩
theorem Lone.of_setRow {g : Nat} (w : World) (C : Array Value) : Lone g w (w.setRow g C) := ⟨rfl, rfl, rfl, by simp [World.setRow], fun k _ h2 => setRow_other w g k C h2⟩
theorem Lone.to_below {g B : Nat} {w w' : World} (h : Lone g w w') (h1 : B ≤ g) (hB : B ≤ w.heap.size) : Below B w w' := ⟨h.os, h.tape, h.output, h.size, fun k hk => h.block k (by omega) (by omega)⟩
theorem Row.lone {w w' : World} {g k : Nat} {C : Array Value} {t : TypeId} (h : Row w k C t) (hl : Lone g w w') (hk : k ≠ g) : Row w' k C t := (hl.block k h.lt hk).trans h

/-- Bytes of their own, of which one sector is written over. -/
theorem owns_over {w : World} {base g1 c1 s n : Nat} {F f : Nat → Int} (h : w.ownsRow base 5 1 (.slice (some ⟨g1, 0, none⟩) (s * 256) c1) (s * 256) (byts F (s * 256))) (hn : n < s) (cur : Array Value) (hr : Row w g1 cur 5) :
    (w.setRow g1 (cur.toList.take (n * 256) ++ byts f 256 ++ cur.toList.drop (n * 256 + 256)).toArray).ownsRow base 5 1 (.slice (some ⟨g1, 0, none⟩) (s * 256) c1) (s * 256) (byts (over F n f) (s * 256)) := by
  obtain ⟨h1, _, h3, h4, cur', hr', hs, ht⟩ := ownsRow_slice h
  obtain rfl : cur' = cur := by have := hr'.symm.trans hr; simpa using this
  have hs' : cur'.size = c1 := by omega
  refine ⟨by simp [byts_len], .inr ⟨g1, c1, _, rfl, h1, hr.setRow, h3, h4, ?_, ?_⟩⟩
  · simp [byts_len]
    omega
  · show ((cur'.toList.take (n * 256) ++ byts f 256 ++ cur'.toList.drop (n * 256 + 256)).toArray.toList).take (s * 256 * 1) = _
    rw [Nat.mul_one]
    exact over_take cur' F f s n c1 hs' h3 hn (by rw [Nat.mul_one] at ht; exact ht)
end Go.Proofs.Ytlbapnecmhlgmaa
namespace Go.Proofs.Ytlbapnecmhlgmaa
open Go.RowKit

set_option maxRecDepth 20000 in
set_option maxHeartbeats 2000000 in
theorem redo_any {w : World} {base gF cF s : Nat} {F : Nat → Int} (e : Ev) (he : e.ok s) (hown : w.ownsRow base 5 1 (.slice (some ⟨gF, 0, none⟩) (s * 256) cF) (s * 256) (byts F (s * 256))) :
    Calls Try.prog 55 #[.agg (evA e), .slice (some ⟨gF, 0, none⟩) (s * 256) cF] w fun r w' => (∃ v, r = .returned v) ∧ w'.ownsRow base 5 1 (.slice (some ⟨gF, 0, none⟩) (s * 256) cF) (s * 256) (byts (redoF e F) (s * 256)) ∧ Lone gF w w' := by
  obtain ⟨hge, _, hmc, hc63, cur, hrF, hsz, _⟩ := ownsRow_slice hown
  have hgF : gF < w.heap.size := hrF.lt
  have hel := info65c e
  have heq := eq_ev e he
  have hA : evA e = e.cells.toArray := rfl
  have HA : Hid _ := hA
  have hAn : (evA e)[0]? = some (.int .i64 e.n) := rfl
  have hAb : ∀ i, i < 256 → (evA e)[1 + i]? = some (.int .u8 (e.f i)) := fun i hi => by
    rw [hA, Nat.add_comm]
    simp [Ev.cells, byts_at _ _ _ hi]
  have HAb : Hid _ := hAb
  have hok := he.2
  have HOK : Hid _ := hok
  have HO : Hid _ := hown
  have hfl : redoF e F = if e.isFl then F else over F e.n.toNat e.f := rfl
  have HFL : Hid _ := hfl
  have hfn : e.isFl = false → 0 ≤ e.n ∧ e.n < s := fun h => hok.resolve_left (fun hh => by rw [hh] at h; simp [Ev.isFl, flushEv] at h)
  have HFN : Hid _ := hfn
  generalize hm : s * 256 = m at *
  have HM : Hid _ := hm
  have hRow := Row.new w (evA e) 95
  have hb1 : Below w.heap.size w (w.alloc (.cells (evA e) 95)) := (Below.refl _ _).alloc (Nat.le_refl _) _
  have hW : ∀ wx, Row wx w.heap.size (evA e) 95 ∧ Below w.heap.size w wx → wx.rangeAt w.heap.size 0 e.cells := fun wx hx j v hj => by
    rw [Nat.zero_add, hx.1.cell, hA]
    simpa using hj
  have HW : Hid _ := hW
  generalize hAA : evA e = A at *
  generalize e.isFl = fl at *
  clear hA hAb hok hown hfl hfn hm he hW hsz
  rw [show A = e.cells.toArray from HA.out] at heq
  go_enter Try.func55, Try.ntmps55
  go_wp2_with fail
  refine wp_region_permA [(false, 0), (true, 1), (false, 2)] (fun wx => Row wx w.heap.size A 95 ∧ Below w.heap.size w wx) (by kernel_rfl) (by kernel_rfl) ⟨hRow, hb1.drew⟩ ?_
  refine a_load_mid (some 4) 95 _ rfl rfl rfl (by rfl) w.heap.size 0 rfl e.cells _ HW.out Try.underlying95 rfl hel ?_
  simp only [Act.put, List.setIfInBounds_toArray, List.set_cons_zero, List.set_cons_succ]
  refine a_call (some 5) rfl rfl (by rfl) 58 #[] (by go_simp) ((flush_any _).mono fun r w' ⟨he, hw'⟩ => ⟨_, he, by rw [hw']; exact ⟨hRow.drew.alloc _, hb1.drew.alloc (by simp) _⟩, ?_⟩)
  subst hw'
  simp only [Act.put, List.setIfInBounds_toArray, List.set_cons_zero, List.set_cons_succ]
  refine a_value (some 6) ?_ rfl rfl (by rfl) (fun w hw => ?_) ?_
  rotate_left
  · go_simp
    with_reducible rfl
  simp only [Act.put, List.setIfInBounds_toArray, List.set_cons_zero, List.set_cons_succ]
  refine a_done ?_
  simp only [Exit.then]
  have hR2 : Row ((w.alloc (.cells A 95)).drew.alloc (.cells (evA flushEv) 95)) w.heap.size A 95 := hRow.drew.alloc _
  have hb2 : Below w.heap.size w ((w.alloc (.cells A 95)).drew.alloc (.cells (evA flushEv) 95)) := hb1.drew.alloc (by simp) _
  generalize (w.alloc (.cells A 95)).drew.alloc (.cells (evA flushEv) 95) = W at *
  clear hRow hb1 heq
  have hrFW : Row W gF cur 5 := hrF.below hb2 hgF
  cases fl with
  | true =>
    go_wp2
    go_end0
    refine ⟨⟨_, rfl⟩, ?_, Lone.of_below hb2⟩
    rw [HFL.out]
    exact ownsRow_below HO.out hb2
  | false =>
    obtain ⟨hn0, hns⟩ := HFN.out rfl
    obtain ⟨n, hn⟩ : ∃ n : Nat, e.n = n := ⟨e.n.toNat, by omega⟩
    rw [hn] at hAn
    have hns' : n < s := by omega
    have hM := HM.out
    have HS := sectorOf_any gF m n cF W (by omega) hmc hc63
    have hlen256 := byts_len e.f 256
    have hcs : cF = cur.size := by
      obtain ⟨_, _, _, _, cur', hr', hs', _⟩ := ownsRow_slice HO.out
      have : cur' = cur := by have := hr'.symm.trans hrF; simpa using this
      subst this
      omega
    have hcp := run_copy_row (P := Try.prog) W.drew 40 40 3 5 gF (n * 256) 256 256 ⟨w.heap.size, 1, none⟩ 256 256 cur 5 (byts e.f 256) Try.underlying40 info5s hrFW (by rw [hlen256]; rfl) (fun j v hj => by
      have hj' : j < 256 := by rw [← hlen256]; exact (List.getElem?_eq_some_iff.1 hj).1
      rw [Addr.add_mid, (Row.cell (w := W.drew) hR2), HAb.out j hj', ← hj, byts_at _ _ _ hj']) (by rw [hlen256]; omega) (byts_one _ _)
    rw [hlen256] at hcp
    have hfin : (W.drew.setRow gF (cur.toList.take (n * 256) ++ byts e.f 256 ++ cur.toList.drop (n * 256 + 256)).toArray).ownsRow base 5 1 (.slice (some ⟨gF, 0, none⟩) (s * 256) cF) (s * 256) (byts (over F n e.f) (s * 256)) :=
      owns_over (w := W.drew) (by have h := ownsRow_below HO.out hb2; rw [← hM] at h; exact h) hns' cur hrFW
    rw [hM] at hfin
    have HFIN : Hid _ := hfin
    have hl2 : Lone gF w (W.drew.setRow gF (cur.toList.take (n * 256) ++ byts e.f 256 ++ cur.toList.drop (n * 256 + 256)).toArray) := (Lone.of_below hb2.drew).trans (Lone.of_setRow _ _)
    generalize (cur.toList.take (n * 256) ++ byts e.f 256 ++ cur.toList.drop (n * 256 + 256)).toArray = C' at *
    have hS3 : Row (W.drew.setRow gF C') w.heap.size A 95 := Row.other (w := W.drew) hR2 (by omega)
    have HSd := sectorOf_any gF m n cF W.drew (by omega) hmc hc63
    have c0 : ∀ wx, Row wx w.heap.size A 95 → wx.cell? ⟨w.heap.size, 0, none⟩ = some (.int .i64 n) := fun wx hx => (hx.cell 0).trans hAn
    clear hfin hlen256 HS hcs hM hns' hn0 hns hrFW hrF HAb
    go_wp2_with fail
    refine wp_region_permA [(false, 0), (false, 1), (false, 2), (false, 4), (false, 5), (true, 3), (true, 6)] (fun wx => Row wx w.heap.size A 95) (by kernel_rfl) (by kernel_rfl) hR2 ?_
    refine a_move (some 7) _ rfl rfl rfl (by rfl) ?_
    simp only [Act.put, List.setIfInBounds_toArray, List.set_cons_zero, List.set_cons_succ]
    refine a_value (some 8) ?_ rfl rfl (by rfl) (fun w hw => ?_) ?_
    rotate_left
    · go_simp
      with_reducible rfl
    simp only [Act.put, List.setIfInBounds_toArray, List.set_cons_zero, List.set_cons_succ]
    refine a_value (some 9) ?_ rfl rfl (by rfl) (fun w hw => ?_) ?_
    rotate_left
    · have hc0 := c0 _ hw
      go_simp
      with_reducible rfl
    simp only [Act.put, List.setIfInBounds_toArray, List.set_cons_zero, List.set_cons_succ]
    refine a_value (some 11) ?_ rfl rfl (by rfl) (fun w hw => ?_) ?_
    rotate_left
    · go_simp
      with_reducible rfl
    simp only [Act.put, List.setIfInBounds_toArray, List.set_cons_zero, List.set_cons_succ]
    refine a_value (some 12) ?_ rfl rfl (by rfl) (fun w hw => ?_) ?_
    rotate_left
    · go_simp
      with_reducible rfl
    simp only [Act.put, List.setIfInBounds_toArray, List.set_cons_zero, List.set_cons_succ]
    refine a_call (some 10) rfl rfl (by rfl) 48 #[.slice (some ⟨gF, 0, none⟩) m cF, .int .i64 n] (by go_simp) (HSd.mono fun r w' ⟨he, hw'⟩ => ⟨_, he, by rw [hw']; exact hR2, ?_⟩)
    subst hw'
    simp only [Act.put, List.setIfInBounds_toArray, List.set_cons_zero, List.set_cons_succ]
    refine a_alone (some 13) (goInt 256) (W.drew.setRow gF C') rfl rfl (by rfl) (by go_simp) hS3 ?_
    simp only [Act.put, List.setIfInBounds_toArray, List.set_cons_zero, List.set_cons_succ]
    refine a_done ?_
    go_end0
    refine ⟨⟨_, rfl⟩, ?_, hl2⟩
    have e1 : redoF e F = over F n e.f := by rw [HFL.out, hn]; simp
    rw [e1]
    exact HFIN.out
end Go.Proofs.Ytlbapnecmhlgmaa
