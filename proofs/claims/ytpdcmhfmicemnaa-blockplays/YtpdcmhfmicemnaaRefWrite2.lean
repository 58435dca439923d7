/- The walk of the document's own Write. -/
import Derived.Test.YtpdcmhfmicemnaaRefWrite
namespace Go.Proofs.Ytpdcmhfmicemnaa
open Go.RowKit

theorem one_ref (n : Int) (t : ByteArray) (w : World) : (Instr.buildSlice 58 1 #[(0, .agg #[.int .i64 n, .string t])]).run Try.prog w = .ok (.slice (some ⟨w.heap.size, 0, none⟩) 1 1) (w.alloc (.cells #[.int .i64 n, .string t] 67)) := by
  obtain ⟨i0, hi, hz0, hz1, _⟩ := info_parts Try.info67
  refine run_buildSlice w 58 67 1 _ _ i0 _ Try.underlying58 hi hz0 (by rw [hz1]; decide) (by rw [hz1]; decide) ?_
  have h := Go.Great.fill_whole (s := 2) (by decide) [.agg #[.int .i64 n, .string t]] ((Array.range (1 * i0.size)).map ((Value.agg #[.int .i64 0, .string ⟨#[]⟩]).cells[· % (Value.agg #[.int .i64 0, .string ⟨#[]⟩]).cells.size]!)) (fun v hv => by simp at hv; subst hv; rfl) (by simp [hz1])
  rw [hz1] at h ⊢
  simpa [Value.cells] using h

set_option maxRecDepth 20000 in
set_option maxHeartbeats 2000000 in
theorem refWrite_ok {w : World} {base g : Nat} {fv lv : Value} {R : Rk} (h : RefAt w base g fv lv R) (hbase : base ≤ w.heap.size) (hL : R.L.length ≤ 1000000) (n : Nat) (hn : n < R.F.length) (b off cap : Nat) (f : Nat → Int) (src : Array Value) (hsrc : Row w b src 5) (hcs : ∀ i, i < 256 → src[off + i]? = some (.int .u8 (f i))) :
    Calls Try.prog 12 #[.pointer (some ⟨g, 0, none⟩), .int .i64 n, .slice (some ⟨b, off, none⟩) 256 cap] w fun e w' => e = .returned (.int .i64 0) ∧ ∃ lv', RefAt w' base g fv lv' { R with L := R.L ++ [⟨n, sStr f⟩] } ∧ ChgR g lv w w' := by
  have H := refHas_any h n
  rw [show decide (0 ≤ (n : Int) ∧ (n : Int) < R.F.length) = true by simp; omega] at H
  have HR : Hid _ := h
  have HE : Hid _ := h.evs
  have hrow := h.row
  have HC : Hid _ := hcs
  obtain ⟨i0, hi, hz0, hz1, hz2⟩ := info_parts Try.info67
  obtain ⟨T, hT⟩ : ∃ T, sStr f = T := ⟨_, rfl⟩
  rw [hT]
  have HT : Hid _ := hT
  have HL : Hid _ := hL
  clear h hcs hn hT hL
  go_enter Try.func12, Try.ntmps12
  go_wp2_with fail
  refine H.mono ?_
  rintro e w' ⟨rfl, hw'⟩
  subst w'
  clear H
  go_wp2_with fail
  have hS : Row w.drew g #[fv, lv] 60 ∧ Row w.drew b src 5 := ⟨hrow, hsrc⟩
  refine wp_region_perm [(false, 0), (false, 1), (false, 2), (false, 3), (false, 4), (false, 5), (false, 6), (false, 7), (false, 8), (true, 9), (true, 10), (true, 11), (true, 12), (true, 13)] (fun wx => Row wx g #[fv, lv] 60 ∧ Row wx b src 5) (by kernel_rfl) (by kernel_rfl) hS ?_
  refine p_move (some 16) _ rfl rfl rfl (by rfl) ?_
  simp only [Act.put, List.setIfInBounds_toArray, List.set_cons_zero, List.set_cons_succ]
  refine p_move (some 17) _ rfl rfl rfl (by rfl) ?_
  simp only [Act.put, List.setIfInBounds_toArray, List.set_cons_zero, List.set_cons_succ]
  refine p_value (some 18) ?_ rfl rfl (by rfl) (fun w hw => ?_) ?_
  rotate_left
  · go_simp
    with_reducible rfl
  simp only [Act.put, List.setIfInBounds_toArray, List.set_cons_zero, List.set_cons_succ]
  refine p_value (some 19) ?_ rfl rfl (by rfl) (fun w hw => ?_) ?_
  rotate_left
  · go_simp
    with_reducible rfl
  simp only [Act.put, List.setIfInBounds_toArray, List.set_cons_zero, List.set_cons_succ]
  refine p_value (some 20) ?_ rfl rfl (by rfl) (fun w hw => ?_) ?_
  rotate_left
  · have hc := (hw.1.cell 1).trans (rfl : _ = some lv)
    go_simp
    with_reducible rfl
  simp only [Act.put, List.setIfInBounds_toArray, List.set_cons_zero, List.set_cons_succ]
  refine p_move (some 21) _ rfl rfl rfl (by rfl) ?_
  simp only [Act.put, List.setIfInBounds_toArray, List.set_cons_zero, List.set_cons_succ]
  refine p_move (some 22) _ rfl rfl rfl (by rfl) ?_
  simp only [Act.put, List.setIfInBounds_toArray, List.set_cons_zero, List.set_cons_succ]
  refine p_value (some 23) ?_ rfl rfl (by rfl) (fun w hw => ?_) ?_
  rotate_left
  · have hcv : (convert 31 9 (.slice (some ⟨b, off, none⟩) 256 cap)).run Try.prog w = .ok (.string T) w := by rw [← HT.out]; exact conv256 w b off cap f (fun i hi => by rw [hw.2.cell]; exact HC.out i hi)
    go_simp
    with_reducible rfl
  simp only [Act.put, List.setIfInBounds_toArray, List.set_cons_zero, List.set_cons_succ]
  refine p_value (some 24) ?_ rfl rfl (by rfl) (fun w hw => ?_) ?_
  rotate_left
  · go_simp
    with_reducible rfl
  simp only [Act.put, List.setIfInBounds_toArray, List.set_cons_zero, List.set_cons_succ]
  refine p_buildSlice (some 25) 58 1 _ #[(0, .agg #[.int .i64 n, .string T])] _ _ rfl rfl rfl (by rfl) (by simp only [List.map_toArray, List.map_cons, List.map_nil]; rfl) (one_ref n T _) (fun _ => ⟨hS.1.alloc _, hS.2.alloc _⟩) ?_
  simp only [Act.put, List.setIfInBounds_toArray, List.set_cons_zero, List.set_cons_succ]
  have hb1 : Below w.heap.size w (w.drew.alloc (.cells #[.int .i64 n, .string T] 67)) := ((Below.refl _ _).drew).alloc (Nat.le_refl _) _
  have hev1 : (w.drew.alloc (.cells #[.int .i64 n, .string T] 67)).ownsRow base 67 2 lv R.L.length (rvCells R.L) := ownsRow_below HE.out hb1
  have hnew : ∀ j u, (Rv.cells ⟨n, T⟩)[j]? = some u → (w.drew.alloc (.cells #[.int .i64 n, .string T] 67)).cell? ((⟨w.drew.heap.size, 0, none⟩ : Addr).add j) = some u := fun j u hj => by
    rw [Addr.add_mid, Nat.zero_add, (Row.new w.drew #[.int .i64 n, .string T] 67).cell j]
    simpa [Rv.cells] using hj
  refine p_wp rfl (by rfl) ?_
  refine wp_append_own_wide _ (.tmp 20) (.tmp 25) 58 rfl base 67 i0 _ 2 24 Try.underlying58 hi hz0 hz1 hz2 rfl (by decide) lv R.L.length (rvCells R.L) rfl hev1 _ 1 1 (Rv.cells ⟨n, T⟩) rfl rfl hnew (fun u hu => by simp [Rv.cells] at hu; rcases hu with rfl | rfl <;> rfl) (by have := HL.out; unfold maxLen; omega) (by have := HL.out; omega) (by simp; omega) ?_
  intro lv' w3 hown hgr _
  have hc3 : ChgR w.heap.size lv w w3 := (ChgR.of_below hb1).trans (ChgR.of_grown hgr)
  have hc3' : ChgR g lv w w3 := (ChgR.of_below hb1).trans (ChgR.of_grown hgr)
  have hgev : lv.ownBlock ≠ some g := fun hq => by
    obtain ⟨_, _, cur', hr⟩ := ownsRow_lt HE.out g hq
    have := hr.symm.trans hrow
    simp at this
  have hbev : lv.ownBlock ≠ some b := fun hq => by
    obtain ⟨_, _, cur', hr⟩ := ownsRow_lt HE.out b hq
    have := hr.symm.trans hsrc
    simp at this
  have hR3 : Row w3 g #[fv, lv] 60 := (hc3.block g hrow.lt (by have := hrow.lt; omega) hgev).trans hrow
  have hS3 : Row w3 b src 5 := (hc3.block b hsrc.lt (by have := hsrc.lt; omega) hbev).trans hsrc
  refine ⟨fun _ => ⟨hR3, hS3⟩, ?_⟩
  show wpPerm _ _ _ _ _ (Act.put _ (some 26) lv') w3
  have hfin := HR.out.more ⟨n, T⟩ hc3 hown
  have HFN : Hid _ := hfin
  obtain ⟨xv, cv, rfl, _⟩ := own_slice hown
  have hcell := (hR3.cell 1).trans (rfl : _ = some lv)
  have hfz := hR3.frozen 1
  clear hfin hown hgr hc3 hev1 hnew hb1
  simp only [Act.put, List.setIfInBounds_toArray, List.set_cons_zero, List.set_cons_succ]
  refine p_alone (some 27) (.pointer (some ⟨g, 0, none⟩)) w3 rfl rfl (by rfl) (by go_simp) (fun _ => ⟨hR3, hS3⟩) ?_
  simp only [Act.put, List.setIfInBounds_toArray, List.set_cons_zero, List.set_cons_succ]
  refine p_alone (some 28) (.pointer (some ⟨g, 1, none⟩)) w3 rfl rfl (by rfl) (by go_simp) (fun _ => ⟨hR3, hS3⟩) ?_
  simp only [Act.put, List.setIfInBounds_toArray, List.set_cons_zero, List.set_cons_succ]
  refine p_store (w3.setCell ⟨g, 1, none⟩ (.slice xv (R.L.length + 1) cv)) rfl rfl (by rfl) (by go_simp) (fun h => absurd rfl h) ?_
  refine p_done ?_
  simp only [Exit.then]
  go_wp2
  go_ret
  exact ⟨rfl, _, HFN.out, hc3'.trans (ChgR.of_setCell _ _ _)⟩
end Go.Proofs.Ytpdcmhfmicemnaa
