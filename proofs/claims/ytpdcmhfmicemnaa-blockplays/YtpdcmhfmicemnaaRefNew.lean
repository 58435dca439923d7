/- The walk of the document's own New. -/
import Derived.Test.YtpdcmhfmicemnaaRefWrite2
import Derived.Test.YtpdcmhfmicemnaaApart
namespace Go.Proofs.Ytpdcmhfmicemnaa
open Go.RowKit

theorem Try.info9 : (Try.prog.info? 9).map (fun i => (i.zero, i.size, i.bytes)) = some (some (.string ⟨#[]⟩), 1, 16) := by kernel_rfl
/-- The text of a sector of noughts. -/
def zText : ByteArray := sStr fun _ => 0

theorem refNew_bad (s : Int) (w : World) (h : s < 1 ∨ 2048 < s) : Calls Try.prog 8 #[.int .i64 s] w fun e w' => e = .returned (.tuple #[.pointer none, .int .i64 2]) ∧ w' = w := by
  by_cases h1 : s < 1
  · clear h
    go_enter Try.func8, Try.ntmps8
    go_wp2
    go_ret2
    exact ⟨rfl, rfl⟩
  · have h2 : 2048 < s := by omega
    clear h
    go_enter Try.func8, Try.ntmps8
    go_wp2
    go_ret2
    exact ⟨rfl, rfl⟩

set_option maxRecDepth 20000 in
set_option maxHeartbeats 4000000 in
theorem refNew_ok (s : Nat) (w : World) (h0 : 1 ≤ s) (h1 : s ≤ 2048) :
    Calls Try.prog 8 #[.int .i64 s] w fun e w' => ∃ g fv, e = .returned (.tuple #[.pointer (some ⟨g, 0, none⟩), .int .i64 0]) ∧ RefAt w' w.heap.size g fv (.slice none 0 0) ⟨List.replicate s zText, []⟩ ∧ Below w.heap.size w w' := by
  obtain ⟨i0, hi, hz0, hz1, hz2⟩ := info_parts Try.info9
  have hmk := fun w => run_make_row' (P := Try.prog) 31 5 (.int .u8 0) 1 Try.underlying31 Try.info5 rfl .i64 .i64 256 (by omega) (by omega) w
  simp only [show ((256 : Nat) : Int) = 256 from rfl] at hmk
  have hZb := made_byts 256
  generalize madeCells #[.int .u8 0] 256 = Z at *
  have HZb : Hid _ := hZb
  obtain ⟨z, hz⟩ : ∃ z, zText = z := ⟨_, rfl⟩
  rw [hz]
  have HZ : Hid _ := hz
  clear hZb hz
  go_enter Try.func8, Try.ntmps8
  go_wp2
  go_loopw [5] (fun iv wr => ∃ (k : Nat) (fv : Value), k ≤ s ∧ iv = .int .i64 k ∧ Hid (Row wr w.heap.size #[fv, .slice none 0 0] 60) ∧ Hid (wr.ownsRow w.heap.size 9 1 fv k (List.replicate k (.string z))) ∧ Below w.heap.size w wr) (fun iv _ => s - (intOf iv).toNat)
  case atStart => exact ⟨0, .slice none 0 0, Nat.zero_le _, rfl, Row.new w _ 60, World.ownsRow_nil _ _ _ _, (Below.refl _ _).alloc (Nat.le_refl _) _⟩
  case round =>
    obtain ⟨k, fv, hk, rfl, hR, hF, hb⟩ := hrel
    have hsz := hb.size
    by_cases hlt : k < s
    · have hR0 : Row wr w.heap.size #[fv, .slice none 0 0] 60 := hR
      have hF0 : wr.ownsRow w.heap.size 9 1 fv k (List.replicate k (.string z)) := hF
      have hRd : Row wr.drew w.heap.size #[fv, .slice none 0 0] 60 := hR0
      go_wp2_with fail
      refine wp_region_perm [(false, 0), (false, 1), (false, 2), (false, 3), (false, 4), (true, 5), (true, 6), (true, 7), (true, 8), (true, 9), (true, 10), (true, 11)] (fun wx => Row wx w.heap.size #[fv, .slice none 0 0] 60) (by kernel_rfl) (by kernel_rfl) hRd ?_
      refine p_move (some 19) _ rfl rfl rfl (by rfl) ?_
      simp only [Act.put, List.setIfInBounds_toArray, List.set_cons_zero, List.set_cons_succ]
      refine p_move (some 20) _ rfl rfl rfl (by rfl) ?_
      simp only [Act.put, List.setIfInBounds_toArray, List.set_cons_zero, List.set_cons_succ]
      refine p_value (some 21) ?_ rfl rfl (by rfl) (fun w hw => ?_) ?_
      rotate_left
      · go_simp
        with_reducible rfl
      simp only [Act.put, List.setIfInBounds_toArray, List.set_cons_zero, List.set_cons_succ]
      refine p_value (some 22) ?_ rfl rfl (by rfl) (fun w hw => ?_) ?_
      rotate_left
      · go_simp
        with_reducible rfl
      simp only [Act.put, List.setIfInBounds_toArray, List.set_cons_zero, List.set_cons_succ]
      refine p_value (some 23) ?_ rfl rfl (by rfl) (fun w hw => ?_) ?_
      rotate_left
      · have hc := (hw.cell 0).trans (rfl : _ = some fv)
        go_simp
        with_reducible rfl
      simp only [Act.put, List.setIfInBounds_toArray, List.set_cons_zero, List.set_cons_succ]
      refine p_alone (some 24) (.slice (some ⟨wr.drew.heap.size, 0, none⟩) 256 256) (wr.drew.alloc (.cells Z 5)) rfl rfl (by rfl) (by have hm0 := hmk wr.drew; go_simp) (fun _ => hRd.alloc _) ?_
      simp only [Act.put, List.setIfInBounds_toArray, List.set_cons_zero, List.set_cons_succ]
      have hcv : (convert 31 9 (.slice (some ⟨wr.drew.heap.size, 0, none⟩) 256 256)).run Try.prog (wr.drew.alloc (.cells Z 5)) = .ok (.string z) (wr.drew.alloc (.cells Z 5)) := by
        rw [← show zText = z from HZ.out]
        exact conv256 (wr.drew.alloc (.cells Z 5)) wr.drew.heap.size 0 256 (fun _ => 0) (fun i hi => by rw [Nat.zero_add, (Row.new wr.drew Z 5).cell i, ← Array.getElem?_toList, show Z.toList = _ from HZb.out, byts_at _ _ _ hi])
      have hR1 : Row (wr.drew.alloc (.cells Z 5)) w.heap.size #[fv, .slice none 0 0] 60 := hRd.alloc _
      have hF1 : (wr.drew.alloc (.cells Z 5)).ownsRow w.heap.size 9 1 fv k (List.replicate k (.string z)) := ownsRow_below hF0 (((Below.refl _ _).drew).alloc (Nat.le_refl _) _)
      have hb1 : Below w.heap.size w (wr.drew.alloc (.cells Z 5)) := hb.drew.alloc hsz _
      generalize wr.drew.alloc (.cells Z 5) = W1 at *
      generalize wr.drew.heap.size = q1 at *
      refine p_alone (some 25) (.string z) W1 rfl rfl (by rfl) (by go_simp) (fun _ => hR1) ?_
      simp only [Act.put, List.setIfInBounds_toArray, List.set_cons_zero, List.set_cons_succ]
      refine p_alone (some 26) (.slice (some ⟨W1.heap.size, 0, none⟩) 1 1) (W1.alloc (.cells #[.string z] 9)) rfl rfl (by rfl) (by go_simp) (fun _ => hR1.alloc _) ?_
      simp only [Act.put, List.setIfInBounds_toArray, List.set_cons_zero, List.set_cons_succ]
      have hF2 := hF1.alloc (.cells #[.string z] 9)
      have hs1 := hb1.size
      refine p_wp rfl (by rfl) ?_
      refine wp_append_own_wide _ (.tmp 23) (.tmp 26) 51 rfl w.heap.size 9 i0 (.string ⟨#[]⟩) 1 16 Try.underlying51 hi hz0 hz1 hz2 rfl (by decide) fv k _ rfl hF2 _ 1 1 [.string z] rfl rfl (cell_one_new _ _ _) (fun u hu => by simp at hu; subst hu; rfl) (by unfold maxLen; omega) (by omega) (by simp; omega) ?_
      intro fv' w3 hown hgr _
      have hR3 : Row w3 w.heap.size #[fv, .slice none 0 0] 60 := (row_grown hF2 hgr (hR1.alloc _) (by decide)).trans (hR1.alloc _)
      have hb3 : Below w.heap.size w w3 := own_grown hF2 (hb1.alloc hs1 _) (by simp; omega) hgr
      have hrep : List.replicate k (Value.string z) ++ [.string z] = List.replicate (k + 1) (.string z) := by rw [List.replicate_succ']
      rw [hrep] at hown
      refine ⟨fun _ => hR3, ?_⟩
      show wpPerm _ _ _ _ _ (Act.put _ (some 27) fv') w3
      have hR4 : Row (w3.setCell ⟨w.heap.size, 0, none⟩ fv') w.heap.size #[fv', .slice none 0 0] 60 := (hR3.setCell (i := 0) fv').trans (by simp)
      have hF4 : (w3.setCell ⟨w.heap.size, 0, none⟩ fv').ownsRow w.heap.size 9 1 fv' (k + 1) (List.replicate (k + 1) (.string z)) := ownsRow_keep hown fun q hq _ => by
        obtain ⟨_, _, cur, hr⟩ := ownsRow_lt hown q hq
        exact Below.heap_setCell _ _ _ _ (row_ne hr hR3 (by decide))
      have hb4 : Below w.heap.size w (w3.setCell ⟨w.heap.size, 0, none⟩ fv') := hb3.setCell (Nat.le_refl _) _
      obtain ⟨xv, cv, rfl, _⟩ := own_slice hown
      have hcell := (hR3.cell 0).trans (rfl : _ = some fv)
      have hfz := hR3.frozen 0
      have HR4 : Hid _ := hR4
      have HF4 : Hid _ := hF4
      clear hR4 hF4 hown hgr hF2 hF1 hrep hcv hmk
      simp only [Act.put, List.setIfInBounds_toArray, List.set_cons_zero, List.set_cons_succ]
      refine p_alone (some 28) (.pointer (some ⟨w.heap.size, 0, none⟩)) w3 rfl rfl (by rfl) (by go_simp) (fun _ => hR3) ?_
      simp only [Act.put, List.setIfInBounds_toArray, List.set_cons_zero, List.set_cons_succ]
      refine p_alone (some 29) (.pointer (some ⟨w.heap.size, 0, none⟩)) w3 rfl rfl (by rfl) (by go_simp) (fun _ => hR3) ?_
      simp only [Act.put, List.setIfInBounds_toArray, List.set_cons_zero, List.set_cons_succ]
      refine p_store (w3.setCell ⟨w.heap.size, 0, none⟩ (.slice xv (k + 1) cv)) rfl rfl (by rfl) (by go_simp) (fun h => absurd rfl h) ?_
      refine p_done ?_
      go_wp2
      go_roundw
      case rel => exact ⟨k + 1, _, by omega, by go_num, HR4, HF4, hb4⟩
      case measure => simp [intOf]; omega
    · have hks : s = k := by omega
      subst hks
      go_wp2
      go_ret2
      refine ⟨w.heap.size, fv, rfl, ⟨hR, ?_, World.ownsRow_nil _ _ _ _, Nat.le_refl _⟩, hb⟩
      show World.ownsRow _ _ _ _ _ (List.replicate s z).length ((List.replicate s z).map Value.string)
      rw [List.length_replicate, List.map_replicate]
      exact hF
end Go.Proofs.Ytpdcmhfmicemnaa
