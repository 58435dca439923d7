/- The walk of same: the program's disk and the document's tell the same sectors. -/
import Derived.Test.YtpdcmhfmicemnaaTwin
namespace Go.Proofs.Ytpdcmhfmicemnaa
open Go.RowKit

/-- Both disks in memory. -/
structure Two (w : World) (base g g1 c1 g2 c2 : Nat) (ev : Value) (D : Dk) (gr : Nat) (fv lv : Value) (R : Rk) : Prop where
  d : DiskAt w base g g1 c1 g2 c2 ev D
  r : RefAt w base gr fv lv R
theorem Two.below {w w' : World} {base g g1 c1 g2 c2 : Nat} {ev : Value} {D : Dk} {gr : Nat} {fv lv : Value} {R : Rk} (h : Two w base g g1 c1 g2 c2 ev D gr fv lv R) (hb : Below w.heap.size w w') : Two w' base g g1 c1 g2 c2 ev D gr fv lv R :=
  ⟨h.d.below hb (Nat.le_refl _), h.r.below hb⟩

set_option maxRecDepth 20000 in
set_option maxHeartbeats 4000000 in
theorem same_ok {w : World} {base g g1 c1 g2 c2 : Nat} {ev : Value} {D : Dk} {gr : Nat} {fv lv : Value} {R : Rk} (h : Two w base g g1 c1 g2 c2 ev D gr fv lv R) (ht : Twin D R) (hE : D.E.length ≤ 1000000) :
    Calls Try.prog 17 #[.pointer (some ⟨g, 0, none⟩), .pointer (some ⟨gr, 0, none⟩)] w fun e w' => e = .returned (.bool true) ∧ Below w.heap.size w w' := by
  have H1 := sectors_yes g g2 D.s c2 w.drew h.d.cell1 h.d.ok.lo h.d.ok.hi
  have H2 : Calls Try.prog 20 #[.pointer (some ⟨g, 0, none⟩)] w.drew fun e w' => e = .returned (.int .i64 D.E.length) ∧ w' = w.drew := events_yes (h.d.below (Below.refl _ _).drew (Nat.le_refl _))
  have hll := ht.llen
  have hfl := ht.len
  obtain ⟨la, lc, rfl, _⟩ := own_slice h.r.evs
  obtain ⟨fa, fc, rfl, _⟩ := own_slice h.r.first
  rw [hll, hfl] at *
  have hlo := h.d.ok.lo
  have hhi := h.d.ok.hi
  have r0 : ∀ wx, Row wx gr #[.slice fa D.s fc, .slice la D.E.length lc] 60 → wx.cell? ⟨gr, 0, none⟩ = some (.slice fa D.s fc) := fun wx hx => (hx.cell 0).trans rfl
  have r1 : ∀ wx, Row wx gr #[.slice fa D.s fc, .slice la D.E.length lc] 60 → wx.cell? ⟨gr, 1, none⟩ = some (.slice la D.E.length lc) := fun wx hx => (hx.cell 1).trans rfl
  have hrow : Row w.drew gr #[.slice fa D.s fc, .slice la D.E.length lc] 60 := h.r.row
  have HH : Hid _ := h
  have HT : Hid _ := ht
  clear h ht hll hfl
  go_enter Try.func17, Try.ntmps17
  go_wp2_with fail
  refine wp_region_permA [(false, 0), (false, 2), (false, 3), (false, 4), (false, 5), (false, 6), (true, 1), (false, 7), (false, 8), (false, 9), (false, 11), (false, 12), (false, 13), (false, 14), (false, 15), (true, 10), (false, 16), (false, 17)] (fun wx => Row wx gr #[.slice fa D.s fc, .slice la D.E.length lc] 60) (by kernel_rfl) (by kernel_rfl) hrow ?_
  refine a_move (some 11) _ rfl rfl rfl (by rfl) ?_
  simp only [Act.put, List.setIfInBounds_toArray, List.set_cons_zero, List.set_cons_succ]
  refine a_move (some 13) _ rfl rfl rfl (by rfl) ?_
  simp only [Act.put, List.setIfInBounds_toArray, List.set_cons_zero, List.set_cons_succ]
  refine a_value (some 14) ?_ rfl rfl (by rfl) (fun w hw => ?_) ?_
  rotate_left
  · go_simp
    with_reducible rfl
  simp only [Act.put, List.setIfInBounds_toArray, List.set_cons_zero, List.set_cons_succ]
  refine a_value (some 15) ?_ rfl rfl (by rfl) (fun w hw => ?_) ?_
  rotate_left
  · go_simp
    with_reducible rfl
  simp only [Act.put, List.setIfInBounds_toArray, List.set_cons_zero, List.set_cons_succ]
  refine a_value (some 16) ?_ rfl rfl (by rfl) (fun w hw => ?_) ?_
  rotate_left
  · have hc := r0 _ hw
    go_simp
    with_reducible rfl
  simp only [Act.put, List.setIfInBounds_toArray, List.set_cons_zero, List.set_cons_succ]
  refine a_value (some 17) ?_ rfl rfl (by rfl) (fun w hw => ?_) ?_
  rotate_left
  · go_simp
    with_reducible rfl
  simp only [Act.put, List.setIfInBounds_toArray, List.set_cons_zero, List.set_cons_succ]
  refine a_call (some 12) rfl rfl (by rfl) 19 #[.pointer (some ⟨g, 0, none⟩)] (by go_simp) (H1.mono fun r w' ⟨he, hw'⟩ => ⟨_, he, by rw [hw']; exact hrow, ?_⟩)
  subst w'
  simp only [Act.put, List.setIfInBounds_toArray, List.set_cons_zero, List.set_cons_succ]
  refine a_value (some 18) ?_ rfl rfl (by rfl) (fun w hw => ?_) ?_
  rotate_left
  · go_simp
    with_reducible rfl
  simp only [Act.put, List.setIfInBounds_toArray, List.set_cons_zero, List.set_cons_succ]
  refine a_move (some 19) _ rfl rfl rfl (by rfl) ?_
  simp only [Act.put, List.setIfInBounds_toArray, List.set_cons_zero, List.set_cons_succ]
  refine a_move (some 20) _ rfl rfl rfl (by rfl) ?_
  simp only [Act.put, List.setIfInBounds_toArray, List.set_cons_zero, List.set_cons_succ]
  refine a_move (some 22) _ rfl rfl rfl (by rfl) ?_
  simp only [Act.put, List.setIfInBounds_toArray, List.set_cons_zero, List.set_cons_succ]
  refine a_value (some 23) ?_ rfl rfl (by rfl) (fun w hw => ?_) ?_
  rotate_left
  · go_simp
    with_reducible rfl
  simp only [Act.put, List.setIfInBounds_toArray, List.set_cons_zero, List.set_cons_succ]
  refine a_value (some 24) ?_ rfl rfl (by rfl) (fun w hw => ?_) ?_
  rotate_left
  · go_simp
    with_reducible rfl
  simp only [Act.put, List.setIfInBounds_toArray, List.set_cons_zero, List.set_cons_succ]
  refine a_value (some 25) ?_ rfl rfl (by rfl) (fun w hw => ?_) ?_
  rotate_left
  · have hc := r1 _ hw
    go_simp
    with_reducible rfl
  simp only [Act.put, List.setIfInBounds_toArray, List.set_cons_zero, List.set_cons_succ]
  refine a_value (some 26) ?_ rfl rfl (by rfl) (fun w hw => ?_) ?_
  rotate_left
  · go_simp
    with_reducible rfl
  simp only [Act.put, List.setIfInBounds_toArray, List.set_cons_zero, List.set_cons_succ]
  refine a_call (some 21) rfl rfl (by rfl) 20 #[.pointer (some ⟨g, 0, none⟩)] (by go_simp) (H2.mono fun r w' ⟨he, hw'⟩ => ⟨_, he, by rw [hw']; exact hrow, ?_⟩)
  subst w'
  simp only [Act.put, List.setIfInBounds_toArray, List.set_cons_zero, List.set_cons_succ]
  refine a_value (some 27) ?_ rfl rfl (by rfl) (fun w hw => ?_) ?_
  rotate_left
  · go_simp
    with_reducible rfl
  simp only [Act.put, List.setIfInBounds_toArray, List.set_cons_zero, List.set_cons_succ]
  refine a_value (some 28) ?_ rfl rfl (by rfl) (fun w hw => ?_) ?_
  rotate_left
  · go_simp
    with_reducible rfl
  simp only [Act.put, List.setIfInBounds_toArray, List.set_cons_zero, List.set_cons_succ]
  refine a_done ?_
  simp only [Exit.then]
  have HB0 : Hid (Below w.heap.size w w.drew) := (Below.refl _ _).drew
  have HH0 : Hid (Two w.drew base g g1 c1 g2 c2 ev D gr (.slice fa D.s fc) (.slice la D.E.length lc) R) := HH.out.below (Below.refl _ _).drew
  have hds : D.s = D.s := rfl
  clear H1 H2 hrow hds
  generalize hWd : w.drew = Wd at *
  clear hWd
  go_wp2
  go_loopw [5] (fun iv wq => ∃ k : Nat, k ≤ D.s + 2 ∧ iv = .int .i64 ((k : Int) - 1) ∧ Hid (Two wq base g g1 c1 g2 c2 ev D gr (.slice fa D.s fc) (.slice la D.E.length lc) R) ∧ Hid (Below w.heap.size w wq)) (fun iv _ => D.s + 3 - (intOf iv + 1).toNat)
  case atStart => exact ⟨0, by omega, by go_num, HH0, HB0⟩
  case round =>
    obtain ⟨k, hk, rfl, hT, hB⟩ := hrel
    obtain ⟨wE, rfl⟩ : ∃ x, x = wr := ⟨wr, rfl⟩
    have hT0 : Two wE base g g1 c1 g2 c2 ev D gr (.slice fa D.s fc) (.slice la D.E.length lc) R := hT
    have hB0 : Below w.heap.size w wE := hB
    have cF := r0 _ hT0.r.row
    by_cases hlt : k ≤ D.s + 1
    · by_cases hin : 1 ≤ k ∧ k ≤ D.s
      · obtain ⟨n, rfl⟩ : ∃ n, k = n + 1 := ⟨k - 1, by omega⟩
        have hns : n < D.s := by omega
        have hkn : ((n + 1 : Nat) : Int) - 1 = (n : Int) := by omega
        rw [hkn]
        have HRa := read_ok hT0.d n hns
        have hbA : Below wE.heap.size wE (wE.alloc (.cells (byts (fun i => D.B (n * 256 + i)) 256).toArray 5)) := (Below.refl _ _).alloc (Nat.le_refl _) _
        have HRb := refRead_ok (hT0.r.below hbA) n (by rw [HT.out.len]; exact hns) (by rw [HT.out.llen]; exact hE) (by rw [HT.out.len]; omega)
        rw [HT.out.read hT0.d.ok n hns] at HRb
        have hCa : ∀ i, i < 256 → (byts (fun i => D.B (n * 256 + i)) 256).toArray[i]? = some (.int .u8 (D.B (n * 256 + i))) := fun i hi => by simpa using byts_at (fun i => D.B (n * 256 + i)) 256 i hi
        have hCs : (byts (fun i => D.B (n * 256 + i)) 256).toArray.size = 256 := by simp [byts_len]
        generalize (byts (fun i => D.B (n * 256 + i)) 256).toArray = Ca at *
        have hcv : (convert 31 9 (.slice (some ⟨wE.heap.size, 0, none⟩) 256 256)).run Try.prog (wE.alloc (.cells Ca 5)) = .ok (.string (S D.B n)) (wE.alloc (.cells Ca 5)) := conv256 _ wE.heap.size 0 256 _ (fun i hi => by rw [Nat.zero_add, (Row.new wE Ca 5).cell i]; exact hCa i hi)
        have HRa' : Hid _ := HRa
        have HRb' : Hid _ := HRb
        have hle : (n : Int) ≤ D.s := by omega
        have hrA : Hid (Row (wE.alloc (.cells Ca 5)) wE.heap.size Ca 5) := Row.new wE Ca 5
        have HbA : Hid _ := hbA
        clear HRa HRb hCa hbA
        go_wp2_with fail
        refine Calls.mono HRa'.out ?_
        rintro e w' ⟨rfl, hw'⟩
        subst w'
        go_wp2_with fail
        refine Calls.mono HRb'.out ?_
        rintro e w' ⟨rfl, hw'⟩
        subst w'
        go_wp2
        go_loopw [10] (fun iv wq => ∃ (j : Nat) (C : Array Value), j ≤ 256 ∧ iv = .int .i64 j ∧ C.size = 256 ∧ Hid (Row wq wE.heap.size C 5) ∧ Hid (Below wE.heap.size wE wq)) (fun iv _ => 256 - (intOf iv).toNat)
        case atStart => exact ⟨0, Ca, by omega, rfl, hCs, hrA, HbA⟩
        case round =>
          obtain ⟨j, C, hj, rfl, hC, hRj, hBj⟩ := hrel
          by_cases hjl : j < 256
          · have cj : ∃ v, wr.cell? ⟨wE.heap.size, j, none⟩ = some v := ⟨_, (Row.cell hRj.out j).trans (Array.getElem?_eq_getElem (by omega))⟩
            obtain ⟨vj, cj⟩ := cj
            have fj := Row.frozen hRj.out j
            have hR5 : Hid (Row (wr.setCell ⟨wE.heap.size, j, none⟩ (.int .u8 9)) wE.heap.size (C.setIfInBounds j (.int .u8 9)) 5) := Row.setCell hRj.out _
            have hB5 : Hid (Below wE.heap.size wE (wr.setCell ⟨wE.heap.size, j, none⟩ (.int .u8 9))) := Below.setCell hBj.out (Nat.le_refl _) _
            go_wp2
            go_roundw
            case rel => exact ⟨j + 1, _, by omega, by go_num, by rw [Array.size_setIfInBounds]; exact hC, hR5, hB5⟩
            case measure => simp [intOf]; omega
          · have hT5 : Hid (Two wr base g g1 c1 g2 c2 ev D gr (.slice fa D.s fc) (.slice la D.E.length lc) R) := hT0.below hBj.out
            have hB5 : Hid (Below w.heap.size w wr) := hB0.trans (Below.mono hBj.out hB0.size)
            go_wp2
            go_roundw
            case rel => exact ⟨n + 2, by omega, by go_num, hT5, hB5⟩
            case measure => simp [intOf]; omega
      · have hbad : ¬ (0 ≤ ((k : Int) - 1) ∧ ((k : Int) - 1) < D.s) := by omega
        have HRa := read_bad hT0.d ((k : Int) - 1) hbad
        have HRb := refRead_bad hT0.r ((k : Int) - 1) (by rw [HT.out.len]; exact hbad)
        have hcv : (convert 31 9 (.slice none 0 0)).run Try.prog wE = .ok (.string ⟨#[]⟩) wE := run_convert_bytes_nil (P := Try.prog) wE 31 5 Try.underlying31 Try.underlying5 0 0 9 Try.underlying9
        have HRa' : Hid _ := HRa
        have HRb' : Hid _ := HRb
        have hle : (k : Int) - 1 ≤ D.s := by omega
        clear HRa HRb hT0
        go_wp2_with fail
        refine Calls.mono HRa'.out ?_
        rintro e w' ⟨rfl, hw'⟩
        subst w'
        go_wp2_with fail
        refine Calls.mono HRb'.out ?_
        rintro e w' ⟨rfl, hw'⟩
        subst w'
        go_wp2
        go_loopw [10] (fun iv wq => iv = .int .i64 0 ∧ wq = wE) (fun _ _ => 0)
        case atStart => exact ⟨rfl, rfl⟩
        case round =>
          obtain ⟨rfl, rfl⟩ := hrel
          go_wp2
          go_roundw
          case rel => exact ⟨k + 1, by omega, by go_num, hT, hB⟩
          case measure => simp [intOf]; omega
    · go_wp2
      go_ret
      exact ⟨rfl, hB0⟩
end Go.Proofs.Ytpdcmhfmicemnaa
