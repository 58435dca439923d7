/- The walk of redo. -/
import Derived.Test.YtdbnnljlbfjobaaGreatDoorFlushed
namespace Go.Proofs.YtdbnnljlbfjobaaGreatDoor
open Go.RowKit

set_option maxRecDepth 20000 in
set_option maxHeartbeats 2000000 in
theorem redo_any {w : World} {base gF cF s : Nat} {F : Nat → Int} (e : Ev) (he : e.ok s) (hown : w.ownsRow base 5 1 (.slice (some ⟨gF, 0, none⟩) (s * 256) cF) (s * 256) (byts F (s * 256))) :
    Calls Tryz.prog 64 #[.agg (evA e), .slice (some ⟨gF, 0, none⟩) (s * 256) cF] w fun r w' => (∃ v, r = .returned v) ∧ w'.ownsRow base 5 1 (.slice (some ⟨gF, 0, none⟩) (s * 256) cF) (s * 256) (byts (redoF e F) (s * 256)) ∧ Lone gF w w' := by
  obtain ⟨hge, _, hmc, hc63, cur, hrF, hsz, _⟩ := ownsRow_slice hown
  have hgF : gF < w.heap.size := hrF.lt
  have hel := info65c e
  have heq := eq_ev e he
  have hA : evA e = e.cells.toArray := rfl
  have HA : Hid _ := hA
  have hAn : (evA e)[0]? = some (.int .i64 e.n) := rfl
  have hAb : ∀ i, i < 256 → (evA e)[1 + i]? = some (.int .u8 (e.f i)) := fun i hi => by
    rw [hA, Nat.add_comm]
    simp [Ev.cells, byts_at _ _ _ hi]
  have HAb : Hid _ := hAb
  have hok := he.2
  have HOK : Hid _ := hok
  have HO : Hid _ := hown
  have hfl : redoF e F = if e.isFl then F else over F e.n.toNat e.f := rfl
  have HFL : Hid _ := hfl
  have hfn : e.isFl = false → 0 ≤ e.n ∧ e.n < s := fun h => hok.resolve_left (fun hh => by rw [hh] at h; simp [Ev.isFl, flushEv] at h)
  have HFN : Hid _ := hfn
  generalize hm : s * 256 = m at *
  have HM : Hid _ := hm
  have hRow := Row.new w (evA e) 101
  have hb1 : Below w.heap.size w (w.alloc (.cells (evA e) 101)) := (Below.refl _ _).alloc (Nat.le_refl _) _
  have hW : ∀ wx, Row wx w.heap.size (evA e) 101 ∧ Below w.heap.size w wx → wx.rangeAt w.heap.size 0 e.cells := fun wx hx j v hj => by
    rw [Nat.zero_add, hx.1.cell, hA]
    simpa using hj
  have HW : Hid _ := hW
  generalize hAA : evA e = A at *
  generalize e.isFl = fl at *
  clear hA hAb hok hown hfl hfn hm he hW hsz
  rw [show A = e.cells.toArray from HA.out] at heq
  go_enter Tryz.func64, Tryz.ntmps64
  go_wp2_with fail
  refine wp_region_permA [(false, 0), (true, 1), (false, 2)] (fun wx => Row wx w.heap.size A 101 ∧ Below w.heap.size w wx) (by kernel_rfl) (by kernel_rfl) ⟨hRow, hb1.drew⟩ ?_
  refine a_load_mid (some 4) 101 _ rfl rfl rfl (by rfl) w.heap.size 0 rfl e.cells _ HW.out Tryz.underlying101 rfl hel ?_
  simp only [Act.put, List.setIfInBounds_toArray, List.set_cons_zero, List.set_cons_succ]
  refine a_call (some 5) rfl rfl (by rfl) 83 #[] (by go_simp) ((flush_any _).mono fun r w' ⟨he, hw'⟩ => ⟨_, he, by rw [hw']; exact ⟨hRow.drew.alloc _, hb1.drew.alloc (by simp) _⟩, ?_⟩)
  subst hw'
  simp only [Act.put, List.setIfInBounds_toArray, List.set_cons_zero, List.set_cons_succ]
  refine a_value (some 6) ?_ rfl rfl (by rfl) (fun w hw => ?_) ?_
  rotate_left
  · go_simp
    with_reducible rfl
  simp only [Act.put, List.setIfInBounds_toArray, List.set_cons_zero, List.set_cons_succ]
  refine a_done ?_
  simp only [Exit.then]
  have hR2 : Row ((w.alloc (.cells A 101)).drew.alloc (.cells (evA flushEv) 101)) w.heap.size A 101 := hRow.drew.alloc _
  have hb2 : Below w.heap.size w ((w.alloc (.cells A 101)).drew.alloc (.cells (evA flushEv) 101)) := hb1.drew.alloc (by simp) _
  generalize (w.alloc (.cells A 101)).drew.alloc (.cells (evA flushEv) 101) = W at *
  clear hRow hb1 heq
  have hrFW : Row W gF cur 5 := hrF.below hb2 hgF
  cases fl with
  | true =>
    go_wp2
    go_end0
    refine ⟨⟨_, rfl⟩, ?_, Lone.of_below hb2⟩
    rw [HFL.out]
    exact ownsRow_below HO.out hb2
  | false =>
    obtain ⟨hn0, hns⟩ := HFN.out rfl
    obtain ⟨n, hn⟩ : ∃ n : Nat, e.n = n := ⟨e.n.toNat, by omega⟩
    rw [hn] at hAn
    have hns' : n < s := by omega
    have hM := HM.out
    have HS := sectorOf_any gF m n cF W (by omega) hmc hc63
    have hlen256 := byts_len e.f 256
    have hcs : cF = cur.size := by
      obtain ⟨_, _, _, _, cur', hr', hs', _⟩ := ownsRow_slice HO.out
      have : cur' = cur := by have := hr'.symm.trans hrF; simpa using this
      subst this
      omega
    have hcp := run_copy_row (P := Tryz.prog) W.drew 31 31 3 5 gF (n * 256) 256 256 ⟨w.heap.size, 1, none⟩ 256 256 cur 5 (byts e.f 256) Tryz.underlying31 info5s hrFW (by rw [hlen256]; rfl) (fun j v hj => by
      have hj' : j < 256 := by rw [← hlen256]; exact (List.getElem?_eq_some_iff.1 hj).1
      rw [Addr.add_mid, (Row.cell (w := W.drew) hR2), HAb.out j hj', ← hj, byts_at _ _ _ hj']) (by rw [hlen256]; omega) (byts_one _ _)
    rw [hlen256] at hcp
    have hfin : (W.drew.setRow gF (cur.toList.take (n * 256) ++ byts e.f 256 ++ cur.toList.drop (n * 256 + 256)).toArray).ownsRow base 5 1 (.slice (some ⟨gF, 0, none⟩) (s * 256) cF) (s * 256) (byts (over F n e.f) (s * 256)) :=
      owns_over (w := W.drew) (by have h := ownsRow_below HO.out hb2; rw [← hM] at h; exact h) hns' cur hrFW
    rw [hM] at hfin
    have HFIN : Hid _ := hfin
    have hl2 : Lone gF w (W.drew.setRow gF (cur.toList.take (n * 256) ++ byts e.f 256 ++ cur.toList.drop (n * 256 + 256)).toArray) := (Lone.of_below hb2.drew).trans (Lone.of_setRow _ _)
    generalize (cur.toList.take (n * 256) ++ byts e.f 256 ++ cur.toList.drop (n * 256 + 256)).toArray = C' at *
    have hS3 : Row (W.drew.setRow gF C') w.heap.size A 101 := Row.other (w := W.drew) hR2 (by omega)
    have HSd := sectorOf_any gF m n cF W.drew (by omega) hmc hc63
    have c0 : ∀ wx, Row wx w.heap.size A 101 → wx.cell? ⟨w.heap.size, 0, none⟩ = some (.int .i64 n) := fun wx hx => (hx.cell 0).trans hAn
    clear hfin hlen256 HS hcs hM hns' hn0 hns hrFW hrF HAb
    go_wp2_with fail
    refine wp_region_permA [(false, 0), (false, 1), (false, 2), (false, 4), (false, 5), (true, 3), (true, 6)] (fun wx => Row wx w.heap.size A 101) (by kernel_rfl) (by kernel_rfl) hR2 ?_
    refine a_move (some 7) _ rfl rfl rfl (by rfl) ?_
    simp only [Act.put, List.setIfInBounds_toArray, List.set_cons_zero, List.set_cons_succ]
    refine a_value (some 8) ?_ rfl rfl (by rfl) (fun w hw => ?_) ?_
    rotate_left
    · go_simp
      with_reducible rfl
    simp only [Act.put, List.setIfInBounds_toArray, List.set_cons_zero, List.set_cons_succ]
    refine a_value (some 9) ?_ rfl rfl (by rfl) (fun w hw => ?_) ?_
    rotate_left
    · have hc0 := c0 _ hw
      go_simp
      with_reducible rfl
    simp only [Act.put, List.setIfInBounds_toArray, List.set_cons_zero, List.set_cons_succ]
    refine a_value (some 11) ?_ rfl rfl (by rfl) (fun w hw => ?_) ?_
    rotate_left
    · go_simp
      with_reducible rfl
    simp only [Act.put, List.setIfInBounds_toArray, List.set_cons_zero, List.set_cons_succ]
    refine a_value (some 12) ?_ rfl rfl (by rfl) (fun w hw => ?_) ?_
    rotate_left
    · go_simp
      with_reducible rfl
    simp only [Act.put, List.setIfInBounds_toArray, List.set_cons_zero, List.set_cons_succ]
    refine a_call (some 10) rfl rfl (by rfl) 106 #[.slice (some ⟨gF, 0, none⟩) m cF, .int .i64 n] (by go_simp) (HSd.mono fun r w' ⟨he, hw'⟩ => ⟨_, he, by rw [hw']; exact hR2, ?_⟩)
    subst hw'
    simp only [Act.put, List.setIfInBounds_toArray, List.set_cons_zero, List.set_cons_succ]
    refine a_alone (some 13) (goInt 256) (W.drew.setRow gF C') rfl rfl (by rfl) (by go_simp) hS3 ?_
    simp only [Act.put, List.setIfInBounds_toArray, List.set_cons_zero, List.set_cons_succ]
    refine a_done ?_
    go_end0
    refine ⟨⟨_, rfl⟩, ?_, hl2⟩
    have e1 : redoF e F = over F n e.f := by rw [HFL.out, hn]; simp
    rw [e1]
    exact HFIN.out
end Go.Proofs.YtdbnnljlbfjobaaGreatDoor
