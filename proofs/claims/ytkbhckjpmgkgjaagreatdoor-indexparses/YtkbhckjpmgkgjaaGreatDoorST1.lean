/- My own work: firstPlace, aheadOfBump; what a term means. -/
import Derived.Test.YtkbhckjpmgkgjaaGreatDoorSP5
import Derived.Test.YtkbhckjpmgkgjaaGreatDoorV10
import Derived.Test.YtkbhckjpmgkgjaaGreatDoorSI2
namespace Go.Proofs.YtkbhckjpmgkgjaaGreatDoor
open Go.RowKit

/-- The place of the first number that is not 0, or how many there are. -/
def firstP (v : Ver) : Int := if v.n0 ≠ 0 then 1 else if v.n1 ≠ 0 then 2 else if v.n2 ≠ 0 then 3 else if v.n3 ≠ 0 then 4 else v.cnt
theorem firstP_at {v : Ver} {i : Nat} (h : ∀ j, j < i → nAt v j = 0) (hi : i < 4) (hn : nAt v i ≠ 0) : firstP v = i + 1 := by
  match i, hi with
  | 0, _ => unfold firstP; rw [if_pos (show v.n0 ≠ 0 from hn)]; rfl
  | 1, _ => unfold firstP; rw [if_neg (fun k => k (h 0 (by omega))), if_pos (show v.n1 ≠ 0 from hn)]; rfl
  | 2, _ => unfold firstP; rw [if_neg (fun k => k (h 0 (by omega))), if_neg (fun k => k (h 1 (by omega))), if_pos (show v.n2 ≠ 0 from hn)]; rfl
  | 3, _ => unfold firstP; rw [if_neg (fun k => k (h 0 (by omega))), if_neg (fun k => k (h 1 (by omega))), if_neg (fun k => k (h 2 (by omega))), if_pos (show v.n3 ≠ 0 from hn)]; rfl
theorem firstP_none {v : Ver} (hv : May v) (h : ∀ j : Nat, (j : Int) < v.cnt → nAt v j = 0) : firstP v = v.cnt := by
  have h0 : v.n0 = 0 := h 0 (by have := hv.cnt; show (0 : Int) < v.cnt; omega)
  have h1 : v.n1 = 0 := by
    by_cases k : (1 : Int) < v.cnt
    · exact h 1 k
    · exact hv.n1.2.2 (by omega)
  have h2 : v.n2 = 0 := by
    by_cases k : (2 : Int) < v.cnt
    · exact h 2 k
    · exact hv.n2.2.2 (by omega)
  have h3 : v.n3 = 0 := by
    by_cases k : (3 : Int) < v.cnt
    · exact h 3 k
    · exact hv.n3.2.2 (by omega)
  unfold firstP
  rw [if_neg (fun k => k h0), if_neg (fun k => k h1), if_neg (fun k => k h2), if_neg (fun k => k h3)]
theorem verC_at (v : Ver) (i : Nat) (h : i < 4) : (verC v)[i]? = some (.int .i64 (nAt v i)) := by
  match i, h with
  | 0, _ => rfl
  | 1, _ => rfl
  | 2, _ => rfl
  | 3, _ => rfl
set_option maxRecDepth 20000 in
set_option maxHeartbeats 2000000 in
theorem first_ok {v : Ver} (hv : May v) (w : World) : Calls Tryz.prog 145 #[verV v] w fun e w' => e = .returned (.int .i64 (firstP v)) ∧ Below w.heap.size w w' := by
  have hA : Row (boxV w v) w.heap.size (verC v) 112 := Row.new w (verC v) 112
  have HB1 : Hid (Below w.heap.size w (boxV w v)) := (Below.refl _ _).alloc (Nat.le_refl _) _
  obtain ⟨w1, hw1⟩ : ∃ x, x = boxV w v := ⟨_, rfl⟩
  have hw1' := hw1.symm
  rw [← hw1] at hA HB1
  have c4 : w1.cell? ⟨w.heap.size, 4, none⟩ = some (.int .i64 v.cnt) := (hA.cell 4).trans rfl
  have hcn := hv.cnt
  obtain ⟨n, hn⟩ : ∃ n : Nat, v.cnt = (n : Int) := ⟨v.cnt.toNat, by omega⟩
  rw [hn] at c4
  have hn1 : 1 ≤ n := by omega
  have hn4 : n ≤ 4 := by omega
  have HN : Hid (v.cnt = (n : Int)) := hn
  have HV : Hid (May v) := hv
  have HR : Hid (Row w1 w.heap.size (verC v) 112) := hA
  have hsl := slice_nums n w.heap.size ⟨hn1, hn4⟩ w1
  clear hw1 hcn hn hv
  go_enter Tryz.func145, Tryz.ntmps145
  go_wp2
  clear hsl c4 hA
  go_loopw [10] (fun s10 wq => ∃ i : Nat, i ≤ n ∧ s10 = .int .i64 i ∧ (∀ j, j < i → nAt v j = 0) ∧ Row wq w.heap.size (verC v) 112 ∧ Below w.heap.size w wq) (fun s10 _ => n - (intOf s10).toNat)
  case atStart => exact ⟨0, Nat.zero_le _, rfl, fun j hj => absurd hj (by omega), HR.out, HB1.out⟩
  case round =>
    obtain ⟨i, hi, rfl, hz, hrow, hB⟩ := hrel
    have HZ : Hid (∀ j, j < i → nAt v j = 0) := hz
    have HRow : Hid (Row wr w.heap.size (verC v) 112) := hrow
    have HB : Hid (Below w.heap.size w wr) := hB
    clear hz hB HR HB1
    by_cases hin : i < n
    · have hin' : (i : Int) < (n : Int) := by omega
      have hcell := (hrow.cell i).trans (verC_at v i (by omega))
      by_cases h0 : nAt v i = 0
      · have HZ2 : Hid (∀ j, j < i + 1 → nAt v j = 0) := fun j hj => by
          by_cases e : j = i
          · rw [e]; exact h0
          · exact HZ.out j (by omega)
        rw [h0] at hcell
        clear h0 hrow
        go_wp2
        go_roundw
        case rel => exact ⟨i + 1, by omega, by go_num, HZ2.out, HRow.out, HB.out⟩
        case measure => simp [intOf]; omega
      · have HF : Hid (firstP v = (i : Int) + 1) := firstP_at HZ.out (by omega) h0
        obtain ⟨x, hx⟩ : ∃ x, x = nAt v i := ⟨_, rfl⟩
        rw [← hx] at hcell h0
        have h0' := beqI h0
        clear hx hrow
        go_wp2
        go_ret
        exact ⟨by rw [HF.out]; rfl, HB.out⟩
    · have hin' : ¬ (i : Int) < (n : Int) := by omega
      have HF : Hid (firstP v = (n : Int)) := by
        show _ = _
        rw [firstP_none HV.out fun j hj => HZ.out j (by have := HN.out; omega)]
        exact HN.out
      have hc4 : wr.cell? ⟨w.heap.size, 4, none⟩ = some (.int .i64 (n : Int)) := (hrow.cell 4).trans (by show some (Value.int .i64 v.cnt) = _; rw [HN.out])
      clear hrow
      go_wp2
      go_ret
      exact ⟨by rw [HF.out]; rfl, HB.out⟩
/-- The cut just ahead of Bump, or the end. -/
def aheadB (v : Ver) (n : Int) : Cut := if (bumpR v n).2 = 0 then ⟨1, (bumpR v n).1⟩ else fin
theorem resultsAb : Tryz.f144.results = #[.cell 4 216] := by kernel_rfl
set_option maxRecDepth 20000 in
set_option maxHeartbeats 2000000 in
theorem ahead_ok (v : Ver) (n : Int) (w : World) : Calls Tryz.prog 144 #[verV v, .int .i64 n] w fun e w' => e = .returned (cutV (aheadB v n)) ∧ Below w.heap.size w w' := by
  have hA : Row ((boxV w v).alloc (.cells zeroCut 216)) w.heap.size (verC v) 112 := (Row.new w (verC v) 112).alloc _
  have hZ : Row ((boxV w v).alloc (.cells zeroCut 216)) (w.heap.size + 1) zeroCut 216 := by
    have h := Row.new (boxV w v) zeroCut 216
    rw [World.size_alloc] at h
    exact h
  have hb1 : Below w.heap.size w ((boxV w v).alloc (.cells zeroCut 216)) := ((Below.refl _ _).alloc (Nat.le_refl _) _).alloc (by simp) _
  obtain ⟨w1, hw1⟩ : ∃ x, x = (boxV w v).alloc (.cells zeroCut 216) := ⟨_, rfl⟩
  have hw1' := hw1.symm
  rw [← hw1] at hA hZ hb1
  have hbu := bump_ok v n w1
  unfold bumpE at hbu
  have HAB : Hid (aheadB v n = if (bumpR v n).2 = 0 then ⟨1, (bumpR v n).1⟩ else fin) := rfl
  obtain ⟨⟨u, e0⟩, hu⟩ : ∃ x, x = bumpR v n := ⟨_, rfl⟩
  rw [← hu] at hbu HAB
  simp only at hbu HAB
  generalize aheadB v n = c at HAB ⊢
  have HB1 : Hid (Below w.heap.size w w1) := hb1
  have HZ : Hid (Row w1 (w.heap.size + 1) zeroCut 216) := hZ
  clear hw1 hu hb1 hZ
  by_cases h0 : e0 = 0
  · subst h0
    have HC : Hid (c = ⟨1, u⟩) := by show _ = _; rw [HAB.out, if_pos rfl]
    go_enter Tryz.func144, Tryz.ntmps144
    go_wp2_with (first | refine wpList_load_row rfl 112 _ rfl w.heap.size rfl 112 (verC v) (0, 0) _ hA Tryz.underlying112 rfl infoVs ?_ | fail)
    refine hbu.mono ?_
    rintro e w2 ⟨rfl, hb2⟩
    have hz2 : Row (w2.alloc (.cells (verC u) 112)) (w.heap.size + 1) zeroCut 216 := (Row.below HZ.out hb2 (Row.lt HZ.out)).alloc _
    have hu2 : Row (w2.alloc (.cells (verC u) 112)) w2.heap.size (verC u) 112 := Row.new _ _ _
    have hb3 : Below w.heap.size w (w2.alloc (.cells (verC u) 112)) := HB1.out.trans ((hb2.mono HB1.out.size).trans ((Below.refl _ _).alloc (Nat.le_trans HB1.out.size hb2.size) _))
    obtain ⟨w3, hw3⟩ : ∃ x, x = w2.alloc (.cells (verC u) 112) := ⟨_, rfl⟩
    have hw3' := hw3.symm
    rw [← hw3] at hz2 hu2 hb3
    have hz4 : Row (w3.setRow (w.heap.size + 1) (cutC ⟨1, u⟩)) (w.heap.size + 1) (cutC ⟨1, u⟩) 216 := hz2.setRow
    have HB4 : Hid (Below w.heap.size w (w3.setRow (w.heap.size + 1) (cutC ⟨1, u⟩))) := below_setRow hb3 (by omega)
    clear hbu hb2 hb3 hw3 hA hw1'
    go_wp2_with (first | (refine wpList_store_new rfl 112 _ _ rfl w2 zeroC (verC u) 112 rfl w2.heap.size rfl rfl rfl infoVs rfl (verC_one _) ?_; rw [hw3']) | refine wpList_load_row rfl 112 _ rfl w2.heap.size rfl 112 (verC u) (0, 0) _ hu2 Tryz.underlying112 rfl infoVs ?_ | refine wpList_store_row rfl 216 _ _ rfl (w.heap.size + 1) (cutC ⟨1, u⟩) rfl rfl 216 zeroCut hz2 infoC rfl (cutC_one _) ?_)
    exact bodyPost_ret (results_cell_row resultsAb _ _ (w.heap.size + 1) 216 _ (0, 0) _ rfl hz4 Tryz.underlying216 rfl infoC) rfl ⟨by rw [HC.out], HB4.out⟩
  · have HC : Hid (c = fin) := by show _ = _; rw [HAB.out, if_neg h0]
    have h0' := beqI h0
    go_enter Tryz.func144, Tryz.ntmps144
    go_wp2_with (first | refine wpList_load_row rfl 112 _ rfl w.heap.size rfl 112 (verC v) (0, 0) _ hA Tryz.underlying112 rfl infoVs ?_ | fail)
    refine hbu.mono ?_
    rintro e w2 ⟨rfl, hb2⟩
    have hz2 : Row (w2.alloc (.cells (verC u) 112)) (w.heap.size + 1) zeroCut 216 := (Row.below HZ.out hb2 (Row.lt HZ.out)).alloc _
    have hb3 : Below w.heap.size w (w2.alloc (.cells (verC u) 112)) := HB1.out.trans ((hb2.mono HB1.out.size).trans ((Below.refl _ _).alloc (Nat.le_trans HB1.out.size hb2.size) _))
    obtain ⟨w3, hw3⟩ : ∃ x, x = w2.alloc (.cells (verC u) 112) := ⟨_, rfl⟩
    have hw3' := hw3.symm
    rw [← hw3] at hz2 hb3
    have hz4 : Row (w3.setRow (w.heap.size + 1) (cutC fin)) (w.heap.size + 1) (cutC fin) 216 := hz2.setRow
    have HB4 : Hid (Below w.heap.size w (w3.setRow (w.heap.size + 1) (cutC fin))) := below_setRow hb3 (by omega)
    clear hbu hb2 hb3 hw3 hA hw1'
    go_wp2_with (first | (refine wpList_store_new rfl 112 _ _ rfl w2 zeroC (verC u) 112 rfl w2.heap.size rfl rfl rfl infoVs rfl (verC_one _) ?_; rw [hw3']) | refine wpList_store_row rfl 216 _ _ rfl (w.heap.size + 1) (cutC fin) rfl rfl 216 zeroCut hz2 infoC rfl (cutC_one _) ?_)
    exact bodyPost_ret (results_cell_row resultsAb _ _ (w.heap.size + 1) 216 _ (0, 0) _ rfl hz4 Tryz.underlying216 rfl infoC) rfl ⟨by rw [HC.out], HB4.out⟩
end Go.Proofs.YtkbhckjpmgkgjaaGreatDoor
