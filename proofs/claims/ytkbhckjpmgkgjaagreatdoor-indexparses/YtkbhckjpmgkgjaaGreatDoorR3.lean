/- My own work: the document's own Bump. -/
import Derived.Test.YtkbhckjpmgkgjaaGreatDoorR2
import Derived.Test.YtkbhckjpmgkgjaaGreatDoorVB
namespace Go.Proofs.YtkbhckjpmgkgjaaGreatDoor
open Go.RowKit

theorem resultsRb : Tryz.f176.results = #[.cell 4 104, .tmp 5] := by kernel_rfl
/-- The first k numbers of a version, of a count. -/
def headV (v : Ver) (m k : Nat) : Ver := ⟨if 0 < k then v.n0 else 0, if 1 < k then v.n1 else 0, if 2 < k then v.n2 else 0, if 3 < k then v.n3 else 0, m, ⟨#[]⟩⟩
theorem headV_more (v : Ver) (m k : Nat) (hk : k < 4) : setN (headV v m k) k (nAt v k) = headV v m (k + 1) := by
  match k, hk with
  | 0, _ => rfl
  | 1, _ => rfl
  | 2, _ => rfl
  | 3, _ => rfl
theorem headV_bump (v : Ver) (m : Nat) (hm : 1 ≤ m ∧ m ≤ 4) : setN (headV v m m) (m - 1) (nAt v (m - 1) + 1) = bumpV v m := by
  have h4 : m = 1 ∨ m = 2 ∨ m = 3 ∨ m = 4 := by omega
  rcases h4 with rfl | rfl | rfl | rfl <;> rfl
theorem headV_at (v : Ver) (m : Nat) (hm : 1 ≤ m ∧ m ≤ 4) : nAt (headV v m m) (m - 1) = nAt v (m - 1) := by
  have h4 : m = 1 ∨ m = 2 ∨ m = 3 ∨ m = 4 := by omega
  rcases h4 with rfl | rfl | rfl | rfl <;> rfl
theorem ver_cell (o : Ver) (k : Nat) (hk : k < 4) : (verC o)[k]? = some (.int .i64 (nAt o k)) := by
  match k, hk with
  | 0, _ => rfl
  | 1, _ => rfl
  | 2, _ => rfl
  | 3, _ => rfl
theorem setN_same (o : Ver) (k : Nat) (y : Int) (hk : k < 4) : nAt (setN o k y) k = y := by
  match k, hk with
  | 0, _ => rfl
  | 1, _ => rfl
  | 2, _ => rfl
  | 3, _ => rfl
set_option maxRecDepth 20000 in
set_option maxHeartbeats 8000000 in
theorem refBump_no (v : Ver) (n : Int) (w : World) (hs : v.tag.size ≤ 140737488355328) (hm : mayV v = false) : Calls Tryz.prog 176 #[verV v, .int .i64 n] w fun e w' => e = .returned (bumpE v n) ∧ Below w.heap.size w w' := by
  have HE : Hid (bumpE v n = .tuple #[verV zeroV, .int .i64 20]) := bumpE_of (r := (zeroV, 20)) (by unfold bumpR; rw [hm]; rfl)
  have hA : Row ((w.alloc (.cells (verC v) 104)).alloc (.cells zeroC 104)) w.heap.size (verC v) 104 := (Row.new w _ _).alloc _
  have hZ : Row ((w.alloc (.cells (verC v) 104)).alloc (.cells zeroC 104)) (w.heap.size + 1) zeroC 104 := by
    have h := Row.new (w.alloc (.cells (verC v) 104)) zeroC 104
    rw [World.size_alloc] at h
    exact h
  have hb : Below w.heap.size w ((w.alloc (.cells (verC v) 104)).alloc (.cells zeroC 104)) := ((Below.refl _ _).alloc (Nat.le_refl _) _).alloc (by simp) _
  obtain ⟨w1, hw1⟩ : ∃ x, x = (w.alloc (.cells (verC v) 104)).alloc (.cells zeroC 104) := ⟨_, rfl⟩
  have hw1' := hw1.symm
  rw [← hw1] at hA hZ hb
  clear hw1
  have hM := refMay_ok v w1 hs
  rw [hm] at hM
  have hb2 : Below w1.heap.size w1 (boxR w1 v) := (Below.refl _ _).alloc (Nat.le_refl _) _
  have hA2 := hA.below hb2 hA.lt
  have hZ2 := hZ.below hb2 hZ.lt
  have hB2 := hb.trans (hb2.mono hb.size)
  obtain ⟨w2, hw2⟩ : ∃ x, x = boxR w1 v := ⟨_, rfl⟩
  rw [← hw2] at hM hA2 hZ2 hB2
  clear hw2 hb2 hZ hb
  go_enter Tryz.func176, Tryz.ntmps176
  go_wp2_with (first | (go_at_call 106; refine hM.mono ?_; rintro e w9 ⟨rfl, hw9⟩; rw [hw9]; clear hw9) | refine wpList_load_row rfl 104 _ rfl w.heap.size rfl 104 (verC v) (0, 0) _ hA Tryz.underlying104 rfl infoRs ?_ | refine wpList_store_row rfl 104 _ _ rfl (w.heap.size + 1) zeroC rfl rfl 104 zeroC hZ2 infoRs rfl zeroC_one ?_)
  exact bodyPost_ret (results_cell_row2 resultsRb _ _ (w.heap.size + 1) 104 zeroC (0, 0) _ rfl (Row.setRow hZ2) Tryz.underlying104 rfl infoRs) rfl ⟨by rw [HE.out]; rfl, bel_setRow hB2 (by omega) _⟩
set_option maxRecDepth 20000 in
set_option maxHeartbeats 8000000 in
theorem refBump_arg (v : Ver) (n : Int) (w : World) (hs : v.tag.size ≤ 140737488355328) (hm : mayV v = true) (hn : ¬ (1 ≤ n ∧ n ≤ 4)) : Calls Tryz.prog 176 #[verV v, .int .i64 n] w fun e w' => e = .returned (bumpE v n) ∧ Below w.heap.size w w' := by
  have HE : Hid (bumpE v n = .tuple #[verV zeroV, .int .i64 2]) := bumpE_of (r := (zeroV, 2)) (by unfold bumpR; rw [hm, if_pos rfl, if_neg hn])
  have hA : Row ((w.alloc (.cells (verC v) 104)).alloc (.cells zeroC 104)) w.heap.size (verC v) 104 := (Row.new w _ _).alloc _
  have hZ : Row ((w.alloc (.cells (verC v) 104)).alloc (.cells zeroC 104)) (w.heap.size + 1) zeroC 104 := by
    have h := Row.new (w.alloc (.cells (verC v) 104)) zeroC 104
    rw [World.size_alloc] at h
    exact h
  have hb : Below w.heap.size w ((w.alloc (.cells (verC v) 104)).alloc (.cells zeroC 104)) := ((Below.refl _ _).alloc (Nat.le_refl _) _).alloc (by simp) _
  obtain ⟨w1, hw1⟩ : ∃ x, x = (w.alloc (.cells (verC v) 104)).alloc (.cells zeroC 104) := ⟨_, rfl⟩
  have hw1' := hw1.symm
  rw [← hw1] at hA hZ hb
  clear hw1
  have hM := refMay_ok v w1 hs
  rw [hm] at hM
  have hb2 : Below w1.heap.size w1 (boxR w1 v) := (Below.refl _ _).alloc (Nat.le_refl _) _
  have hA2 := hA.below hb2 hA.lt
  have hZ2 := hZ.below hb2 hZ.lt
  have hB2 := hb.trans (hb2.mono hb.size)
  obtain ⟨w2, hw2⟩ : ∃ x, x = boxR w1 v := ⟨_, rfl⟩
  rw [← hw2] at hM hA2 hZ2 hB2
  clear hw2 hb2 hZ hb
  by_cases h1 : n < 1
  · clear hn
    go_enter Tryz.func176, Tryz.ntmps176
    go_wp2_with (first | (go_at_call 106; refine hM.mono ?_; rintro e w9 ⟨rfl, hw9⟩; rw [hw9]; clear hw9) | refine wpList_load_row rfl 104 _ rfl w.heap.size rfl 104 (verC v) (0, 0) _ hA Tryz.underlying104 rfl infoRs ?_ | refine wpList_store_row rfl 104 _ _ rfl (w.heap.size + 1) zeroC rfl rfl 104 zeroC hZ2 infoRs rfl zeroC_one ?_)
    exact bodyPost_ret (results_cell_row2 resultsRb _ _ (w.heap.size + 1) 104 zeroC (0, 0) _ rfl (Row.setRow hZ2) Tryz.underlying104 rfl infoRs) rfl ⟨by rw [HE.out]; rfl, bel_setRow hB2 (by omega) _⟩
  · have h2 : 4 < n := by omega
    clear hn
    go_enter Tryz.func176, Tryz.ntmps176
    go_wp2_with (first | (go_at_call 106; refine hM.mono ?_; rintro e w9 ⟨rfl, hw9⟩; rw [hw9]; clear hw9) | refine wpList_load_row rfl 104 _ rfl w.heap.size rfl 104 (verC v) (0, 0) _ hA Tryz.underlying104 rfl infoRs ?_ | refine wpList_store_row rfl 104 _ _ rfl (w.heap.size + 1) zeroC rfl rfl 104 zeroC hZ2 infoRs rfl zeroC_one ?_)
    exact bodyPost_ret (results_cell_row2 resultsRb _ _ (w.heap.size + 1) 104 zeroC (0, 0) _ rfl (Row.setRow hZ2) Tryz.underlying104 rfl infoRs) rfl ⟨by rw [HE.out]; rfl, bel_setRow hB2 (by omega) _⟩
set_option maxRecDepth 20000 in
set_option maxHeartbeats 8000000 in
theorem refBump_in (v : Ver) (m : Nat) (w : World) (hs : v.tag.size ≤ 140737488355328) (hm : mayV v = true) (hm4 : 1 ≤ m ∧ m ≤ 4) : Calls Tryz.prog 176 #[verV v, .int .i64 (m : Int)] w fun e w' => e = .returned (bumpE v m) ∧ Below w.heap.size w w' := by
  have hok := ((may_all v).1 ((mayV_iff v).1 hm)).2.2 (m - 1) (by omega)
  have HEm : Hid (nAt v (m - 1) = 999999999 → bumpE v (m : Int) = .tuple #[verV zeroV, .int .i64 20]) := fun h => bumpE_max hm hm4 h
  have HEf : Hid (nAt v (m - 1) ≠ 999999999 → bumpE v (m : Int) = .tuple #[verV (bumpV v m), .int .i64 0]) := fun h => bumpE_fine hm hm4 h
  have hA : Row ((w.alloc (.cells (verC v) 104)).alloc (.cells zeroC 104)) w.heap.size (verC v) 104 := (Row.new w _ _).alloc _
  have hZ : Row ((w.alloc (.cells (verC v) 104)).alloc (.cells zeroC 104)) (w.heap.size + 1) zeroC 104 := by
    have h := Row.new (w.alloc (.cells (verC v) 104)) zeroC 104
    rw [World.size_alloc] at h
    exact h
  have hb : Below w.heap.size w ((w.alloc (.cells (verC v) 104)).alloc (.cells zeroC 104)) := ((Below.refl _ _).alloc (Nat.le_refl _) _).alloc (by simp) _
  obtain ⟨w1, hw1⟩ : ∃ x, x = (w.alloc (.cells (verC v) 104)).alloc (.cells zeroC 104) := ⟨_, rfl⟩
  have hw1' := hw1.symm
  rw [← hw1] at hA hZ hb
  clear hw1
  have hM := refMay_ok v w1 hs
  rw [hm] at hM
  have hb2 : Below w1.heap.size w1 (boxR w1 v) := (Below.refl _ _).alloc (Nat.le_refl _) _
  have hA2 := hA.below hb2 hA.lt
  have hZ2 := hZ.below hb2 hZ.lt
  have hB2 := hb.trans (hb2.mono hb.size)
  obtain ⟨w2, hw2⟩ : ∃ x, x = boxR w1 v := ⟨_, rfl⟩
  rw [← hw2] at hM hA2 hZ2 hB2
  clear hw2 hb2 hZ hb
  have h1 : ¬ (m : Int) < 1 := by omega
  have h2 : ¬ 4 < (m : Int) := by omega
  have hA3 : Row (w2.alloc (.cells #[.int .i64 0, .int .i64 0, .int .i64 0, .int .i64 0, .int .i64 (m : Int), .string ⟨#[]⟩] 104)) w.heap.size (verC v) 104 := hA2.alloc _
  have hZ3 : Row (w2.alloc (.cells #[.int .i64 0, .int .i64 0, .int .i64 0, .int .i64 0, .int .i64 (m : Int), .string ⟨#[]⟩] 104)) (w.heap.size + 1) zeroC 104 := hZ2.alloc _
  have hR3 : Row (w2.alloc (.cells #[.int .i64 0, .int .i64 0, .int .i64 0, .int .i64 0, .int .i64 (m : Int), .string ⟨#[]⟩] 104)) w2.heap.size (verC (headV v m 0)) 104 := Row.new _ _ _
  have hB3 : Below w.heap.size w (w2.alloc (.cells #[.int .i64 0, .int .i64 0, .int .i64 0, .int .i64 0, .int .i64 (m : Int), .string ⟨#[]⟩] 104)) := hB2.alloc hB2.size _
  have hlt2 := hZ2.lt
  obtain ⟨w3, hw3⟩ : ∃ x, x = w2.alloc (.cells #[.int .i64 0, .int .i64 0, .int .i64 0, .int .i64 0, .int .i64 (m : Int), .string ⟨#[]⟩] 104) := ⟨_, rfl⟩
  rw [← hw3] at hA3 hZ3 hR3 hB3
  have hw3' := hw3.symm
  have HI : Hid (Row w3 w.heap.size (verC v) 104 ∧ Row w3 (w.heap.size + 1) zeroC 104 ∧ Row w3 w2.heap.size (verC (headV v m 0)) 104 ∧ Below w.heap.size w w3) := ⟨hA3, hZ3, hR3, hB3⟩
  clear hw3 hA3 hZ3 hR3 hB3 hA2 hZ2 hB2
  go_enter Tryz.func176, Tryz.ntmps176
  go_wp2_with (first | (go_at_call 106; refine hM.mono ?_; rintro e w9 ⟨rfl, hw9⟩; rw [hw9]; clear hw9) | refine wpList_load_row rfl 104 _ rfl w.heap.size rfl 104 (verC v) (0, 0) _ hA Tryz.underlying104 rfl infoRs ?_ | refine wpList_store_new rfl 104 _ _ rfl w2 zeroC #[.int .i64 0, .int .i64 0, .int .i64 0, .int .i64 0, .int .i64 (m : Int), .string ⟨#[]⟩] 104 rfl w2.heap.size rfl rfl rfl infoRs rfl (verC_one ⟨0, 0, 0, 0, (m : Int), ⟨#[]⟩⟩) ?_)
  clear hM hA hw1' hw3'
  go_loopw [7] (fun i wr => ∃ k : Nat, k ≤ m ∧ i = .int .i64 k ∧ Row wr w.heap.size (verC v) 104 ∧ Row wr (w.heap.size + 1) zeroC 104 ∧ Row wr w2.heap.size (verC (headV v m k)) 104 ∧ Below w.heap.size w wr) (fun i _ => m - (intOf i).toNat)
  case atStart => exact ⟨0, Nat.zero_le _, rfl, HI.out⟩
  case round =>
    obtain ⟨k, hk, rfl, hR1, hR2, hR3, hB⟩ := hrel
    have HR1 : Hid (Row wr w.heap.size (verC v) 104) := hR1
    have HR2 : Hid (Row wr (w.heap.size + 1) zeroC 104) := hR2
    have HR3 : Hid (Row wr w2.heap.size (verC (headV v m k)) 104) := hR3
    have HBr : Hid (Below w.heap.size w wr) := hB
    clear hR1 hR2 hR3 hB
    by_cases hlt : k < m
    · have hlt' : (k : Int) < (m : Int) := by omega
      have hk4 : (k : Int) < 4 := by omega
      have c1 : wr.cell? ⟨w.heap.size, k, none⟩ = some (.int .i64 (nAt v k)) := (Row.cell HR1.out k).trans (ver_cell v k (by omega))
      have c2 : wr.cell? ⟨w2.heap.size, k, none⟩ = some (.int .i64 (nAt (headV v m k) k)) := (Row.cell HR3.out k).trans (ver_cell _ k (by omega))
      have f2 := Row.frozen HR3.out k
      have hN := Row.setCell HR3.out (i := k) (.int .i64 (nAt v k))
      rw [setN_row _ k _ (by omega), headV_more v m k (by omega)] at hN
      have HN : Hid (Row wr w.heap.size (verC v) 104 → True) := fun _ => trivial
      have HNx : Hid (Row (wr.setCell ⟨w2.heap.size, k, none⟩ (.int .i64 (nAt v k))) w.heap.size (verC v) 104 ∧ Row (wr.setCell ⟨w2.heap.size, k, none⟩ (.int .i64 (nAt v k))) (w.heap.size + 1) zeroC 104 ∧ Row (wr.setCell ⟨w2.heap.size, k, none⟩ (.int .i64 (nAt v k))) w2.heap.size (verC (headV v m (k + 1))) 104 ∧ Below w.heap.size w (wr.setCell ⟨w2.heap.size, k, none⟩ (.int .i64 (nAt v k)))) :=
        ⟨Row.setCell_other HR1.out (by omega) _, Row.setCell_other HR2.out (by omega) _, hN, HBr.out.trans (below_set (by omega) _ _)⟩
      generalize nAt v k = x at *
      generalize nAt (headV v m k) k = y at *
      clear hN HN
      go_wp2
      go_roundw
      case rel => exact ⟨k + 1, by omega, by go_num, HNx.out⟩
      case measure => simp [intOf]; omega
    · have hlt' : ¬ (k : Int) < (m : Int) := by omega
      obtain rfl : k = m := by omega
      obtain ⟨m1, hm1⟩ : ∃ m1, m1 = k - 1 := ⟨_, rfl⟩
      have hwm : IntKind.i64.wrap ((k : Int) - 1) = (m1 : Int) := by rw [IntKind.wrap_i64]; omega
      have hm14 : (m1 : Int) < 4 := by omega
      obtain ⟨x, hx⟩ : ∃ x, x = nAt v m1 := ⟨_, rfl⟩
      have c2 : wr.cell? ⟨w2.heap.size, m1, none⟩ = some (.int .i64 x) := (Row.cell HR3.out m1).trans ((ver_cell _ m1 (by omega)).trans (by rw [hx, hm1, headV_at v k hm4]))
      have f2 := Row.frozen HR3.out m1
      have hN := Row.setCell HR3.out (i := m1) (.int .i64 (x + 1))
      rw [setN_row _ m1 _ (by omega), hx, hm1, headV_bump v k hm4, ← hm1, ← hx] at hN
      have hZ4 : Row (wr.setCell ⟨w2.heap.size, m1, none⟩ (.int .i64 (x + 1))) (w.heap.size + 1) zeroC 104 := Row.setCell_other HR2.out (by omega) _
      have hB4 : Below w.heap.size w (wr.setCell ⟨w2.heap.size, m1, none⟩ (.int .i64 (x + 1))) := HBr.out.trans (below_set (by omega) _ _)
      have hxr : 0 ≤ x ∧ x ≤ 999999999 := by rw [hx, hm1]; exact ⟨hok.1, hok.2.1⟩
      have HEm2 : Hid (x = 999999999 → bumpE v (k : Int) = .tuple #[verV zeroV, .int .i64 20]) := fun h => HEm.out (by rw [← hm1, ← hx]; exact h)
      have HEf2 : Hid (x ≠ 999999999 → bumpE v (k : Int) = .tuple #[verV (bumpV v k), .int .i64 0]) := fun h => HEf.out (by rw [← hm1, ← hx]; exact h)
      have hwx : IntKind.i64.wrap (x + 1) = x + 1 := by rw [IntKind.wrap_i64]; omega
      obtain ⟨w4, hw4⟩ : ∃ z, z = wr.setCell ⟨w2.heap.size, m1, none⟩ (.int .i64 (x + 1)) := ⟨_, rfl⟩
      rw [← hw4] at hN hZ4 hB4
      have hw4' := hw4.symm
      have c4 : w4.cell? ⟨w2.heap.size, m1, none⟩ = some (.int .i64 (x + 1)) := by
        rw [hw4]
        have h := Row.cell (Row.setCell HR3.out (i := m1) (.int .i64 (x + 1))) m1
        rw [h]
        have : m1 < 6 := by omega
        simp [this]
      have HN4 : Hid (Row w4 w2.heap.size (verC (bumpV v k)) 104) := hN
      have HZ4 : Hid (Row w4 (w.heap.size + 1) zeroC 104) := hZ4
      have HB4 : Hid (Below w.heap.size w w4) := hB4
      clear hN hZ4 hB4 hw4 hx hm1 hok
      by_cases h9 : x = 999999999
      · have HE : Hid _ := HEm2.out h9
        have h9' : 999999999 < x + 1 := by omega
        clear h9
        go_wp2_with (refine wpList_store_row rfl 104 _ _ rfl (w.heap.size + 1) zeroC rfl rfl 104 zeroC HZ4.out infoRs rfl zeroC_one ?_)
        exact bodyPost_ret (results_cell_row2 resultsRb _ _ (w.heap.size + 1) 104 zeroC (0, 0) _ rfl (Row.setRow HZ4.out) Tryz.underlying104 rfl infoRs) rfl ⟨by rw [HE.out]; rfl, bel_setRow HB4.out (by omega) _⟩
      · have HE : Hid _ := HEf2.out h9
        have h9' : ¬ 999999999 < x + 1 := by omega
        obtain ⟨CV, hCV⟩ : ∃ CV, CV = verC (bumpV v k) := ⟨_, rfl⟩
        have HCV : Hid _ := hCV
        have hiCV : (Tryz.prog.info? 104).map (·.size) = some CV.size := by rw [hCV]; exact infoRs
        have hoCV : CV.all (·.oneCell') = true := by rw [hCV]; exact verC_one _
        have hsCV : zeroC.size = CV.size := by rw [hCV]; rfl
        rw [← hCV] at HN4
        clear hCV
        go_wp2_with (first | refine wpList_load_row rfl 104 _ rfl w2.heap.size rfl 104 _ (0, 0) _ HN4.out Tryz.underlying104 rfl hiCV ?_ | refine wpList_store_row rfl 104 _ _ rfl (w.heap.size + 1) CV rfl rfl 104 zeroC HZ4.out hiCV hsCV hoCV ?_)
        exact bodyPost_ret (results_cell_row2 resultsRb _ _ (w.heap.size + 1) 104 CV (0, 0) _ rfl (Row.setRow HZ4.out) Tryz.underlying104 rfl hiCV) rfl ⟨by rw [HE.out, HCV.out]; rfl, bel_setRow HB4.out (by omega) _⟩
theorem refBump_ok (v : Ver) (n : Int) (w : World) (hs : v.tag.size ≤ 140737488355328) : Calls Tryz.prog 176 #[verV v, .int .i64 n] w fun e w' => e = .returned (bumpE v n) ∧ Below w.heap.size w w' := by
  cases hm : mayV v with
  | false => exact refBump_no v n w hs hm
  | true =>
    by_cases hn : 1 ≤ n ∧ n ≤ 4
    · obtain ⟨m, rfl⟩ := Int.eq_ofNat_of_zero_le (show 0 ≤ n by omega)
      exact refBump_in v m w hs hm (by omega)
    · exact refBump_arg v n w hs hm hn
end Go.Proofs.YtkbhckjpmgkgjaaGreatDoor
