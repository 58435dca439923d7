/- My own work: the walk of Bump. -/
import Derived.Test.YtkbhckjpmgkgjaaGreatDoorV9
import Derived.Laws.CopyRow
namespace Go.Proofs.YtkbhckjpmgkgjaaGreatDoor
open Go.RowKit

theorem resultsBu : Tryz.f168.results = #[.cell 4 112, .tmp 5] := by kernel_rfl
/-- The version behind all that begin with the first n numbers. -/
def bumpV (v : Ver) : Nat → Ver
  | 1 => ⟨v.n0 + 1, 0, 0, 0, 1, ⟨#[]⟩⟩
  | 2 => ⟨v.n0, v.n1 + 1, 0, 0, 2, ⟨#[]⟩⟩
  | 3 => ⟨v.n0, v.n1, v.n2 + 1, 0, 3, ⟨#[]⟩⟩
  | _ => ⟨v.n0, v.n1, v.n2, v.n3 + 1, 4, ⟨#[]⟩⟩
/-- Bump's answer. -/
def bumpR (v : Ver) (n : Int) : Ver × Int := if mayV v then (if 1 ≤ n ∧ n ≤ 4 then (if nAt v (n.toNat - 1) = 999999999 then (zeroV, 20) else (bumpV v n.toNat, 0)) else (zeroV, 2)) else (zeroV, 20)
def bumpE (v : Ver) (n : Int) : Value := .tuple #[verV (bumpR v n).1, .int .i64 (bumpR v n).2]
theorem bumpE_of {v : Ver} {n : Int} {r : Ver × Int} (h : bumpR v n = r) : bumpE v n = .tuple #[verV r.1, .int .i64 r.2] := by unfold bumpE; rw [h]
theorem exec_copy {P : Program} {o : Oper} {a : Act} {w w' : World} {v X Y : Value} (d s : Operand) (dT sT ty : TypeId) (ht : o.type = ty) (ho : o.op = .call { callee := .builtin .copy, args := #[d, s], argTypes := #[dT, sT] }) (hd : a.eval d = X) (hs : a.eval s = Y)
    (hrun : (Builtin.copy_ #[dT, sT] ty #[X, Y]).run P w = .ok v w') : (execOp a.eval o).run P w = .ok (.value v) w' := by
  subst ht
  simp [execOp, ho, resolve, invoke, builtin, hd, hs, hrun, Result.andThen]
theorem info3s : (Tryz.prog.info? 3).map (·.size) = some 1 := by kernel_rfl
set_option maxRecDepth 20000 in
set_option maxHeartbeats 8000000 in
theorem bump_no (v : Ver) (n : Int) (w : World) (hm : mayV v = false) : Calls Tryz.prog 168 #[verV v, .int .i64 n] w fun e w' => e = .returned (bumpE v n) ∧ Below w.heap.size w w' := by
  have HE : Hid (bumpE v n = .tuple #[verV zeroV, .int .i64 20]) := bumpE_of (r := (zeroV, 20)) (by unfold bumpR; rw [hm]; rfl)
  have hA : Row ((w.alloc (.cells (verC v) 112)).alloc (.cells zeroC 112)) w.heap.size (verC v) 112 := (Row.new w _ _).alloc _
  have hZ : Row ((w.alloc (.cells (verC v) 112)).alloc (.cells zeroC 112)) (w.heap.size + 1) zeroC 112 := by
    have h := Row.new (w.alloc (.cells (verC v) 112)) zeroC 112
    rw [World.size_alloc] at h
    exact h
  have hb : Below w.heap.size w ((w.alloc (.cells (verC v) 112)).alloc (.cells zeroC 112)) := ((Below.refl _ _).alloc (Nat.le_refl _) _).alloc (by simp) _
  obtain ⟨w1, hw1⟩ : ∃ x, x = (w.alloc (.cells (verC v) 112)).alloc (.cells zeroC 112) := ⟨_, rfl⟩
  have hw1' := hw1.symm
  rw [← hw1] at hA hZ hb
  clear hw1
  have hM := mayBe_ok v w1
  rw [hm] at hM
  have hb2 : Below w1.heap.size w1 (boxW w1 v) := (Below.refl _ _).alloc (Nat.le_refl _) _
  have hA2 := hA.below hb2 hA.lt
  have hZ2 := hZ.below hb2 hZ.lt
  have hB2 := hb.trans (hb2.mono hb.size)
  obtain ⟨w2, hw2⟩ : ∃ x, x = boxW w1 v := ⟨_, rfl⟩
  rw [← hw2] at hM hA2 hZ2 hB2
  clear hw2 hb2 hZ hb
  go_enter Tryz.func168, Tryz.ntmps168
  go_wp2_with (first | (go_at_call 95; refine hM.mono ?_; rintro e w9 ⟨rfl, hw9⟩; rw [hw9]; clear hw9) | refine wpList_load_row rfl 112 _ rfl w.heap.size rfl 112 (verC v) (0, 0) _ hA Tryz.underlying112 rfl infoVs ?_ | refine wpList_store_row rfl 112 _ _ rfl (w.heap.size + 1) zeroC rfl rfl 112 zeroC hZ2 infoVs rfl zeroC_one ?_)
  exact bodyPost_ret (results_cell_row2 resultsBu _ _ (w.heap.size + 1) 112 zeroC (0, 0) _ rfl (Row.setRow hZ2) Tryz.underlying112 rfl infoVs) rfl ⟨by rw [HE.out]; rfl, bel_setRow hB2 (by omega) _⟩
set_option maxRecDepth 20000 in
set_option maxHeartbeats 8000000 in
theorem bump_arg (v : Ver) (n : Int) (w : World) (hm : mayV v = true) (hn : ¬ (1 ≤ n ∧ n ≤ 4)) : Calls Tryz.prog 168 #[verV v, .int .i64 n] w fun e w' => e = .returned (bumpE v n) ∧ Below w.heap.size w w' := by
  have HE : Hid (bumpE v n = .tuple #[verV zeroV, .int .i64 2]) := bumpE_of (r := (zeroV, 2)) (by unfold bumpR; rw [hm, if_pos rfl, if_neg hn])
  have hA : Row ((w.alloc (.cells (verC v) 112)).alloc (.cells zeroC 112)) w.heap.size (verC v) 112 := (Row.new w _ _).alloc _
  have hZ : Row ((w.alloc (.cells (verC v) 112)).alloc (.cells zeroC 112)) (w.heap.size + 1) zeroC 112 := by
    have h := Row.new (w.alloc (.cells (verC v) 112)) zeroC 112
    rw [World.size_alloc] at h
    exact h
  have hb : Below w.heap.size w ((w.alloc (.cells (verC v) 112)).alloc (.cells zeroC 112)) := ((Below.refl _ _).alloc (Nat.le_refl _) _).alloc (by simp) _
  obtain ⟨w1, hw1⟩ : ∃ x, x = (w.alloc (.cells (verC v) 112)).alloc (.cells zeroC 112) := ⟨_, rfl⟩
  have hw1' := hw1.symm
  rw [← hw1] at hA hZ hb
  clear hw1
  have hM := mayBe_ok v w1
  rw [hm] at hM
  have hb2 : Below w1.heap.size w1 (boxW w1 v) := (Below.refl _ _).alloc (Nat.le_refl _) _
  have hA2 := hA.below hb2 hA.lt
  have hZ2 := hZ.below hb2 hZ.lt
  have hB2 := hb.trans (hb2.mono hb.size)
  obtain ⟨w2, hw2⟩ : ∃ x, x = boxW w1 v := ⟨_, rfl⟩
  rw [← hw2] at hM hA2 hZ2 hB2
  clear hw2 hb2 hZ hb
  have hwi := withinI n 1 4 w2
  rw [show (decide ((1 : Int) ≤ n) && decide (n ≤ 4)) = false by simp; omega] at hwi
  clear hn
  go_enter Tryz.func168, Tryz.ntmps168
  go_wp2_with (first | (go_at_call 95; refine hM.mono ?_; rintro e w9 ⟨rfl, hw9⟩; rw [hw9]; clear hw9) | (go_at_call 109; refine hwi.mono ?_; rintro e w9 ⟨rfl, hw9⟩; rw [hw9]; clear hw9) | refine wpList_load_row rfl 112 _ rfl w.heap.size rfl 112 (verC v) (0, 0) _ hA Tryz.underlying112 rfl infoVs ?_ | refine wpList_store_row rfl 112 _ _ rfl (w.heap.size + 1) zeroC rfl rfl 112 zeroC hZ2 infoVs rfl zeroC_one ?_)
  exact bodyPost_ret (results_cell_row2 resultsBu _ _ (w.heap.size + 1) 112 zeroC (0, 0) _ rfl (Row.setRow hZ2) Tryz.underlying112 rfl infoVs) rfl ⟨by rw [HE.out]; rfl, bel_setRow hB2 (by omega) _⟩
set_option maxRecDepth 20000 in
set_option maxHeartbeats 8000000 in
theorem bump_1 (v : Ver) (w : World) (hm : mayV v = true) : Calls Tryz.prog 168 #[verV v, .int .i64 1] w fun e w' => e = .returned (bumpE v 1) ∧ Below w.heap.size w w' := by
  have hmx0 := ((may_all v).1 ((mayV_iff v).1 hm)).2.2 0 (by omega)
  have hA : Row ((w.alloc (.cells (verC v) 112)).alloc (.cells zeroC 112)) w.heap.size (verC v) 112 := (Row.new w _ _).alloc _
  have hZ : Row ((w.alloc (.cells (verC v) 112)).alloc (.cells zeroC 112)) (w.heap.size + 1) zeroC 112 := by
    have h := Row.new (w.alloc (.cells (verC v) 112)) zeroC 112
    rw [World.size_alloc] at h
    exact h
  have hb : Below w.heap.size w ((w.alloc (.cells (verC v) 112)).alloc (.cells zeroC 112)) := ((Below.refl _ _).alloc (Nat.le_refl _) _).alloc (by simp) _
  obtain ⟨w1, hw1⟩ : ∃ x, x = (w.alloc (.cells (verC v) 112)).alloc (.cells zeroC 112) := ⟨_, rfl⟩
  have hw1' := hw1.symm
  rw [← hw1] at hA hZ hb
  clear hw1
  have hM := mayBe_ok v w1
  rw [hm] at hM
  have hb2 : Below w1.heap.size w1 (boxW w1 v) := (Below.refl _ _).alloc (Nat.le_refl _) _
  have hA2 := hA.below hb2 hA.lt
  have hZ2 := hZ.below hb2 hZ.lt
  have hB2 := hb.trans (hb2.mono hb.size)
  obtain ⟨w2, hw2⟩ : ∃ x, x = boxW w1 v := ⟨_, rfl⟩
  rw [← hw2] at hM hA2 hZ2 hB2
  clear hw2 hb2 hZ hb
  have hwi := withinI 1 1 4 w2
  rw [show (decide ((1 : Int) ≤ 1) && decide ((1 : Int) ≤ 4)) = true by decide] at hwi
  have aK : w2.cell? ⟨w.heap.size, 0, none⟩ = some (.int .i64 v.n0) := (hA2.cell 0).trans rfl
  by_cases hmx : v.n0 = 999999999
  · have HE : Hid (bumpE v 1 = .tuple #[verV zeroV, .int .i64 20]) := bumpE_of (r := (zeroV, 20)) (by unfold bumpR; rw [hm, if_pos rfl, if_pos (by decide), if_pos (by exact hmx)])
    go_enter Tryz.func168, Tryz.ntmps168
    go_wp2_with (first | (go_at_call 95; refine hM.mono ?_; rintro e w9 ⟨rfl, hw9⟩; rw [hw9]; clear hw9) | (go_at_call 109; refine hwi.mono ?_; rintro e w9 ⟨rfl, hw9⟩; rw [hw9]; clear hw9) | refine wpList_load_row rfl 112 _ rfl w.heap.size rfl 112 (verC v) (0, 0) _ hA Tryz.underlying112 rfl infoVs ?_ | refine wpList_store_row rfl 112 _ _ rfl (w.heap.size + 1) zeroC rfl rfl 112 zeroC hZ2 infoVs rfl zeroC_one ?_)
    exact bodyPost_ret (results_cell_row2 resultsBu _ _ (w.heap.size + 1) 112 zeroC (0, 0) _ rfl (Row.setRow hZ2) Tryz.underlying112 rfl infoVs) rfl ⟨by rw [HE.out]; rfl, bel_setRow hB2 (by omega) _⟩
  · have HE : Hid (bumpE v 1 = .tuple #[verV (bumpV v 1), .int .i64 0]) := bumpE_of (r := (bumpV v 1, 0)) (by unfold bumpR; rw [hm, if_pos rfl, if_pos (by decide), if_neg (by exact hmx)]; rfl)
    have hmb : (v.n0 == 999999999) = false := by simpa using hmx
    obtain ⟨hmin, hmax, _⟩ := hmx0
    have hmin' : 0 ≤ v.n0 := hmin
    have hmax' : v.n0 ≤ 999999998 := by
      have : v.n0 ≤ 999999999 := hmax
      omega
    clear hmin hmax
    have HMB : Hid (0 ≤ v.n0 ∧ v.n0 ≤ 999999998) := ⟨hmin', hmax'⟩
    have hA3 : Row (w2.alloc (.cells #[.int .i64 0, .int .i64 0, .int .i64 0, .int .i64 0, .int .i64 1, .string ⟨#[]⟩] 112)) w.heap.size (verC v) 112 := hA2.alloc _
    have hZ3 : Row (w2.alloc (.cells #[.int .i64 0, .int .i64 0, .int .i64 0, .int .i64 0, .int .i64 1, .string ⟨#[]⟩] 112)) (w.heap.size + 1) zeroC 112 := hZ2.alloc _
    have hR3 : Row (w2.alloc (.cells #[.int .i64 0, .int .i64 0, .int .i64 0, .int .i64 0, .int .i64 1, .string ⟨#[]⟩] 112)) w2.heap.size #[.int .i64 0, .int .i64 0, .int .i64 0, .int .i64 0, .int .i64 1, .string ⟨#[]⟩] 112 := Row.new _ _ _
    have hB3 : Below w.heap.size w (w2.alloc (.cells #[.int .i64 0, .int .i64 0, .int .i64 0, .int .i64 0, .int .i64 1, .string ⟨#[]⟩] 112)) := hB2.alloc hB2.size _
    have hlt2 := hZ2.lt
    obtain ⟨w3, hw3⟩ : ∃ x, x = w2.alloc (.cells #[.int .i64 0, .int .i64 0, .int .i64 0, .int .i64 0, .int .i64 1, .string ⟨#[]⟩] 112) := ⟨_, rfl⟩
    rw [← hw3] at hA3 hZ3 hR3 hB3
    have hcp : (Builtin.copy_ #[179, 179] 3 #[.slice (some ⟨w2.heap.size, 0, none⟩) 1 4, .slice (some ⟨w.heap.size, 0, none⟩) 1 4]).run Tryz.prog w3.drew = .ok (.int .i64 1) (w3.drew.setRow w2.heap.size #[.int .i64 v.n0, .int .i64 0, .int .i64 0, .int .i64 0, .int .i64 1, .string ⟨#[]⟩]) := run_copy_row (P := Tryz.prog) w3.drew 179 179 3 3 w2.heap.size 0 1 4 ⟨w.heap.size, 0, none⟩ 1 4 #[.int .i64 0, .int .i64 0, .int .i64 0, .int .i64 0, .int .i64 1, .string ⟨#[]⟩] 112 [.int .i64 v.n0] Tryz.underlying179 info3s hR3 rfl (fun j u hj => by
      match j, hj with
      | 0, hj => exact (show w3.drew.cell? _ = (verC v)[0]? from hA3.cell 0).trans hj
      | j + 1, hj => simp at hj) (by simp) (by simp [Value.oneCell'])
    have hw3' := hw3.symm
    go_enter Tryz.func168, Tryz.ntmps168
    go_upto_region 9 with (first | (go_at_call 95; refine hM.mono ?_; rintro e w9 ⟨rfl, hw9⟩; rw [hw9]; clear hw9) | (go_at_call 109; refine hwi.mono ?_; rintro e w9 ⟨rfl, hw9⟩; rw [hw9]; clear hw9) | refine wpList_load_row rfl 112 _ rfl w.heap.size rfl 112 (verC v) (0, 0) _ hA Tryz.underlying112 rfl infoVs ?_ | refine wpList_store_new rfl 112 _ _ rfl w2 zeroC #[.int .i64 0, .int .i64 0, .int .i64 0, .int .i64 0, .int .i64 1, .string ⟨#[]⟩] 112 rfl w2.heap.size rfl rfl rfl infoVs rfl (verC_one ⟨0, 0, 0, 0, 1, ⟨#[]⟩⟩) ?_)
    rw [hw3']
    refine wp_region_mix [false, false, false, false, false, false, true] (fun _ => True) (by kernel_rfl) (by kernel_rfl) trivial ?_
    simp only [Act.put]
    refine m_value ?_ (by rfl) (fun w hw => ?_) ?_
    rotate_left
    · go_simp
      with_reducible rfl
    simp only [Act.put, List.setIfInBounds_toArray, List.set_cons_zero, List.set_cons_succ]
    refine m_value ?_ (by rfl) (fun w hw => ?_) ?_
    rotate_left
    · go_simp
      with_reducible rfl
    simp only [Act.put, List.setIfInBounds_toArray, List.set_cons_zero, List.set_cons_succ]
    refine m_value ?_ (by rfl) (fun w hw => ?_) ?_
    rotate_left
    · go_simp
      with_reducible rfl
    simp only [Act.put, List.setIfInBounds_toArray, List.set_cons_zero, List.set_cons_succ]
    refine m_value ?_ (by rfl) (fun w hw => ?_) ?_
    rotate_left
    · go_simp
      with_reducible rfl
    simp only [Act.put, List.setIfInBounds_toArray, List.set_cons_zero, List.set_cons_succ]
    refine m_value ?_ (by rfl) (fun w hw => ?_) ?_
    rotate_left
    · go_simp
      with_reducible rfl
    simp only [Act.put, List.setIfInBounds_toArray, List.set_cons_zero, List.set_cons_succ]
    refine m_value ?_ (by rfl) (fun w hw => ?_) ?_
    rotate_left
    · go_simp
      with_reducible rfl
    simp only [Act.put, List.setIfInBounds_toArray, List.set_cons_zero, List.set_cons_succ]
    refine m_alone (.int .i64 1) _ (by rfl) (exec_copy _ _ 179 179 3 rfl rfl rfl rfl hcp) trivial ?_
    refine m_done ?_
    simp only [Exit.then, Act.put, List.setIfInBounds_toArray, List.set_cons_zero, List.set_cons_succ]
    have hR4 : Row (w3.drew.setRow w2.heap.size #[.int .i64 v.n0, .int .i64 0, .int .i64 0, .int .i64 0, .int .i64 1, .string ⟨#[]⟩]) w2.heap.size #[.int .i64 v.n0, .int .i64 0, .int .i64 0, .int .i64 0, .int .i64 1, .string ⟨#[]⟩] 112 := Row.setRow (w := w3.drew) hR3
    have hZ4 : Row (w3.drew.setRow w2.heap.size #[.int .i64 v.n0, .int .i64 0, .int .i64 0, .int .i64 0, .int .i64 1, .string ⟨#[]⟩]) (w.heap.size + 1) zeroC 112 := Row.other (w := w3.drew) hZ3 (by omega)
    have hB4 : Below w.heap.size w (w3.drew.setRow w2.heap.size #[.int .i64 v.n0, .int .i64 0, .int .i64 0, .int .i64 0, .int .i64 1, .string ⟨#[]⟩]) := bel_setRow (w := w3.drew) (hB3.trans ⟨rfl, rfl, rfl, Nat.le_refl _, fun _ _ => rfl⟩) (by omega) _
    obtain ⟨w4, hw4⟩ : ∃ x, x = w3.drew.setRow w2.heap.size #[.int .i64 v.n0, .int .i64 0, .int .i64 0, .int .i64 0, .int .i64 1, .string ⟨#[]⟩] := ⟨_, rfl⟩
    rw [← hw4] at hR4 hZ4 hB4
    rw [← hw4]
    have c4 : w4.cell? ⟨w2.heap.size, 0, none⟩ = some (.int .i64 v.n0) := (hR4.cell 0).trans rfl
    have f4 := hR4.frozen 0
    have hR5 : Row (w4.setCell ⟨w2.heap.size, 0, none⟩ (.int .i64 (v.n0 + 1))) w2.heap.size (verC (bumpV v 1)) 112 := hR4.setCell (i := 0) (.int .i64 (v.n0 + 1))
    have hZ5 : Row (w4.setCell ⟨w2.heap.size, 0, none⟩ (.int .i64 (v.n0 + 1))) (w.heap.size + 1) zeroC 112 := hZ4.setCell_other (by omega) _
    have hB5 : Below w.heap.size w (w4.setCell ⟨w2.heap.size, 0, none⟩ (.int .i64 (v.n0 + 1))) := hB4.trans (below_set (by omega) _ _)
    obtain ⟨w5, hw5⟩ : ∃ x, x = w4.setCell ⟨w2.heap.size, 0, none⟩ (.int .i64 (v.n0 + 1)) := ⟨_, rfl⟩
    rw [← hw5] at hR5 hZ5 hB5
    have hw5' := hw5.symm
    have hwk : IntKind.i64.wrap (v.n0 + 1) = v.n0 + 1 := by rw [IntKind.wrap_i64]; omega
    obtain ⟨CV, hCV⟩ : ∃ CV, CV = verC (bumpV v 1) := ⟨_, rfl⟩
    have HCV : Hid _ := hCV
    have hiCV : (Tryz.prog.info? 112).map (·.size) = some CV.size := by rw [hCV]; exact infoVs
    have hoCV : CV.all (·.oneCell') = true := by rw [hCV]; exact verC_one _
    have hsCV : zeroC.size = CV.size := by rw [hCV]; rfl
    rw [← hCV] at hR5
    have HR5 : Hid (Row w5 w2.heap.size CV 112) := hR5
    have HZ5 : Hid (Row w5 (w.heap.size + 1) zeroC 112) := hZ5
    have HB5 : Hid _ := hB5
    clear hCV hR5 hZ5 hB5 hw5 hB4 hZ4 hR4 hw4 hcp hw3' hw3 hA3 hR3 hZ3 hB3 hA2 hZ2 hB2 hA hw1'
    go_wp2_with (first | refine wpList_load_row rfl 112 _ rfl w2.heap.size rfl 112 _ (0, 0) _ HR5.out Tryz.underlying112 rfl hiCV ?_ | refine wpList_store_row rfl 112 _ _ rfl (w.heap.size + 1) CV rfl rfl 112 zeroC HZ5.out hiCV hsCV hoCV ?_)
    exact bodyPost_ret (results_cell_row2 resultsBu _ _ (w.heap.size + 1) 112 CV (0, 0) _ rfl (Row.setRow HZ5.out) Tryz.underlying112 rfl hiCV) rfl ⟨by rw [HE.out, HCV.out]; rfl, bel_setRow HB5.out (by omega) _⟩
set_option maxRecDepth 20000 in
set_option maxHeartbeats 8000000 in
theorem bump_2 (v : Ver) (w : World) (hm : mayV v = true) : Calls Tryz.prog 168 #[verV v, .int .i64 2] w fun e w' => e = .returned (bumpE v 2) ∧ Below w.heap.size w w' := by
  have hmx0 := ((may_all v).1 ((mayV_iff v).1 hm)).2.2 1 (by omega)
  have hA : Row ((w.alloc (.cells (verC v) 112)).alloc (.cells zeroC 112)) w.heap.size (verC v) 112 := (Row.new w _ _).alloc _
  have hZ : Row ((w.alloc (.cells (verC v) 112)).alloc (.cells zeroC 112)) (w.heap.size + 1) zeroC 112 := by
    have h := Row.new (w.alloc (.cells (verC v) 112)) zeroC 112
    rw [World.size_alloc] at h
    exact h
  have hb : Below w.heap.size w ((w.alloc (.cells (verC v) 112)).alloc (.cells zeroC 112)) := ((Below.refl _ _).alloc (Nat.le_refl _) _).alloc (by simp) _
  obtain ⟨w1, hw1⟩ : ∃ x, x = (w.alloc (.cells (verC v) 112)).alloc (.cells zeroC 112) := ⟨_, rfl⟩
  have hw1' := hw1.symm
  rw [← hw1] at hA hZ hb
  clear hw1
  have hM := mayBe_ok v w1
  rw [hm] at hM
  have hb2 : Below w1.heap.size w1 (boxW w1 v) := (Below.refl _ _).alloc (Nat.le_refl _) _
  have hA2 := hA.below hb2 hA.lt
  have hZ2 := hZ.below hb2 hZ.lt
  have hB2 := hb.trans (hb2.mono hb.size)
  obtain ⟨w2, hw2⟩ : ∃ x, x = boxW w1 v := ⟨_, rfl⟩
  rw [← hw2] at hM hA2 hZ2 hB2
  clear hw2 hb2 hZ hb
  have hwi := withinI 2 1 4 w2
  rw [show (decide ((1 : Int) ≤ 2) && decide ((2 : Int) ≤ 4)) = true by decide] at hwi
  have aK : w2.cell? ⟨w.heap.size, 1, none⟩ = some (.int .i64 v.n1) := (hA2.cell 1).trans rfl
  by_cases hmx : v.n1 = 999999999
  · have HE : Hid (bumpE v 2 = .tuple #[verV zeroV, .int .i64 20]) := bumpE_of (r := (zeroV, 20)) (by unfold bumpR; rw [hm, if_pos rfl, if_pos (by decide), if_pos (by exact hmx)])
    go_enter Tryz.func168, Tryz.ntmps168
    go_wp2_with (first | (go_at_call 95; refine hM.mono ?_; rintro e w9 ⟨rfl, hw9⟩; rw [hw9]; clear hw9) | (go_at_call 109; refine hwi.mono ?_; rintro e w9 ⟨rfl, hw9⟩; rw [hw9]; clear hw9) | refine wpList_load_row rfl 112 _ rfl w.heap.size rfl 112 (verC v) (0, 0) _ hA Tryz.underlying112 rfl infoVs ?_ | refine wpList_store_row rfl 112 _ _ rfl (w.heap.size + 1) zeroC rfl rfl 112 zeroC hZ2 infoVs rfl zeroC_one ?_)
    exact bodyPost_ret (results_cell_row2 resultsBu _ _ (w.heap.size + 1) 112 zeroC (0, 0) _ rfl (Row.setRow hZ2) Tryz.underlying112 rfl infoVs) rfl ⟨by rw [HE.out]; rfl, bel_setRow hB2 (by omega) _⟩
  · have HE : Hid (bumpE v 2 = .tuple #[verV (bumpV v 2), .int .i64 0]) := bumpE_of (r := (bumpV v 2, 0)) (by unfold bumpR; rw [hm, if_pos rfl, if_pos (by decide), if_neg (by exact hmx)]; rfl)
    have hmb : (v.n1 == 999999999) = false := by simpa using hmx
    obtain ⟨hmin, hmax, _⟩ := hmx0
    have hmin' : 0 ≤ v.n1 := hmin
    have hmax' : v.n1 ≤ 999999998 := by
      have : v.n1 ≤ 999999999 := hmax
      omega
    clear hmin hmax
    have HMB : Hid (0 ≤ v.n1 ∧ v.n1 ≤ 999999998) := ⟨hmin', hmax'⟩
    have hA3 : Row (w2.alloc (.cells #[.int .i64 0, .int .i64 0, .int .i64 0, .int .i64 0, .int .i64 2, .string ⟨#[]⟩] 112)) w.heap.size (verC v) 112 := hA2.alloc _
    have hZ3 : Row (w2.alloc (.cells #[.int .i64 0, .int .i64 0, .int .i64 0, .int .i64 0, .int .i64 2, .string ⟨#[]⟩] 112)) (w.heap.size + 1) zeroC 112 := hZ2.alloc _
    have hR3 : Row (w2.alloc (.cells #[.int .i64 0, .int .i64 0, .int .i64 0, .int .i64 0, .int .i64 2, .string ⟨#[]⟩] 112)) w2.heap.size #[.int .i64 0, .int .i64 0, .int .i64 0, .int .i64 0, .int .i64 2, .string ⟨#[]⟩] 112 := Row.new _ _ _
    have hB3 : Below w.heap.size w (w2.alloc (.cells #[.int .i64 0, .int .i64 0, .int .i64 0, .int .i64 0, .int .i64 2, .string ⟨#[]⟩] 112)) := hB2.alloc hB2.size _
    have hlt2 := hZ2.lt
    obtain ⟨w3, hw3⟩ : ∃ x, x = w2.alloc (.cells #[.int .i64 0, .int .i64 0, .int .i64 0, .int .i64 0, .int .i64 2, .string ⟨#[]⟩] 112) := ⟨_, rfl⟩
    rw [← hw3] at hA3 hZ3 hR3 hB3
    have hcp : (Builtin.copy_ #[179, 179] 3 #[.slice (some ⟨w2.heap.size, 0, none⟩) 2 4, .slice (some ⟨w.heap.size, 0, none⟩) 2 4]).run Tryz.prog w3.drew = .ok (.int .i64 2) (w3.drew.setRow w2.heap.size #[.int .i64 v.n0, .int .i64 v.n1, .int .i64 0, .int .i64 0, .int .i64 2, .string ⟨#[]⟩]) := run_copy_row (P := Tryz.prog) w3.drew 179 179 3 3 w2.heap.size 0 2 4 ⟨w.heap.size, 0, none⟩ 2 4 #[.int .i64 0, .int .i64 0, .int .i64 0, .int .i64 0, .int .i64 2, .string ⟨#[]⟩] 112 [.int .i64 v.n0, .int .i64 v.n1] Tryz.underlying179 info3s hR3 rfl (fun j u hj => by
      match j, hj with
      | 0, hj => exact (show w3.drew.cell? _ = (verC v)[0]? from hA3.cell 0).trans hj
      | 1, hj => exact (show w3.drew.cell? _ = (verC v)[1]? from hA3.cell 1).trans hj
      | j + 2, hj => simp at hj) (by simp) (by simp [Value.oneCell'])
    have hw3' := hw3.symm
    go_enter Tryz.func168, Tryz.ntmps168
    go_upto_region 9 with (first | (go_at_call 95; refine hM.mono ?_; rintro e w9 ⟨rfl, hw9⟩; rw [hw9]; clear hw9) | (go_at_call 109; refine hwi.mono ?_; rintro e w9 ⟨rfl, hw9⟩; rw [hw9]; clear hw9) | refine wpList_load_row rfl 112 _ rfl w.heap.size rfl 112 (verC v) (0, 0) _ hA Tryz.underlying112 rfl infoVs ?_ | refine wpList_store_new rfl 112 _ _ rfl w2 zeroC #[.int .i64 0, .int .i64 0, .int .i64 0, .int .i64 0, .int .i64 2, .string ⟨#[]⟩] 112 rfl w2.heap.size rfl rfl rfl infoVs rfl (verC_one ⟨0, 0, 0, 0, 2, ⟨#[]⟩⟩) ?_)
    rw [hw3']
    refine wp_region_mix [false, false, false, false, false, false, true] (fun _ => True) (by kernel_rfl) (by kernel_rfl) trivial ?_
    simp only [Act.put]
    refine m_value ?_ (by rfl) (fun w hw => ?_) ?_
    rotate_left
    · go_simp
      with_reducible rfl
    simp only [Act.put, List.setIfInBounds_toArray, List.set_cons_zero, List.set_cons_succ]
    refine m_value ?_ (by rfl) (fun w hw => ?_) ?_
    rotate_left
    · go_simp
      with_reducible rfl
    simp only [Act.put, List.setIfInBounds_toArray, List.set_cons_zero, List.set_cons_succ]
    refine m_value ?_ (by rfl) (fun w hw => ?_) ?_
    rotate_left
    · go_simp
      with_reducible rfl
    simp only [Act.put, List.setIfInBounds_toArray, List.set_cons_zero, List.set_cons_succ]
    refine m_value ?_ (by rfl) (fun w hw => ?_) ?_
    rotate_left
    · go_simp
      with_reducible rfl
    simp only [Act.put, List.setIfInBounds_toArray, List.set_cons_zero, List.set_cons_succ]
    refine m_value ?_ (by rfl) (fun w hw => ?_) ?_
    rotate_left
    · go_simp
      with_reducible rfl
    simp only [Act.put, List.setIfInBounds_toArray, List.set_cons_zero, List.set_cons_succ]
    refine m_value ?_ (by rfl) (fun w hw => ?_) ?_
    rotate_left
    · go_simp
      with_reducible rfl
    simp only [Act.put, List.setIfInBounds_toArray, List.set_cons_zero, List.set_cons_succ]
    refine m_alone (.int .i64 2) _ (by rfl) (exec_copy _ _ 179 179 3 rfl rfl rfl rfl hcp) trivial ?_
    refine m_done ?_
    simp only [Exit.then, Act.put, List.setIfInBounds_toArray, List.set_cons_zero, List.set_cons_succ]
    have hR4 : Row (w3.drew.setRow w2.heap.size #[.int .i64 v.n0, .int .i64 v.n1, .int .i64 0, .int .i64 0, .int .i64 2, .string ⟨#[]⟩]) w2.heap.size #[.int .i64 v.n0, .int .i64 v.n1, .int .i64 0, .int .i64 0, .int .i64 2, .string ⟨#[]⟩] 112 := Row.setRow (w := w3.drew) hR3
    have hZ4 : Row (w3.drew.setRow w2.heap.size #[.int .i64 v.n0, .int .i64 v.n1, .int .i64 0, .int .i64 0, .int .i64 2, .string ⟨#[]⟩]) (w.heap.size + 1) zeroC 112 := Row.other (w := w3.drew) hZ3 (by omega)
    have hB4 : Below w.heap.size w (w3.drew.setRow w2.heap.size #[.int .i64 v.n0, .int .i64 v.n1, .int .i64 0, .int .i64 0, .int .i64 2, .string ⟨#[]⟩]) := bel_setRow (w := w3.drew) (hB3.trans ⟨rfl, rfl, rfl, Nat.le_refl _, fun _ _ => rfl⟩) (by omega) _
    obtain ⟨w4, hw4⟩ : ∃ x, x = w3.drew.setRow w2.heap.size #[.int .i64 v.n0, .int .i64 v.n1, .int .i64 0, .int .i64 0, .int .i64 2, .string ⟨#[]⟩] := ⟨_, rfl⟩
    rw [← hw4] at hR4 hZ4 hB4
    rw [← hw4]
    have c4 : w4.cell? ⟨w2.heap.size, 1, none⟩ = some (.int .i64 v.n1) := (hR4.cell 1).trans rfl
    have f4 := hR4.frozen 1
    have hR5 : Row (w4.setCell ⟨w2.heap.size, 1, none⟩ (.int .i64 (v.n1 + 1))) w2.heap.size (verC (bumpV v 2)) 112 := hR4.setCell (i := 1) (.int .i64 (v.n1 + 1))
    have hZ5 : Row (w4.setCell ⟨w2.heap.size, 1, none⟩ (.int .i64 (v.n1 + 1))) (w.heap.size + 1) zeroC 112 := hZ4.setCell_other (by omega) _
    have hB5 : Below w.heap.size w (w4.setCell ⟨w2.heap.size, 1, none⟩ (.int .i64 (v.n1 + 1))) := hB4.trans (below_set (by omega) _ _)
    obtain ⟨w5, hw5⟩ : ∃ x, x = w4.setCell ⟨w2.heap.size, 1, none⟩ (.int .i64 (v.n1 + 1)) := ⟨_, rfl⟩
    rw [← hw5] at hR5 hZ5 hB5
    have hw5' := hw5.symm
    have hwk : IntKind.i64.wrap (v.n1 + 1) = v.n1 + 1 := by rw [IntKind.wrap_i64]; omega
    obtain ⟨CV, hCV⟩ : ∃ CV, CV = verC (bumpV v 2) := ⟨_, rfl⟩
    have HCV : Hid _ := hCV
    have hiCV : (Tryz.prog.info? 112).map (·.size) = some CV.size := by rw [hCV]; exact infoVs
    have hoCV : CV.all (·.oneCell') = true := by rw [hCV]; exact verC_one _
    have hsCV : zeroC.size = CV.size := by rw [hCV]; rfl
    rw [← hCV] at hR5
    have HR5 : Hid (Row w5 w2.heap.size CV 112) := hR5
    have HZ5 : Hid (Row w5 (w.heap.size + 1) zeroC 112) := hZ5
    have HB5 : Hid _ := hB5
    clear hCV hR5 hZ5 hB5 hw5 hB4 hZ4 hR4 hw4 hcp hw3' hw3 hA3 hR3 hZ3 hB3 hA2 hZ2 hB2 hA hw1'
    go_wp2_with (first | refine wpList_load_row rfl 112 _ rfl w2.heap.size rfl 112 _ (0, 0) _ HR5.out Tryz.underlying112 rfl hiCV ?_ | refine wpList_store_row rfl 112 _ _ rfl (w.heap.size + 1) CV rfl rfl 112 zeroC HZ5.out hiCV hsCV hoCV ?_)
    exact bodyPost_ret (results_cell_row2 resultsBu _ _ (w.heap.size + 1) 112 CV (0, 0) _ rfl (Row.setRow HZ5.out) Tryz.underlying112 rfl hiCV) rfl ⟨by rw [HE.out, HCV.out]; rfl, bel_setRow HB5.out (by omega) _⟩
set_option maxRecDepth 20000 in
set_option maxHeartbeats 8000000 in
theorem bump_3 (v : Ver) (w : World) (hm : mayV v = true) : Calls Tryz.prog 168 #[verV v, .int .i64 3] w fun e w' => e = .returned (bumpE v 3) ∧ Below w.heap.size w w' := by
  have hmx0 := ((may_all v).1 ((mayV_iff v).1 hm)).2.2 2 (by omega)
  have hA : Row ((w.alloc (.cells (verC v) 112)).alloc (.cells zeroC 112)) w.heap.size (verC v) 112 := (Row.new w _ _).alloc _
  have hZ : Row ((w.alloc (.cells (verC v) 112)).alloc (.cells zeroC 112)) (w.heap.size + 1) zeroC 112 := by
    have h := Row.new (w.alloc (.cells (verC v) 112)) zeroC 112
    rw [World.size_alloc] at h
    exact h
  have hb : Below w.heap.size w ((w.alloc (.cells (verC v) 112)).alloc (.cells zeroC 112)) := ((Below.refl _ _).alloc (Nat.le_refl _) _).alloc (by simp) _
  obtain ⟨w1, hw1⟩ : ∃ x, x = (w.alloc (.cells (verC v) 112)).alloc (.cells zeroC 112) := ⟨_, rfl⟩
  have hw1' := hw1.symm
  rw [← hw1] at hA hZ hb
  clear hw1
  have hM := mayBe_ok v w1
  rw [hm] at hM
  have hb2 : Below w1.heap.size w1 (boxW w1 v) := (Below.refl _ _).alloc (Nat.le_refl _) _
  have hA2 := hA.below hb2 hA.lt
  have hZ2 := hZ.below hb2 hZ.lt
  have hB2 := hb.trans (hb2.mono hb.size)
  obtain ⟨w2, hw2⟩ : ∃ x, x = boxW w1 v := ⟨_, rfl⟩
  rw [← hw2] at hM hA2 hZ2 hB2
  clear hw2 hb2 hZ hb
  have hwi := withinI 3 1 4 w2
  rw [show (decide ((1 : Int) ≤ 3) && decide ((3 : Int) ≤ 4)) = true by decide] at hwi
  have aK : w2.cell? ⟨w.heap.size, 2, none⟩ = some (.int .i64 v.n2) := (hA2.cell 2).trans rfl
  by_cases hmx : v.n2 = 999999999
  · have HE : Hid (bumpE v 3 = .tuple #[verV zeroV, .int .i64 20]) := bumpE_of (r := (zeroV, 20)) (by unfold bumpR; rw [hm, if_pos rfl, if_pos (by decide), if_pos (by exact hmx)])
    go_enter Tryz.func168, Tryz.ntmps168
    go_wp2_with (first | (go_at_call 95; refine hM.mono ?_; rintro e w9 ⟨rfl, hw9⟩; rw [hw9]; clear hw9) | (go_at_call 109; refine hwi.mono ?_; rintro e w9 ⟨rfl, hw9⟩; rw [hw9]; clear hw9) | refine wpList_load_row rfl 112 _ rfl w.heap.size rfl 112 (verC v) (0, 0) _ hA Tryz.underlying112 rfl infoVs ?_ | refine wpList_store_row rfl 112 _ _ rfl (w.heap.size + 1) zeroC rfl rfl 112 zeroC hZ2 infoVs rfl zeroC_one ?_)
    exact bodyPost_ret (results_cell_row2 resultsBu _ _ (w.heap.size + 1) 112 zeroC (0, 0) _ rfl (Row.setRow hZ2) Tryz.underlying112 rfl infoVs) rfl ⟨by rw [HE.out]; rfl, bel_setRow hB2 (by omega) _⟩
  · have HE : Hid (bumpE v 3 = .tuple #[verV (bumpV v 3), .int .i64 0]) := bumpE_of (r := (bumpV v 3, 0)) (by unfold bumpR; rw [hm, if_pos rfl, if_pos (by decide), if_neg (by exact hmx)]; rfl)
    have hmb : (v.n2 == 999999999) = false := by simpa using hmx
    obtain ⟨hmin, hmax, _⟩ := hmx0
    have hmin' : 0 ≤ v.n2 := hmin
    have hmax' : v.n2 ≤ 999999998 := by
      have : v.n2 ≤ 999999999 := hmax
      omega
    clear hmin hmax
    have HMB : Hid (0 ≤ v.n2 ∧ v.n2 ≤ 999999998) := ⟨hmin', hmax'⟩
    have hA3 : Row (w2.alloc (.cells #[.int .i64 0, .int .i64 0, .int .i64 0, .int .i64 0, .int .i64 3, .string ⟨#[]⟩] 112)) w.heap.size (verC v) 112 := hA2.alloc _
    have hZ3 : Row (w2.alloc (.cells #[.int .i64 0, .int .i64 0, .int .i64 0, .int .i64 0, .int .i64 3, .string ⟨#[]⟩] 112)) (w.heap.size + 1) zeroC 112 := hZ2.alloc _
    have hR3 : Row (w2.alloc (.cells #[.int .i64 0, .int .i64 0, .int .i64 0, .int .i64 0, .int .i64 3, .string ⟨#[]⟩] 112)) w2.heap.size #[.int .i64 0, .int .i64 0, .int .i64 0, .int .i64 0, .int .i64 3, .string ⟨#[]⟩] 112 := Row.new _ _ _
    have hB3 : Below w.heap.size w (w2.alloc (.cells #[.int .i64 0, .int .i64 0, .int .i64 0, .int .i64 0, .int .i64 3, .string ⟨#[]⟩] 112)) := hB2.alloc hB2.size _
    have hlt2 := hZ2.lt
    obtain ⟨w3, hw3⟩ : ∃ x, x = w2.alloc (.cells #[.int .i64 0, .int .i64 0, .int .i64 0, .int .i64 0, .int .i64 3, .string ⟨#[]⟩] 112) := ⟨_, rfl⟩
    rw [← hw3] at hA3 hZ3 hR3 hB3
    have hcp : (Builtin.copy_ #[179, 179] 3 #[.slice (some ⟨w2.heap.size, 0, none⟩) 3 4, .slice (some ⟨w.heap.size, 0, none⟩) 3 4]).run Tryz.prog w3.drew = .ok (.int .i64 3) (w3.drew.setRow w2.heap.size #[.int .i64 v.n0, .int .i64 v.n1, .int .i64 v.n2, .int .i64 0, .int .i64 3, .string ⟨#[]⟩]) := run_copy_row (P := Tryz.prog) w3.drew 179 179 3 3 w2.heap.size 0 3 4 ⟨w.heap.size, 0, none⟩ 3 4 #[.int .i64 0, .int .i64 0, .int .i64 0, .int .i64 0, .int .i64 3, .string ⟨#[]⟩] 112 [.int .i64 v.n0, .int .i64 v.n1, .int .i64 v.n2] Tryz.underlying179 info3s hR3 rfl (fun j u hj => by
      match j, hj with
      | 0, hj => exact (show w3.drew.cell? _ = (verC v)[0]? from hA3.cell 0).trans hj
      | 1, hj => exact (show w3.drew.cell? _ = (verC v)[1]? from hA3.cell 1).trans hj
      | 2, hj => exact (show w3.drew.cell? _ = (verC v)[2]? from hA3.cell 2).trans hj
      | j + 3, hj => simp at hj) (by simp) (by simp [Value.oneCell'])
    have hw3' := hw3.symm
    go_enter Tryz.func168, Tryz.ntmps168
    go_upto_region 9 with (first | (go_at_call 95; refine hM.mono ?_; rintro e w9 ⟨rfl, hw9⟩; rw [hw9]; clear hw9) | (go_at_call 109; refine hwi.mono ?_; rintro e w9 ⟨rfl, hw9⟩; rw [hw9]; clear hw9) | refine wpList_load_row rfl 112 _ rfl w.heap.size rfl 112 (verC v) (0, 0) _ hA Tryz.underlying112 rfl infoVs ?_ | refine wpList_store_new rfl 112 _ _ rfl w2 zeroC #[.int .i64 0, .int .i64 0, .int .i64 0, .int .i64 0, .int .i64 3, .string ⟨#[]⟩] 112 rfl w2.heap.size rfl rfl rfl infoVs rfl (verC_one ⟨0, 0, 0, 0, 3, ⟨#[]⟩⟩) ?_)
    rw [hw3']
    refine wp_region_mix [false, false, false, false, false, false, true] (fun _ => True) (by kernel_rfl) (by kernel_rfl) trivial ?_
    simp only [Act.put]
    refine m_value ?_ (by rfl) (fun w hw => ?_) ?_
    rotate_left
    · go_simp
      with_reducible rfl
    simp only [Act.put, List.setIfInBounds_toArray, List.set_cons_zero, List.set_cons_succ]
    refine m_value ?_ (by rfl) (fun w hw => ?_) ?_
    rotate_left
    · go_simp
      with_reducible rfl
    simp only [Act.put, List.setIfInBounds_toArray, List.set_cons_zero, List.set_cons_succ]
    refine m_value ?_ (by rfl) (fun w hw => ?_) ?_
    rotate_left
    · go_simp
      with_reducible rfl
    simp only [Act.put, List.setIfInBounds_toArray, List.set_cons_zero, List.set_cons_succ]
    refine m_value ?_ (by rfl) (fun w hw => ?_) ?_
    rotate_left
    · go_simp
      with_reducible rfl
    simp only [Act.put, List.setIfInBounds_toArray, List.set_cons_zero, List.set_cons_succ]
    refine m_value ?_ (by rfl) (fun w hw => ?_) ?_
    rotate_left
    · go_simp
      with_reducible rfl
    simp only [Act.put, List.setIfInBounds_toArray, List.set_cons_zero, List.set_cons_succ]
    refine m_value ?_ (by rfl) (fun w hw => ?_) ?_
    rotate_left
    · go_simp
      with_reducible rfl
    simp only [Act.put, List.setIfInBounds_toArray, List.set_cons_zero, List.set_cons_succ]
    refine m_alone (.int .i64 3) _ (by rfl) (exec_copy _ _ 179 179 3 rfl rfl rfl rfl hcp) trivial ?_
    refine m_done ?_
    simp only [Exit.then, Act.put, List.setIfInBounds_toArray, List.set_cons_zero, List.set_cons_succ]
    have hR4 : Row (w3.drew.setRow w2.heap.size #[.int .i64 v.n0, .int .i64 v.n1, .int .i64 v.n2, .int .i64 0, .int .i64 3, .string ⟨#[]⟩]) w2.heap.size #[.int .i64 v.n0, .int .i64 v.n1, .int .i64 v.n2, .int .i64 0, .int .i64 3, .string ⟨#[]⟩] 112 := Row.setRow (w := w3.drew) hR3
    have hZ4 : Row (w3.drew.setRow w2.heap.size #[.int .i64 v.n0, .int .i64 v.n1, .int .i64 v.n2, .int .i64 0, .int .i64 3, .string ⟨#[]⟩]) (w.heap.size + 1) zeroC 112 := Row.other (w := w3.drew) hZ3 (by omega)
    have hB4 : Below w.heap.size w (w3.drew.setRow w2.heap.size #[.int .i64 v.n0, .int .i64 v.n1, .int .i64 v.n2, .int .i64 0, .int .i64 3, .string ⟨#[]⟩]) := bel_setRow (w := w3.drew) (hB3.trans ⟨rfl, rfl, rfl, Nat.le_refl _, fun _ _ => rfl⟩) (by omega) _
    obtain ⟨w4, hw4⟩ : ∃ x, x = w3.drew.setRow w2.heap.size #[.int .i64 v.n0, .int .i64 v.n1, .int .i64 v.n2, .int .i64 0, .int .i64 3, .string ⟨#[]⟩] := ⟨_, rfl⟩
    rw [← hw4] at hR4 hZ4 hB4
    rw [← hw4]
    have c4 : w4.cell? ⟨w2.heap.size, 2, none⟩ = some (.int .i64 v.n2) := (hR4.cell 2).trans rfl
    have f4 := hR4.frozen 2
    have hR5 : Row (w4.setCell ⟨w2.heap.size, 2, none⟩ (.int .i64 (v.n2 + 1))) w2.heap.size (verC (bumpV v 3)) 112 := hR4.setCell (i := 2) (.int .i64 (v.n2 + 1))
    have hZ5 : Row (w4.setCell ⟨w2.heap.size, 2, none⟩ (.int .i64 (v.n2 + 1))) (w.heap.size + 1) zeroC 112 := hZ4.setCell_other (by omega) _
    have hB5 : Below w.heap.size w (w4.setCell ⟨w2.heap.size, 2, none⟩ (.int .i64 (v.n2 + 1))) := hB4.trans (below_set (by omega) _ _)
    obtain ⟨w5, hw5⟩ : ∃ x, x = w4.setCell ⟨w2.heap.size, 2, none⟩ (.int .i64 (v.n2 + 1)) := ⟨_, rfl⟩
    rw [← hw5] at hR5 hZ5 hB5
    have hw5' := hw5.symm
    have hwk : IntKind.i64.wrap (v.n2 + 1) = v.n2 + 1 := by rw [IntKind.wrap_i64]; omega
    obtain ⟨CV, hCV⟩ : ∃ CV, CV = verC (bumpV v 3) := ⟨_, rfl⟩
    have HCV : Hid _ := hCV
    have hiCV : (Tryz.prog.info? 112).map (·.size) = some CV.size := by rw [hCV]; exact infoVs
    have hoCV : CV.all (·.oneCell') = true := by rw [hCV]; exact verC_one _
    have hsCV : zeroC.size = CV.size := by rw [hCV]; rfl
    rw [← hCV] at hR5
    have HR5 : Hid (Row w5 w2.heap.size CV 112) := hR5
    have HZ5 : Hid (Row w5 (w.heap.size + 1) zeroC 112) := hZ5
    have HB5 : Hid _ := hB5
    clear hCV hR5 hZ5 hB5 hw5 hB4 hZ4 hR4 hw4 hcp hw3' hw3 hA3 hR3 hZ3 hB3 hA2 hZ2 hB2 hA hw1'
    go_wp2_with (first | refine wpList_load_row rfl 112 _ rfl w2.heap.size rfl 112 _ (0, 0) _ HR5.out Tryz.underlying112 rfl hiCV ?_ | refine wpList_store_row rfl 112 _ _ rfl (w.heap.size + 1) CV rfl rfl 112 zeroC HZ5.out hiCV hsCV hoCV ?_)
    exact bodyPost_ret (results_cell_row2 resultsBu _ _ (w.heap.size + 1) 112 CV (0, 0) _ rfl (Row.setRow HZ5.out) Tryz.underlying112 rfl hiCV) rfl ⟨by rw [HE.out, HCV.out]; rfl, bel_setRow HB5.out (by omega) _⟩
set_option maxRecDepth 20000 in
set_option maxHeartbeats 8000000 in
theorem bump_4 (v : Ver) (w : World) (hm : mayV v = true) : Calls Tryz.prog 168 #[verV v, .int .i64 4] w fun e w' => e = .returned (bumpE v 4) ∧ Below w.heap.size w w' := by
  have hmx0 := ((may_all v).1 ((mayV_iff v).1 hm)).2.2 3 (by omega)
  have hA : Row ((w.alloc (.cells (verC v) 112)).alloc (.cells zeroC 112)) w.heap.size (verC v) 112 := (Row.new w _ _).alloc _
  have hZ : Row ((w.alloc (.cells (verC v) 112)).alloc (.cells zeroC 112)) (w.heap.size + 1) zeroC 112 := by
    have h := Row.new (w.alloc (.cells (verC v) 112)) zeroC 112
    rw [World.size_alloc] at h
    exact h
  have hb : Below w.heap.size w ((w.alloc (.cells (verC v) 112)).alloc (.cells zeroC 112)) := ((Below.refl _ _).alloc (Nat.le_refl _) _).alloc (by simp) _
  obtain ⟨w1, hw1⟩ : ∃ x, x = (w.alloc (.cells (verC v) 112)).alloc (.cells zeroC 112) := ⟨_, rfl⟩
  have hw1' := hw1.symm
  rw [← hw1] at hA hZ hb
  clear hw1
  have hM := mayBe_ok v w1
  rw [hm] at hM
  have hb2 : Below w1.heap.size w1 (boxW w1 v) := (Below.refl _ _).alloc (Nat.le_refl _) _
  have hA2 := hA.below hb2 hA.lt
  have hZ2 := hZ.below hb2 hZ.lt
  have hB2 := hb.trans (hb2.mono hb.size)
  obtain ⟨w2, hw2⟩ : ∃ x, x = boxW w1 v := ⟨_, rfl⟩
  rw [← hw2] at hM hA2 hZ2 hB2
  clear hw2 hb2 hZ hb
  have hwi := withinI 4 1 4 w2
  rw [show (decide ((1 : Int) ≤ 4) && decide ((4 : Int) ≤ 4)) = true by decide] at hwi
  have aK : w2.cell? ⟨w.heap.size, 3, none⟩ = some (.int .i64 v.n3) := (hA2.cell 3).trans rfl
  by_cases hmx : v.n3 = 999999999
  · have HE : Hid (bumpE v 4 = .tuple #[verV zeroV, .int .i64 20]) := bumpE_of (r := (zeroV, 20)) (by unfold bumpR; rw [hm, if_pos rfl, if_pos (by decide), if_pos (by exact hmx)])
    go_enter Tryz.func168, Tryz.ntmps168
    go_wp2_with (first | (go_at_call 95; refine hM.mono ?_; rintro e w9 ⟨rfl, hw9⟩; rw [hw9]; clear hw9) | (go_at_call 109; refine hwi.mono ?_; rintro e w9 ⟨rfl, hw9⟩; rw [hw9]; clear hw9) | refine wpList_load_row rfl 112 _ rfl w.heap.size rfl 112 (verC v) (0, 0) _ hA Tryz.underlying112 rfl infoVs ?_ | refine wpList_store_row rfl 112 _ _ rfl (w.heap.size + 1) zeroC rfl rfl 112 zeroC hZ2 infoVs rfl zeroC_one ?_)
    exact bodyPost_ret (results_cell_row2 resultsBu _ _ (w.heap.size + 1) 112 zeroC (0, 0) _ rfl (Row.setRow hZ2) Tryz.underlying112 rfl infoVs) rfl ⟨by rw [HE.out]; rfl, bel_setRow hB2 (by omega) _⟩
  · have HE : Hid (bumpE v 4 = .tuple #[verV (bumpV v 4), .int .i64 0]) := bumpE_of (r := (bumpV v 4, 0)) (by unfold bumpR; rw [hm, if_pos rfl, if_pos (by decide), if_neg (by exact hmx)]; rfl)
    have hmb : (v.n3 == 999999999) = false := by simpa using hmx
    obtain ⟨hmin, hmax, _⟩ := hmx0
    have hmin' : 0 ≤ v.n3 := hmin
    have hmax' : v.n3 ≤ 999999998 := by
      have : v.n3 ≤ 999999999 := hmax
      omega
    clear hmin hmax
    have HMB : Hid (0 ≤ v.n3 ∧ v.n3 ≤ 999999998) := ⟨hmin', hmax'⟩
    have hA3 : Row (w2.alloc (.cells #[.int .i64 0, .int .i64 0, .int .i64 0, .int .i64 0, .int .i64 4, .string ⟨#[]⟩] 112)) w.heap.size (verC v) 112 := hA2.alloc _
    have hZ3 : Row (w2.alloc (.cells #[.int .i64 0, .int .i64 0, .int .i64 0, .int .i64 0, .int .i64 4, .string ⟨#[]⟩] 112)) (w.heap.size + 1) zeroC 112 := hZ2.alloc _
    have hR3 : Row (w2.alloc (.cells #[.int .i64 0, .int .i64 0, .int .i64 0, .int .i64 0, .int .i64 4, .string ⟨#[]⟩] 112)) w2.heap.size #[.int .i64 0, .int .i64 0, .int .i64 0, .int .i64 0, .int .i64 4, .string ⟨#[]⟩] 112 := Row.new _ _ _
    have hB3 : Below w.heap.size w (w2.alloc (.cells #[.int .i64 0, .int .i64 0, .int .i64 0, .int .i64 0, .int .i64 4, .string ⟨#[]⟩] 112)) := hB2.alloc hB2.size _
    have hlt2 := hZ2.lt
    obtain ⟨w3, hw3⟩ : ∃ x, x = w2.alloc (.cells #[.int .i64 0, .int .i64 0, .int .i64 0, .int .i64 0, .int .i64 4, .string ⟨#[]⟩] 112) := ⟨_, rfl⟩
    rw [← hw3] at hA3 hZ3 hR3 hB3
    have hcp : (Builtin.copy_ #[179, 179] 3 #[.slice (some ⟨w2.heap.size, 0, none⟩) 4 4, .slice (some ⟨w.heap.size, 0, none⟩) 4 4]).run Tryz.prog w3.drew = .ok (.int .i64 4) (w3.drew.setRow w2.heap.size #[.int .i64 v.n0, .int .i64 v.n1, .int .i64 v.n2, .int .i64 v.n3, .int .i64 4, .string ⟨#[]⟩]) := run_copy_row (P := Tryz.prog) w3.drew 179 179 3 3 w2.heap.size 0 4 4 ⟨w.heap.size, 0, none⟩ 4 4 #[.int .i64 0, .int .i64 0, .int .i64 0, .int .i64 0, .int .i64 4, .string ⟨#[]⟩] 112 [.int .i64 v.n0, .int .i64 v.n1, .int .i64 v.n2, .int .i64 v.n3] Tryz.underlying179 info3s hR3 rfl (fun j u hj => by
      match j, hj with
      | 0, hj => exact (show w3.drew.cell? _ = (verC v)[0]? from hA3.cell 0).trans hj
      | 1, hj => exact (show w3.drew.cell? _ = (verC v)[1]? from hA3.cell 1).trans hj
      | 2, hj => exact (show w3.drew.cell? _ = (verC v)[2]? from hA3.cell 2).trans hj
      | 3, hj => exact (show w3.drew.cell? _ = (verC v)[3]? from hA3.cell 3).trans hj
      | j + 4, hj => simp at hj) (by simp) (by simp [Value.oneCell'])
    have hw3' := hw3.symm
    go_enter Tryz.func168, Tryz.ntmps168
    go_upto_region 9 with (first | (go_at_call 95; refine hM.mono ?_; rintro e w9 ⟨rfl, hw9⟩; rw [hw9]; clear hw9) | (go_at_call 109; refine hwi.mono ?_; rintro e w9 ⟨rfl, hw9⟩; rw [hw9]; clear hw9) | refine wpList_load_row rfl 112 _ rfl w.heap.size rfl 112 (verC v) (0, 0) _ hA Tryz.underlying112 rfl infoVs ?_ | refine wpList_store_new rfl 112 _ _ rfl w2 zeroC #[.int .i64 0, .int .i64 0, .int .i64 0, .int .i64 0, .int .i64 4, .string ⟨#[]⟩] 112 rfl w2.heap.size rfl rfl rfl infoVs rfl (verC_one ⟨0, 0, 0, 0, 4, ⟨#[]⟩⟩) ?_)
    rw [hw3']
    refine wp_region_mix [false, false, false, false, false, false, true] (fun _ => True) (by kernel_rfl) (by kernel_rfl) trivial ?_
    simp only [Act.put]
    refine m_value ?_ (by rfl) (fun w hw => ?_) ?_
    rotate_left
    · go_simp
      with_reducible rfl
    simp only [Act.put, List.setIfInBounds_toArray, List.set_cons_zero, List.set_cons_succ]
    refine m_value ?_ (by rfl) (fun w hw => ?_) ?_
    rotate_left
    · go_simp
      with_reducible rfl
    simp only [Act.put, List.setIfInBounds_toArray, List.set_cons_zero, List.set_cons_succ]
    refine m_value ?_ (by rfl) (fun w hw => ?_) ?_
    rotate_left
    · go_simp
      with_reducible rfl
    simp only [Act.put, List.setIfInBounds_toArray, List.set_cons_zero, List.set_cons_succ]
    refine m_value ?_ (by rfl) (fun w hw => ?_) ?_
    rotate_left
    · go_simp
      with_reducible rfl
    simp only [Act.put, List.setIfInBounds_toArray, List.set_cons_zero, List.set_cons_succ]
    refine m_value ?_ (by rfl) (fun w hw => ?_) ?_
    rotate_left
    · go_simp
      with_reducible rfl
    simp only [Act.put, List.setIfInBounds_toArray, List.set_cons_zero, List.set_cons_succ]
    refine m_value ?_ (by rfl) (fun w hw => ?_) ?_
    rotate_left
    · go_simp
      with_reducible rfl
    simp only [Act.put, List.setIfInBounds_toArray, List.set_cons_zero, List.set_cons_succ]
    refine m_alone (.int .i64 4) _ (by rfl) (exec_copy _ _ 179 179 3 rfl rfl rfl rfl hcp) trivial ?_
    refine m_done ?_
    simp only [Exit.then, Act.put, List.setIfInBounds_toArray, List.set_cons_zero, List.set_cons_succ]
    have hR4 : Row (w3.drew.setRow w2.heap.size #[.int .i64 v.n0, .int .i64 v.n1, .int .i64 v.n2, .int .i64 v.n3, .int .i64 4, .string ⟨#[]⟩]) w2.heap.size #[.int .i64 v.n0, .int .i64 v.n1, .int .i64 v.n2, .int .i64 v.n3, .int .i64 4, .string ⟨#[]⟩] 112 := Row.setRow (w := w3.drew) hR3
    have hZ4 : Row (w3.drew.setRow w2.heap.size #[.int .i64 v.n0, .int .i64 v.n1, .int .i64 v.n2, .int .i64 v.n3, .int .i64 4, .string ⟨#[]⟩]) (w.heap.size + 1) zeroC 112 := Row.other (w := w3.drew) hZ3 (by omega)
    have hB4 : Below w.heap.size w (w3.drew.setRow w2.heap.size #[.int .i64 v.n0, .int .i64 v.n1, .int .i64 v.n2, .int .i64 v.n3, .int .i64 4, .string ⟨#[]⟩]) := bel_setRow (w := w3.drew) (hB3.trans ⟨rfl, rfl, rfl, Nat.le_refl _, fun _ _ => rfl⟩) (by omega) _
    obtain ⟨w4, hw4⟩ : ∃ x, x = w3.drew.setRow w2.heap.size #[.int .i64 v.n0, .int .i64 v.n1, .int .i64 v.n2, .int .i64 v.n3, .int .i64 4, .string ⟨#[]⟩] := ⟨_, rfl⟩
    rw [← hw4] at hR4 hZ4 hB4
    rw [← hw4]
    have c4 : w4.cell? ⟨w2.heap.size, 3, none⟩ = some (.int .i64 v.n3) := (hR4.cell 3).trans rfl
    have f4 := hR4.frozen 3
    have hR5 : Row (w4.setCell ⟨w2.heap.size, 3, none⟩ (.int .i64 (v.n3 + 1))) w2.heap.size (verC (bumpV v 4)) 112 := hR4.setCell (i := 3) (.int .i64 (v.n3 + 1))
    have hZ5 : Row (w4.setCell ⟨w2.heap.size, 3, none⟩ (.int .i64 (v.n3 + 1))) (w.heap.size + 1) zeroC 112 := hZ4.setCell_other (by omega) _
    have hB5 : Below w.heap.size w (w4.setCell ⟨w2.heap.size, 3, none⟩ (.int .i64 (v.n3 + 1))) := hB4.trans (below_set (by omega) _ _)
    obtain ⟨w5, hw5⟩ : ∃ x, x = w4.setCell ⟨w2.heap.size, 3, none⟩ (.int .i64 (v.n3 + 1)) := ⟨_, rfl⟩
    rw [← hw5] at hR5 hZ5 hB5
    have hw5' := hw5.symm
    have hwk : IntKind.i64.wrap (v.n3 + 1) = v.n3 + 1 := by rw [IntKind.wrap_i64]; omega
    obtain ⟨CV, hCV⟩ : ∃ CV, CV = verC (bumpV v 4) := ⟨_, rfl⟩
    have HCV : Hid _ := hCV
    have hiCV : (Tryz.prog.info? 112).map (·.size) = some CV.size := by rw [hCV]; exact infoVs
    have hoCV : CV.all (·.oneCell') = true := by rw [hCV]; exact verC_one _
    have hsCV : zeroC.size = CV.size := by rw [hCV]; rfl
    rw [← hCV] at hR5
    have HR5 : Hid (Row w5 w2.heap.size CV 112) := hR5
    have HZ5 : Hid (Row w5 (w.heap.size + 1) zeroC 112) := hZ5
    have HB5 : Hid _ := hB5
    clear hCV hR5 hZ5 hB5 hw5 hB4 hZ4 hR4 hw4 hcp hw3' hw3 hA3 hR3 hZ3 hB3 hA2 hZ2 hB2 hA hw1'
    go_wp2_with (first | refine wpList_load_row rfl 112 _ rfl w2.heap.size rfl 112 _ (0, 0) _ HR5.out Tryz.underlying112 rfl hiCV ?_ | refine wpList_store_row rfl 112 _ _ rfl (w.heap.size + 1) CV rfl rfl 112 zeroC HZ5.out hiCV hsCV hoCV ?_)
    exact bodyPost_ret (results_cell_row2 resultsBu _ _ (w.heap.size + 1) 112 CV (0, 0) _ rfl (Row.setRow HZ5.out) Tryz.underlying112 rfl hiCV) rfl ⟨by rw [HE.out, HCV.out]; rfl, bel_setRow HB5.out (by omega) _⟩
/-- Bump. -/
theorem bump_ok (v : Ver) (n : Int) (w : World) : Calls Tryz.prog 168 #[verV v, .int .i64 n] w fun e w' => e = .returned (bumpE v n) ∧ Below w.heap.size w w' := by
  cases hm : mayV v with
  | false => exact bump_no v n w hm
  | true =>
    by_cases hn : 1 ≤ n ∧ n ≤ 4
    · have h4 : n = 1 ∨ n = 2 ∨ n = 3 ∨ n = 4 := by omega
      rcases h4 with rfl | rfl | rfl | rfl
      · exact bump_1 v w hm
      · exact bump_2 v w hm
      · exact bump_3 v w hm
      · exact bump_4 v w hm
    · exact bump_arg v n w hm hn
end Go.Proofs.YtkbhckjpmgkgjaaGreatDoor
