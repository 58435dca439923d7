/- My own work: the walk of Compare. -/
import Derived.Test.YtkbhckjpmgkgjaaGreatDoorV6
import Derived.Deep.MidRow
import Derived.Deep.DeepCutAuto
namespace Go.Proofs.YtkbhckjpmgkgjaaGreatDoor
open Go.RowKit

theorem cmpV_ifs (a b : Ver) : cmpV a b = if cmpI a.n0 b.n0 = 0 then (if cmpI a.n1 b.n1 = 0 then (if cmpI a.n2 b.n2 = 0 then (if cmpI a.n3 b.n3 = 0 then (if cmpT (vb a.tag) (vb b.tag) = 0 then cmpI a.cnt b.cnt else cmpT (vb a.tag) (vb b.tag)) else cmpI a.n3 b.n3) else cmpI a.n2 b.n2) else cmpI a.n1 b.n1) else cmpI a.n0 b.n0 := rfl
theorem cmpI_ne {a b : Int} (h : a ≠ b) : cmpI a b ≠ 0 := fun e => h ((cmpI_zero a b).1 e)
theorem cmpV_0 {a b : Ver} (h : a.n0 ≠ b.n0) : cmpV a b = cmpI a.n0 b.n0 := by rw [cmpV_ifs, if_neg (cmpI_ne h)]
theorem cmpV_1 {a b : Ver} (h0 : a.n0 = b.n0) (h : a.n1 ≠ b.n1) : cmpV a b = cmpI a.n1 b.n1 := by rw [cmpV_ifs, if_pos (cmpI_eq h0), if_neg (cmpI_ne h)]
theorem cmpV_2 {a b : Ver} (h0 : a.n0 = b.n0) (h1 : a.n1 = b.n1) (h : a.n2 ≠ b.n2) : cmpV a b = cmpI a.n2 b.n2 := by rw [cmpV_ifs, if_pos (cmpI_eq h0), if_pos (cmpI_eq h1), if_neg (cmpI_ne h)]
theorem cmpV_3 {a b : Ver} (h0 : a.n0 = b.n0) (h1 : a.n1 = b.n1) (h2 : a.n2 = b.n2) (h : a.n3 ≠ b.n3) : cmpV a b = cmpI a.n3 b.n3 := by rw [cmpV_ifs, if_pos (cmpI_eq h0), if_pos (cmpI_eq h1), if_pos (cmpI_eq h2), if_neg (cmpI_ne h)]
theorem cmpV_4 {a b : Ver} (h0 : a.n0 = b.n0) (h1 : a.n1 = b.n1) (h2 : a.n2 = b.n2) (h3 : a.n3 = b.n3) : cmpV a b = if cmpT (vb a.tag) (vb b.tag) = 0 then cmpI a.cnt b.cnt else cmpT (vb a.tag) (vb b.tag) := by rw [cmpV_ifs, if_pos (cmpI_eq h0), if_pos (cmpI_eq h1), if_pos (cmpI_eq h2), if_pos (cmpI_eq h3)]
/-- The world in which both lie boxed. -/
abbrev twoW (w : World) (a b : Ver) : World := (w.alloc (.cells (verC a) 112)).alloc (.cells (verC b) 112)
/-- The first so many numbers are alike. -/
def alike (k : Nat) (a b : Ver) : Prop := (0 < k → a.n0 = b.n0) ∧ (1 < k → a.n1 = b.n1) ∧ (2 < k → a.n2 = b.n2) ∧ (3 < k → a.n3 = b.n3)
theorem info22s : (Tryz.prog.info? 102).map (·.size) = some 4 := by kernel_rfl
theorem infoVs : (Tryz.prog.info? 112).map (·.size) = some 6 := by kernel_rfl
/-- The k-th number. -/
def nAt (v : Ver) : Nat → Int
  | 0 => v.n0
  | 1 => v.n1
  | 2 => v.n2
  | _ => v.n3
theorem idx4 (v : Ver) (k : Nat) (hk : k < 4) (w : World) : (Instr.index 102 (.agg #[.int .i64 v.n0, .int .i64 v.n1, .int .i64 v.n2, .int .i64 v.n3]) (.int .i64 (k : Int))).run Tryz.prog w = .ok (.int .i64 (nAt v k)) w := by
  match k, hk with
  | 0, _ => show _ = _; kernel_rfl
  | 1, _ => show _ = _; kernel_rfl
  | 2, _ => show _ = _; kernel_rfl
  | 3, _ => show _ = _; kernel_rfl
section
variable {w : World} {ops : Array Oper} {rest : List Oper} {o : Oper} {act : Act} {Q : Exit → Act → World → Prop}
theorem wp_idx (v : Ver) (k : Nat) (hk : k < 4) (hgd : o.guard = none) (x y : Operand) (ho : o.op = .index 102 x y) (hx : act.eval x = .agg #[.int .i64 v.n0, .int .i64 v.n1, .int .i64 v.n2, .int .i64 v.n3]) (hy : act.eval y = .int .i64 (k : Int))
    (kk : wpList Tryz.prog ops Q rest (act.put o.dst (.int .i64 (nAt v k))) w) : wpList Tryz.prog ops Q (o :: rest) act w :=
  wpList_plain hgd fun _ hK => by
    unfold Oper.wp
    rw [show (execOp act.eval o).run Tryz.prog w = .ok (.value (.int .i64 (nAt v k))) w by
      unfold execOp
      simp only [ho, hx, hy, Sem.run_bind, Sem.run_pure, Result.andThen_ok, idx4 v k hk w]]
    exact hK _ _ kk
end
set_option maxRecDepth 20000 in
set_option maxHeartbeats 4000000 in
theorem compare_ok (a b : Ver) (w : World) : Calls Tryz.prog 61 #[verV a, verV b] w fun e w' => e = .returned (.int .i64 (cmpV a b)) ∧ w' = twoW w a b := by
  have hA : Row (twoW w a b) w.heap.size (verC a) 112 := (Row.new w (verC a) 112).alloc _
  have hB : Row (twoW w a b) (w.heap.size + 1) (verC b) 112 := by
    have h := Row.new (w.alloc (.cells (verC a) 112)) (verC b) 112
    rw [World.size_alloc] at h
    exact h
  obtain ⟨w2, hw2⟩ : ∃ x, x = twoW w a b := ⟨_, rfl⟩
  have hw2' := hw2.symm
  rw [← hw2] at hA hB ⊢
  clear hw2
  have hq := eq_ver a b w2
  have hq2 := eq_nums 9997 a.n0 a.n1 a.n2 a.n3 b.n0 b.n1 b.n2 b.n3 w2
  by_cases he : a = b
  · subst he
    have HZ : Hid (cmpV a a = 0) := (cmpV_zero a a).2 rfl
    rw [decide_eq_true ⟨rfl, rfl, rfl, rfl⟩] at hq2
    clear hq
    go_enter Tryz.func61, Tryz.ntmps61
    go_wp2_with (first | refine wpList_load_row rfl 112 _ rfl w.heap.size rfl 112 _ (0, 0) _ hA Tryz.underlying112 rfl infoVs ?_ | refine wpList_load_row rfl 112 _ rfl (w.heap.size + 1) rfl 112 _ (0, 0) _ hB Tryz.underlying112 rfl infoVs ?_)
    go_ret
    exact ⟨by rw [HZ.out]; rfl, rfl⟩
  · rw [decide_eq_false he] at hq
    have hq3 : (binOp .eql 112 (verV a) (verV b)).run Tryz.prog w2 = .ok (.bool false) w2 := by
      rw [run_eql_struct, hq]
      rfl
    have a0 : w2.cell? ⟨w.heap.size, 0, none⟩ = some (.int .i64 a.n0) := (hA.cell 0).trans rfl
    have a1 : w2.cell? ⟨w.heap.size, 1, none⟩ = some (.int .i64 a.n1) := (hA.cell 1).trans rfl
    have a2 : w2.cell? ⟨w.heap.size, 2, none⟩ = some (.int .i64 a.n2) := (hA.cell 2).trans rfl
    have a3 : w2.cell? ⟨w.heap.size, 3, none⟩ = some (.int .i64 a.n3) := (hA.cell 3).trans rfl
    have a4 : w2.cell? ⟨w.heap.size, 4, none⟩ = some (.int .i64 a.cnt) := (hA.cell 4).trans rfl
    have a5 : w2.cell? ⟨w.heap.size, 5, none⟩ = some (.string a.tag) := (hA.cell 5).trans rfl
    have b0 : w2.cell? ⟨w.heap.size + 1, 0, none⟩ = some (.int .i64 b.n0) := (hB.cell 0).trans rfl
    have b1 : w2.cell? ⟨w.heap.size + 1, 1, none⟩ = some (.int .i64 b.n1) := (hB.cell 1).trans rfl
    have b2 : w2.cell? ⟨w.heap.size + 1, 2, none⟩ = some (.int .i64 b.n2) := (hB.cell 2).trans rfl
    have b3 : w2.cell? ⟨w.heap.size + 1, 3, none⟩ = some (.int .i64 b.n3) := (hB.cell 3).trans rfl
    have b4 : w2.cell? ⟨w.heap.size + 1, 4, none⟩ = some (.int .i64 b.cnt) := (hB.cell 4).trans rfl
    have b5 : w2.cell? ⟨w.heap.size + 1, 5, none⟩ = some (.string b.tag) := (hB.cell 5).trans rfl
    have HC : Hid (∀ (x y : Int) wx, Calls Tryz.prog 93 #[.int .i64 x, .int .i64 y] wx fun e w' => e = .returned (.int .i64 (cmpI x y)) ∧ w' = wx) := fun x y wx => compareI x y wx
    have HT : Hid (∀ wx, Calls Tryz.prog 94 #[.string a.tag, .string b.tag] wx fun e w' => e = .returned (.int .i64 (cmpT (vb a.tag) (vb b.tag))) ∧ w' = wx) := fun wx => compareT a.tag b.tag wx
    clear hq hq2 hq3
    go_enter Tryz.func61, Tryz.ntmps61
    go_wp2_with (first | (refine wp_eqv 112 guardP a b (fun w => eq_ver a b w) rfl _ _ rfl rfl rfl ?_; rw [decide_eq_false he]) | refine wpList_load_row rfl 112 _ rfl w.heap.size rfl 112 _ (0, 0) _ hA Tryz.underlying112 rfl infoVs ?_ | refine wpList_load_row rfl 112 _ rfl (w.heap.size + 1) rfl 112 _ (0, 0) _ hB Tryz.underlying112 rfl infoVs ?_)
    go_loopw [14] (fun i wr => ∃ k : Nat, k ≤ 4 ∧ i = .int .i64 k ∧ wr = w2 ∧ alike k a b) (fun i _ => 4 - (intOf i).toNat)
    case atStart => exact ⟨0, Nat.zero_le _, rfl, rfl, ⟨fun h => absurd h (by omega), fun h => absurd h (by omega), fun h => absurd h (by omega), fun h => absurd h (by omega)⟩⟩
    case round =>
      obtain ⟨k, hk, rfl, hwr, hal0⟩ := hrel
      subst hwr
      match k, hk with
      | 0, _ =>
        clear hal0
        have hc := HC.out a.n0 b.n0 wr
        by_cases hn : a.n0 = b.n0
        · rw [cmpI_eq hn] at hc
          have HAL : Hid (alike (0 + 1) a b) := ⟨fun _ => hn, fun h => absurd h (by omega), fun h => absurd h (by omega), fun h => absurd h (by omega)⟩
          clear hn
          go_wp2_with (first | (refine wp_idx a 0 (by omega) rfl _ _ rfl rfl rfl ?_; rw [show nAt a 0 = a.n0 from rfl]) | (go_at_call 93; refine hc.mono ?_; rintro e w1 ⟨rfl, hw1⟩; rw [hw1]; clear hw1))
          go_roundw
          case rel => exact ⟨1, by omega, rfl, trivial, HAL.out⟩
          case measure => simp [intOf]
        · have HV : Hid (cmpV a b = cmpI a.n0 b.n0) := cmpV_0  hn
          have hcn := cmpI_ne hn
          generalize cmpI a.n0 b.n0 = c at hc HV hcn
          have hcb : (c == 0) = false := by simpa using hcn
          clear hn
          go_wp2_with (first | (refine wp_idx a 0 (by omega) rfl _ _ rfl rfl rfl ?_; rw [show nAt a 0 = a.n0 from rfl]) | (go_at_call 93; refine hc.mono ?_; rintro e w1 ⟨rfl, hw1⟩; rw [hw1]; clear hw1))
          go_ret
          exact ⟨by rw [HV.out]; rfl, rfl⟩
      | 1, _ =>
        have h0 : a.n0 = b.n0 := hal0.1 (by omega)
        clear hal0
        have hc := HC.out a.n1 b.n1 wr
        by_cases hn : a.n1 = b.n1
        · rw [cmpI_eq hn] at hc
          have HAL : Hid (alike (1 + 1) a b) := ⟨fun _ => h0, fun _ => hn, fun h => absurd h (by omega), fun h => absurd h (by omega)⟩
          clear hn h0
          go_wp2_with (first | (refine wp_idx a 1 (by omega) rfl _ _ rfl rfl rfl ?_; rw [show nAt a 1 = a.n1 from rfl]) | (go_at_call 93; refine hc.mono ?_; rintro e w1 ⟨rfl, hw1⟩; rw [hw1]; clear hw1))
          go_roundw
          case rel => exact ⟨2, by omega, rfl, trivial, HAL.out⟩
          case measure => simp [intOf]
        · have HV : Hid (cmpV a b = cmpI a.n1 b.n1) := cmpV_1 h0 hn
          have hcn := cmpI_ne hn
          generalize cmpI a.n1 b.n1 = c at hc HV hcn
          have hcb : (c == 0) = false := by simpa using hcn
          clear hn h0
          go_wp2_with (first | (refine wp_idx a 1 (by omega) rfl _ _ rfl rfl rfl ?_; rw [show nAt a 1 = a.n1 from rfl]) | (go_at_call 93; refine hc.mono ?_; rintro e w1 ⟨rfl, hw1⟩; rw [hw1]; clear hw1))
          go_ret
          exact ⟨by rw [HV.out]; rfl, rfl⟩
      | 2, _ =>
        have h0 : a.n0 = b.n0 := hal0.1 (by omega)
        have h1 : a.n1 = b.n1 := hal0.2.1 (by omega)
        clear hal0
        have hc := HC.out a.n2 b.n2 wr
        by_cases hn : a.n2 = b.n2
        · rw [cmpI_eq hn] at hc
          have HAL : Hid (alike (2 + 1) a b) := ⟨fun _ => h0, fun _ => h1, fun _ => hn, fun h => absurd h (by omega)⟩
          clear hn h0 h1
          go_wp2_with (first | (refine wp_idx a 2 (by omega) rfl _ _ rfl rfl rfl ?_; rw [show nAt a 2 = a.n2 from rfl]) | (go_at_call 93; refine hc.mono ?_; rintro e w1 ⟨rfl, hw1⟩; rw [hw1]; clear hw1))
          go_roundw
          case rel => exact ⟨3, by omega, rfl, trivial, HAL.out⟩
          case measure => simp [intOf]
        · have HV : Hid (cmpV a b = cmpI a.n2 b.n2) := cmpV_2 h0 h1 hn
          have hcn := cmpI_ne hn
          generalize cmpI a.n2 b.n2 = c at hc HV hcn
          have hcb : (c == 0) = false := by simpa using hcn
          clear hn h0 h1
          go_wp2_with (first | (refine wp_idx a 2 (by omega) rfl _ _ rfl rfl rfl ?_; rw [show nAt a 2 = a.n2 from rfl]) | (go_at_call 93; refine hc.mono ?_; rintro e w1 ⟨rfl, hw1⟩; rw [hw1]; clear hw1))
          go_ret
          exact ⟨by rw [HV.out]; rfl, rfl⟩
      | 3, _ =>
        have h0 : a.n0 = b.n0 := hal0.1 (by omega)
        have h1 : a.n1 = b.n1 := hal0.2.1 (by omega)
        have h2 : a.n2 = b.n2 := hal0.2.2.1 (by omega)
        clear hal0
        have hc := HC.out a.n3 b.n3 wr
        by_cases hn : a.n3 = b.n3
        · rw [cmpI_eq hn] at hc
          have HAL : Hid (alike (3 + 1) a b) := ⟨fun _ => h0, fun _ => h1, fun _ => h2, fun _ => hn⟩
          clear hn h0 h1 h2
          go_wp2_with (first | (refine wp_idx a 3 (by omega) rfl _ _ rfl rfl rfl ?_; rw [show nAt a 3 = a.n3 from rfl]) | (go_at_call 93; refine hc.mono ?_; rintro e w1 ⟨rfl, hw1⟩; rw [hw1]; clear hw1))
          go_roundw
          case rel => exact ⟨4, by omega, rfl, trivial, HAL.out⟩
          case measure => simp [intOf]
        · have HV : Hid (cmpV a b = cmpI a.n3 b.n3) := cmpV_3 h0 h1 h2 hn
          have hcn := cmpI_ne hn
          generalize cmpI a.n3 b.n3 = c at hc HV hcn
          have hcb : (c == 0) = false := by simpa using hcn
          clear hn h0 h1 h2
          go_wp2_with (first | (refine wp_idx a 3 (by omega) rfl _ _ rfl rfl rfl ?_; rw [show nAt a 3 = a.n3 from rfl]) | (go_at_call 93; refine hc.mono ?_; rintro e w1 ⟨rfl, hw1⟩; rw [hw1]; clear hw1))
          go_ret
          exact ⟨by rw [HV.out]; rfl, rfl⟩
      | 4, _ =>
        have HV : Hid (cmpV a b = if cmpT (vb a.tag) (vb b.tag) = 0 then cmpI a.cnt b.cnt else cmpT (vb a.tag) (vb b.tag)) := cmpV_4 (hal0.1 (by omega)) (hal0.2.1 (by omega)) (hal0.2.2.1 (by omega)) (hal0.2.2.2 (by omega))
        have ht := HT.out wr
        have hc := HC.out a.cnt b.cnt wr
        clear hal0
        generalize cmpT (vb a.tag) (vb b.tag) = t at ht HV
        generalize cmpI a.cnt b.cnt = c at hc HV
        by_cases h0 : t = 0
        · subst h0
          go_wp2_with (first | (go_at_call 94; refine ht.mono ?_; rintro e w1 ⟨rfl, hw1⟩; rw [hw1]; clear hw1) | (go_at_call 93; refine hc.mono ?_; rintro e w1 ⟨rfl, hw1⟩; rw [hw1]; clear hw1))
          go_ret
          exact ⟨by rw [HV.out]; rfl, rfl⟩
        · have h0b : (t == 0) = false := by simpa using h0
          have HV2 : Hid (cmpV a b = t) := by show _ = _; rw [HV.out, if_neg h0]
          clear HV
          go_wp2_with (go_at_call 94; refine ht.mono ?_; rintro e w1 ⟨rfl, hw1⟩; rw [hw1]; clear hw1)
          go_ret
          exact ⟨by rw [HV2.out]; rfl, rfl⟩
end Go.Proofs.YtkbhckjpmgkgjaaGreatDoor
