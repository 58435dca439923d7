/- My own work: the walks of the document's comma and list. -/
import Derived.Test.YtmpgfepkdhjibaaDoorRefQ
import Derived.Test.YtmpgfepkdhjibaaDoorSame8
namespace Go.Proofs.YtmpgfepkdhjibaaDoor
open Go.RowKit

/-- Bytes as a text. -/
def tx (l : List UInt8) : ByteArray := ⟨l.toArray⟩
theorem tx_size (l : List UInt8) : (tx l).size = l.length := by simp [tx, ByteArray.size]
theorem tx_add (a b : List UInt8) : tx a ++ tx b = tx (a ++ b) := by
  unfold tx
  rw [ByteArray.mk_append_mk]
theorem quoteS_tx (s : ByteArray) : quoteS s = tx (strE s) := rfl
theorem run_cat (a b : List UInt8) (w : World) (h : a.length + b.length ≤ 9223372036854775807) : (Op.stringOp .add (tx a) (tx b)).run Tryd.prog w = .ok (.string (tx (a ++ b))) w := by
  rw [run_string_add_sum w _ _ (by rw [tx_size, tx_size]; exact h), tx_add]
theorem exec_cat (o : Oper) (act : Act) (x y : Operand) (ho : o.op = .binOp .add 9 x y 9) (a b : List UInt8) (hx : act.eval x = .string (tx a)) (hy : act.eval y = .string (tx b)) (h : a.length + b.length ≤ 9223372036854775807) (w : World) : (execOp act.eval o).run Tryd.prog w = .ok (.value (.string (tx (a ++ b)))) w := by
  have hr := run_cat a b w h
  unfold execOp
  simp only [ho, hx, hy]
  rw [show binOp .add 9 (.string (tx a)) (.string (tx b)) = Op.stringOp .add (tx a) (tx b) by simp [binOp]]
  rw [show eqGuard .add 9 x y (.string (tx a)) (.string (tx b)) = pure () from rfl]
  simp only [Sem.run_bind, Sem.run_pure, Result.andThen_ok, hr]
section
variable {w : World} {ops : Array Oper} {rest : List Oper} {o : Oper} {act : Act} {Q : Exit → Act → World → Prop}
theorem wp_cat (hgd : o.guard = none) (x y : Operand) (ho : o.op = .binOp .add 9 x y 9) (a b : List UInt8) (hx : act.eval x = .string (tx a)) (hy : act.eval y = .string (tx b)) (h : a.length + b.length ≤ 9223372036854775807)
    (k : wpList Tryd.prog ops Q rest (act.put o.dst (.string (tx (a ++ b)))) w) : wpList Tryd.prog ops Q (o :: rest) act w :=
  wpList_plain hgd fun _ hK => by
    unfold Oper.wp
    rw [exec_cat o act x y ho a b hx hy h w]
    exact hK _ _ k
end
/-- What stands ahead of the i-th element. -/
def comU (i : Nat) : List UInt8 := if i = 0 then [] else [44]
set_option maxRecDepth 20000 in
theorem comma_ok (i : Nat) (w : World) : Calls Tryd.prog 41 #[.int .i64 i] w fun e w' => e = .returned (.string (tx (comU i))) ∧ w' = w := by
  by_cases h : i = 0
  · have e : tx (comU i) = ⟨#[]⟩ := by unfold comU; rw [if_pos h]; rfl
    rw [e]
    have h' : ¬ ((0 : Int) < (i : Int)) := by omega
    clear h e
    go_enter Tryd.func41, Tryd.ntmps41
    go_wp2
    go_ret
    exact ⟨rfl, rfl⟩
  · have e : tx (comU i) = ⟨#[44]⟩ := by unfold comU; rw [if_neg h]; rfl
    rw [e]
    have h' : ((0 : Int) < (i : Int)) := by omega
    clear h e
    go_enter Tryd.func41, Tryd.ntmps41
    go_wp2
    go_ret
    exact ⟨rfl, rfl⟩
theorem strE_len (s : ByteArray) (h : s.size ≤ 1048576) : (strE s).length ≤ 2097154 := by
  have := (quoteU_len (bl s)).2
  rw [bl_len] at this
  unfold strE
  omega
theorem sepU_len (l : List (List UInt8)) (K : Nat) (h : ∀ x ∈ l, x.length ≤ K) : (sepU l).length ≤ l.length * (K + 1) := by
  match l, h with
  | [], _ => simp [sepU]
  | x :: xs, h =>
    have h1 := h x (by simp)
    have h2 : (xs.flatMap (fun y => (44 : UInt8) :: y)).length ≤ xs.length * (K + 1) := by
      have hx : ∀ y ∈ xs, y.length ≤ K := fun y hy => h y (by simp [hy])
      clear h h1
      induction xs with
      | nil => simp
      | cons y ys ih =>
        have h3 := hx y (by simp)
        have h4 := ih (fun z hz => hx z (by simp [hz]))
        rw [List.flatMap_cons, List.length_append, List.length_cons, List.length_cons, Nat.succ_mul]
        omega
    unfold sepU
    rw [List.length_append, List.length_cons, Nat.succ_mul]
    omega
set_option maxRecDepth 20000 in
set_option maxHeartbeats 2000000 in
theorem rlist_ok (l : List ByteArray) (v : Value) (w : World) (h : SlAt w v l.length (strV l)) (hl : l.length ≤ 1048576) (hs : ∀ s ∈ l, s.size ≤ 1048576) : Calls Tryd.prog 42 #[v] w fun e w' => e = .returned (.string (tx (listU (l.map strE)))) ∧ Below w.heap.size w w' := by
  obtain ⟨a, c, b, off, rfl, hc1, hc2, hat, hcell⟩ := h.cells1
  have HC : Hid _ := hcell
  have hl0 : l.length = 0 ∨ a = some ⟨b, off, none⟩ := by
    by_cases hl : l.length = 0
    · exact .inl hl
    · exact .inr (hat (by omega))
  have HLn : Hid (∀ i, (sepU ((l.map strE).take i)).length ≤ 1048576 * 2097155) := fun i => by
    have h1 := sepU_len ((l.map strE).take i) 2097154 (fun x hx => by
      obtain ⟨s, h2, rfl⟩ := List.mem_map.1 (List.mem_of_mem_take hx)
      exact strE_len s (hs s h2))
    have h2 : ((l.map strE).take i).length ≤ 1048576 := by rw [List.length_take, List.length_map]; omega
    exact Nat.le_trans h1 (Nat.mul_le_mul_right _ h2)
  have HS : Hid _ := hs
  clear h hcell hat hs
  go_enter Tryd.func42, Tryd.ntmps42
  go_wp2
  go_loopw [3, 4] (fun sv iv wx => ∃ (i : Nat) (M : List UInt8), iv = .int .i64 i ∧ i ≤ l.length ∧ sv = .string (tx M) ∧ Hid (M = [91] ++ sepU ((l.map strE).take i)) ∧ Hid (Below w.heap.size w wx)) (fun _ iv _ => l.length - (intOf iv).toNat)
  case atStart => exact ⟨0, [91], rfl, by omega, rfl, by show _ = _; simp [sepU], Below.refl _ _⟩
  case round =>
    obtain ⟨i, M, rfl, hi1, rfl, HM, HB⟩ := hrel
    have hln : M.length ≤ 1048576 * 2097155 + 1 := by
      have := HLn.out i
      rw [HM.out, List.length_append]
      simp only [List.length_cons, List.length_nil]
      omega
    by_cases hlt : i < l.length
    · have hlt' : (i : Int) < (l.length : Int) := by omega
      obtain rfl := hl0.resolve_left (by omega)
      obtain ⟨s, hs⟩ : ∃ s, s = l[i] := ⟨_, rfl⟩
      have c0 := HC.out _ HB.out i hlt
      rw [← hs] at c0
      have hss : s.size ≤ 1048576 := by rw [hs]; exact HS.out _ (List.getElem_mem hlt)
      have hse := strE_len s hss
      have HQ := rquote_ok s wr (by omega)
      rw [quoteS_tx] at HQ
      have HT : Hid ([91] ++ sepU ((l.map strE).take (i + 1)) = M ++ comU i ++ strE s) := by
        show _ = _
        rw [sepU_take _ i (by simpa using hlt), List.getElem_map, ← hs, HM.out]
        simp only [comU, List.append_assoc]
      clear hs HM
      generalize strE s = qs at *
      by_cases h0 : i = 0
      · have h0' : ¬ ((0 : Int) < (i : Int)) := by omega
        have hc0 : comU i = [] := if_pos h0
        rw [hc0, List.append_nil] at HT
        clear hc0 h0
        go_wp2_with fail
        refine Calls.mono HQ ?_
        rintro e w2 ⟨rfl, hb2⟩
        have HB2 : Hid (Below w.heap.size w w2) := below_next HB.out hb2
        clear hb2 HQ
        go_wp2_with (refine wp_cat rfl _ _ rfl M qs rfl rfl (by omega) ?_)
        obtain ⟨M2, hM2⟩ : ∃ M2, M2 = M ++ qs := ⟨_, rfl⟩
        rw [← hM2] at HT ⊢
        clear hM2
        go_wp2
        go_roundw
        case rel => exact ⟨i + 1, M2, by go_num, by omega, rfl, HT.out.symm, HB2⟩
        case measure => simp [intOf]; omega
      · have h0' : ((0 : Int) < (i : Int)) := by omega
        have hc0 : comU i = [44] := if_neg h0
        rw [hc0] at HT
        clear hc0 h0
        go_wp2_with (refine wp_cat rfl _ _ rfl M [44] rfl rfl (by simp only [List.length_cons, List.length_nil]; omega) ?_)
        obtain ⟨M1, hM1⟩ : ∃ M1, M1 = M ++ [44] := ⟨_, rfl⟩
        have hl1 : M1.length ≤ 1048576 * 2097155 + 2 := by rw [hM1, List.length_append]; simp only [List.length_cons, List.length_nil]; omega
        rw [← hM1] at HT ⊢
        clear hM1
        go_wp2_with fail
        refine Calls.mono HQ ?_
        rintro e w2 ⟨rfl, hb2⟩
        have HB2 : Hid (Below w.heap.size w w2) := below_next HB.out hb2
        clear hb2 HQ
        go_wp2_with (refine wp_cat rfl _ _ rfl M1 qs rfl rfl (by omega) ?_)
        obtain ⟨M2, hM2⟩ : ∃ M2, M2 = M1 ++ qs := ⟨_, rfl⟩
        rw [← hM2] at HT ⊢
        clear hM2
        go_wp2
        go_roundw
        case rel => exact ⟨i + 1, M2, by go_num, by omega, rfl, HT.out.symm, HB2⟩
        case measure => simp [intOf]; omega
    · have hlt' : ¬ (i : Int) < (l.length : Int) := by omega
      have HT : Hid (M ++ [93] = listU (l.map strE)) := by
        show _ = _
        rw [HM.out, List.take_of_length_le (by simp; omega)]
        rfl
      clear HM
      go_wp2_with (refine wp_cat rfl _ _ rfl M [93] rfl rfl (by simp only [List.length_cons, List.length_nil]; omega) ?_)
      rw [HT.out]
      go_wp2
      go_ret
      exact ⟨rfl, HB.out⟩
end Go.Proofs.YtmpgfepkdhjibaaDoor
