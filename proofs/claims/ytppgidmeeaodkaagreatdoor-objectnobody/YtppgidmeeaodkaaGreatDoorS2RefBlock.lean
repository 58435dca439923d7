/- The walk of the document's own block. -/
import Derived.Test.YtppgidmeeaodkaaGreatDoorS2Sum
import Derived.StillTail
namespace Go.Proofs.YtppgidmeeaodkaaGreatDoor.S2
set_option maxRecDepth 20000
open Go.RowKit Num

section
variable {P : Program} {ops : Array Oper} {w : World} {Q : Act → Prop} {a : Act} {o : Oper} {rest : List Oper}
theorem s_value (v : Value) (hw : Region.wanted o (yielded ops a.tmps) = true) (h : (execOp a.eval o).run P w = .ok (.value v) w) (k : wpStill P ops w Q rest (a.put o.dst v)) : wpStill P ops w Q (o :: rest) a :=
  wpStill_step fun K hK => by rw [if_pos hw]; unfold Oper.still; rw [h]; exact ⟨rfl, hK _ k⟩
theorem s_move (x : Operand) (ho : o.op = .move x) (hw : Region.wanted o (yielded ops a.tmps) = true) (k : wpStill P ops w Q rest (a.put o.dst (a.eval x))) : wpStill P ops w Q (o :: rest) a :=
  s_value _ hw (BigFrame.run_move x ho w) k
theorem s_assign (x : Operand) (ho : o.op = .assign x) (hw : Region.wanted o (yielded ops a.tmps) = true) (k : wpStill P ops w Q rest (a.put o.dst (a.eval x))) : wpStill P ops w Q (o :: rest) a :=
  s_value _ hw (BigFrame.run_assign x ho w) k
theorem s_call (v : Value) (hw : Region.wanted o (yielded ops a.tmps) = true) (f : FuncId) (args : Array Value) (h : (execOp a.eval o).run P w = .ok (.enter f args) w) (hc : Calls P f args w fun e w'' => e = .returned v ∧ w'' = w)
    (k : wpStill P ops w Q rest (a.put o.dst v)) : wpStill P ops w Q (o :: rest) a :=
  wpStill_step fun K hK => by rw [if_pos hw]; unfold Oper.still; rw [h]; exact ⟨rfl, v, hc, hK _ k⟩
end

/-- All eight numbers have 32 bits. -/
def St.ok (s : St) : Prop := ∀ i, 0 ≤ s.at i ∧ s.at i < 4294967296

theorem bits_bd (op : BinOp) (x y : Int) : 0 ≤ bits op .u32 x y ∧ bits op .u32 x y < 4294967296 := by
  have h := bits_within op .u32 x y
  simp only [IntKind.min, IntKind.max, IntKind.signed, IntKind.bits] at h
  simp at h
  omega
theorem mod_bd (x : Int) : 0 ≤ x % 4294967296 ∧ x % 4294967296 < 4294967296 := ⟨Int.emod_nonneg _ (by decide), Int.emod_lt_of_pos _ (by decide)⟩
theorem sc_bd (m : Nat → Int) (hm : ∀ i, 0 ≤ m i ∧ m i < 256) (i : Nat) : 0 ≤ sc m i ∧ sc m i < 4294967296 := by
  by_cases h : i < 16
  · rw [sc_low m i h]; exact word_bd m hm i
  · rw [sc_high m i (by omega)]; exact mod_bd _
theorem rnd_ok (s : St) (kw : Int) (h : s.ok) : (rnd s kw).ok := by
  intro i
  match i with
  | 0 => exact mod_bd _
  | 1 => exact h 0
  | 2 => exact h 1
  | 3 => exact h 2
  | 4 => exact mod_bd _
  | 5 => exact h 4
  | 6 => exact h 5
  | 7 => exact h 6
  | n + 8 => exact ⟨Int.le_refl 0, show (0 : Int) < 4294967296 by decide⟩
theorem rnds_ok (m : Nat → Int) (s : St) (h : s.ok) (k : Nat) : (rnds m s k).ok := by
  induction k with
  | zero => exact h
  | succ k ih => exact rnd_ok _ _ ih
theorem st0_ok : st0.ok := by
  intro i
  match i with
  | 0 => decide
  | 1 => decide
  | 2 => decide
  | 3 => decide
  | 4 => decide
  | 5 => decide
  | 6 => decide
  | 7 => decide
  | n + 8 => exact ⟨Int.le_refl 0, show (0 : Int) < 4294967296 by decide⟩
theorem hs_ok (f : Nat → Int) (len T j : Nat) : (hs f len T j).ok := by
  cases j with
  | zero => exact st0_ok
  | succ j => exact ovr_bd _ _

theorem constants_any (w : World) : Calls Tryz.prog 145 #[] w fun e w' => e = .returned (.slice (some ⟨w.heap.size, 0, none⟩) 64 64) ∧ w' = w.alloc (.cells (ar4 kc 64) 198) := by
  have e : ar4 kc 64 = #[.int .u32 1116352408, .int .u32 1899447441, .int .u32 3049323471, .int .u32 3921009573, .int .u32 961987163, .int .u32 1508970993, .int .u32 2453635748, .int .u32 2870763221, .int .u32 3624381080, .int .u32 310598401, .int .u32 607225278, .int .u32 1426881987, .int .u32 1925078388, .int .u32 2162078206, .int .u32 2614888103, .int .u32 3248222580, .int .u32 3835390401, .int .u32 4022224774, .int .u32 264347078, .int .u32 604807628, .int .u32 770255983, .int .u32 1249150122, .int .u32 1555081692, .int .u32 1996064986, .int .u32 2554220882, .int .u32 2821834349, .int .u32 2952996808, .int .u32 3210313671, .int .u32 3336571891, .int .u32 3584528711, .int .u32 113926993, .int .u32 338241895, .int .u32 666307205, .int .u32 773529912, .int .u32 1294757372, .int .u32 1396182291, .int .u32 1695183700, .int .u32 1986661051, .int .u32 2177026350, .int .u32 2456956037, .int .u32 2730485921, .int .u32 2820302411, .int .u32 3259730800, .int .u32 3345764771, .int .u32 3516065817, .int .u32 3600352804, .int .u32 4094571909, .int .u32 275423344, .int .u32 430227734, .int .u32 506948616, .int .u32 659060556, .int .u32 883997877, .int .u32 958139571, .int .u32 1322822218, .int .u32 1537002063, .int .u32 1747873779, .int .u32 1955562222, .int .u32 2024104815, .int .u32 2227730452, .int .u32 2361852424, .int .u32 2428436474, .int .u32 2756734187, .int .u32 3204031479, .int .u32 3329325298] := by kernel_rfl
  rw [e]
  clear e
  go_enter Tryz.func145, Tryz.ntmps145
  go_wp2
  go_ret
  exact ⟨rfl, rfl⟩

theorem refRot_lit (x n : Int) (w : World) (h0 : 0 ≤ n) (h1 : n ≤ 31) (hx : 0 ≤ x ∧ x < 4294967296) : Calls Tryz.prog 199 #[.int .u32 x, .int .i64 n] w fun e w' => e = .returned (.int .u32 (rot x n)) ∧ w' = w := by
  have h := refRotate_any x n w hx.1 hx.2
  rw [Int.emod_eq_of_lt h0 (by omega)] at h
  exact h

set_option maxHeartbeats 400000 in
theorem rot_any (x i j : Int) (w : World) (hi0 : 0 ≤ i) (hi : i ≤ 31) (hj0 : 0 ≤ j) (hj : j ≤ 31) (hx : 0 ≤ x ∧ x < 4294967296) :
    Calls Tryz.prog 198 #[.int .u32 x, .int .i64 i, .int .i64 j] w fun e w' => e = .returned (.int .u32 (bits .xor .u32 (rot x i) (rot x j))) ∧ w' = w := by
  go_enter Tryz.func198, Tryz.ntmps198
  go_wp2_with fail
  refine (refRot_lit x i w hi0 hi hx).mono ?_
  rintro e w1 ⟨rfl, rfl⟩
  go_wp2_with fail
  refine (refRot_lit x j _ hj0 hj hx).mono ?_
  rintro e w2 ⟨rfl, rfl⟩
  go_wp2
  go_ret
  exact ⟨rfl, rfl⟩
end Go.Proofs.YtppgidmeeaodkaaGreatDoor.S2
