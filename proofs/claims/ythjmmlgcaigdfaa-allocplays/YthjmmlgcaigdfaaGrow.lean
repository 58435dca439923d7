/- Statements that draw their order, walked in an order of one's own; behind an operation that stands alone the class of worlds may be made narrower: by what it made. -/
import Derived.Test.YthjmmlgcaigdfaaPermA
namespace Go.Proofs.Ythjmmlgcaigdfaa
open Go.RowKit
section
variable {P : Program} {ops : Array Oper} {md : Region.Mode}

/-- The walk in the order that is told: false: the operation only reads; true: it stands alone, and the class of worlds may be another one behind it. -/
def wpGrow (P : Program) (ops : Array Oper) (Q : Act → World → Prop) : List (Bool × Nat) → (World → Prop) → Act → World → Prop
  | [], _, a, w => Q a w
  | (true, i) :: fs, S, a, w => ∃ o, ops[i]? = some o ∧ Region.wanted o (yielded ops a.tmps) = true ∧ o.wp P a w (fun a' w' => ∃ S' : World → Prop, (∀ w, S' w → S w) ∧ S' w' ∧ wpGrow P ops Q fs S' a' w') (fun _ _ _ => False)
  | (false, i) :: fs, S, a, w => ∃ o, ops[i]? = some o ∧ ∃ v, YieldsIf P ops S o v a ∧ wpGrow P ops Q fs S (a.put o.dst v) w

theorem wpAnyH_weaken {Q : Exit → Act → World → Prop} {S S' : World → Prop} (h : ∀ w, S' w → S w) : ∀ (fuel : Nat) (listed : Array Bool) (a : Act) (w : World), wpAnyH P md ops Q S' fuel listed a w → wpAnyH P md ops Q S fuel listed a w
  | 0, _, _, _, hh => hh
  | fuel + 1, _, _, _, hh => ⟨hh.1, fun i hi => wpOp_mono (fun a' w' h' => ⟨h w' h'.1, wpAnyH_weaken h fuel _ a' w' h'.2⟩) (hh.2 i hi)⟩

theorem wpAnyH_grow {Q : Act → World → Prop} (hs : Region.noSelect ops = true) : ∀ (fs : List (Bool × Nat)) (S : World → Prop) (listed : Array Bool) (a : Act) (w : World),
    permA md ops fs listed = true → S w → wpGrow P ops Q fs S a w → wpAnyH P md ops (Only Q) S fs.length listed a w
  | [], _, listed, a, w, hB, _, h => ⟨by simpa [permA] using hB, h⟩
  | (true, k) :: fs, S, listed, a, w, hB, hS, h => by
    simp only [permA, Bool.and_eq_true, decide_eq_true_eq] at hB
    refine wpAnyH_all hB.1 (by simp) fun i hi => ?_
    have hik : i = k := by simpa using hi
    subst hik
    obtain ⟨o, h0, hw, hwp⟩ := h
    unfold wpOp
    simp only [h0, hw, if_true]
    refine .inl (wp_monoQ (fun _ _ _ h => h.elim) (Oper.wp_mono (fun a' w' h' => ?_) hwp))
    obtain ⟨S', h1, h2, h3⟩ := h'
    exact ⟨h1 w' h2, wpAnyH_weaken h1 _ _ _ _ (wpAnyH_grow hs fs S' _ a' w' hB.2 h2 h3)⟩
  | (false, k) :: fs, S, listed, a, w, hB, hS, h => by
    simp only [permA, Bool.and_eq_true] at hB
    obtain ⟨o, h0, v, hy, h'⟩ := h
    refine wpAnyH_take h0 hs hB.1.2 hB.1.1 (fun _ _ _ h => h.elim) hy hS ?_
    exact wpAnyH_grow hs fs S _ _ w hB.2 hS h'

theorem wp_region_grow {id : Nat} {Q : Exit → Act → World → Prop} {a : Act} {w : World} {l : List Oper} (fs : List (Bool × Nat)) (S : World → Prop) (hm : P.follows .mixedOrders = true)
    (hB : (Region.noSelect l.toArray && (decide (fs.length = l.length) && permA .any l.toArray fs (Array.replicate l.length false))) = true) (hS : S w.drew)
    (h : wpGrow P l.toArray (Q .normal) fs S a w.drew) : (Code.region id l.toArray true).wp P Q a w := by
  simp only [Bool.and_eq_true, decide_eq_true_eq] at hB
  refine wp_region_any hm ?_
  have h1 := wpAnyH_grow (md := .any) (Q := Q .normal) hB.1 fs S _ a w.drew hB.2.2 hS h
  have h2 := wpAny_monoQ (Q' := Q) (fun e a w h => by cases e <;> first | exact h | exact h.elim) _ _ _ _ (wpAny_of_held _ _ _ _ h1)
  rw [hB.2.1] at h2
  simpa using h2

variable {S : World → Prop} {Q : Act → World → Prop} {a : Act} {w : World} {o : Oper} {i : Nat} {fs : List (Bool × Nat)}

theorem g_value (d : Option Tmp) (v : Value) (hi : ops[i]? = some o) (hd : o.dst = d) (hw : Region.wanted o (yielded ops a.tmps) = true) (h : ∀ w, S w → (execOp a.eval o).run P w = .ok (.value v) w) (k : wpGrow P ops Q fs S (a.put d v) w) : wpGrow P ops Q ((false, i) :: fs) S a w :=
  ⟨o, hi, v, .inl ⟨hw, h⟩, by rw [hd]; exact k⟩
theorem g_skip (d : Option Tmp) (hi : ops[i]? = some o) (hd : o.dst = d) (hw : Region.wanted o (yielded ops a.tmps) = false) (k : wpGrow P ops Q fs S (a.put d undef) w) : wpGrow P ops Q ((false, i) :: fs) S a w :=
  ⟨o, hi, undef, .inr ⟨hw, rfl⟩, by rw [hd]; exact k⟩
theorem g_move (d : Option Tmp) (x : Operand) (hi : ops[i]? = some o) (hd : o.dst = d) (ho : o.op = .move x) (hw : Region.wanted o (yielded ops a.tmps) = true) (k : wpGrow P ops Q fs S (a.put d (a.eval x)) w) : wpGrow P ops Q ((false, i) :: fs) S a w :=
  g_value d _ hi hd hw (fun w _ => by unfold execOp; simp only [ho]; rfl) k
theorem g_assign (d : Option Tmp) (x : Operand) (hi : ops[i]? = some o) (hd : o.dst = d) (ho : o.op = .assign x) (hw : Region.wanted o (yielded ops a.tmps) = true) (k : wpGrow P ops Q fs S (a.put d (a.eval x)) w) : wpGrow P ops Q ((false, i) :: fs) S a w :=
  g_value d _ hi hd hw (fun w _ => by unfold execOp; simp only [ho]; rfl) k
/-- Bytes made into a string, by a law of what the class has. -/
theorem g_convert (d : Option Tmp) (t u : TypeId) (x : Operand) (v : Value) (hi : ops[i]? = some o) (hd : o.dst = d) (ho : o.op = .convert t u x) (hw : Region.wanted o (yielded ops a.tmps) = true) (h : ∀ w, S w → (convert t u (a.eval x)).run P w = .ok v w) (k : wpGrow P ops Q fs S (a.put d v) w) : wpGrow P ops Q ((false, i) :: fs) S a w :=
  g_value d v hi hd hw (fun w hw => by unfold execOp; simp only [ho, Sem.run_bind, h w hw, Result.andThen_ok]; rfl) k
theorem g_call (d : Option Tmp) (hi : ops[i]? = some o) (hd : o.dst = d) (hw : Region.wanted o (yielded ops a.tmps) = true) (f : FuncId) (args : Array Value) (h : (execOp a.eval o).run P w = .ok (.enter f args) w)
    (hc : Calls P f args w fun e w' => ∃ v, e = .returned v ∧ ∃ S' : World → Prop, (∀ w, S' w → S w) ∧ S' w' ∧ wpGrow P ops Q fs S' (a.put d v) w') : wpGrow P ops Q ((true, i) :: fs) S a w := by
  refine ⟨o, hi, hw, ?_⟩
  unfold Oper.wp
  rw [h]
  simp only [Oper.upon]
  refine hc.mono ?_
  rintro e w' ⟨v, rfl, h1⟩
  subst hd
  exact h1
theorem g_done (h : Q a w) : wpGrow P ops Q [] S a w := h
end
end Go.Proofs.Ythjmmlgcaigdfaa
