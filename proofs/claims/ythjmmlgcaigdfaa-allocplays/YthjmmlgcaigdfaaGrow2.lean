/- Steps of a drawing statement in a large frame: the operands' values are told, and the frame is looked at by evaluation alone. -/
import Derived.Test.YthjmmlgcaigdfaaGrow
namespace Go.Proofs.Ythjmmlgcaigdfaa
open Go.RowKit
section
variable {P : Program} {ops : Array Oper} {S : World → Prop} {Q : Act → World → Prop} {a : Act} {w : World} {o : Oper} {i : Nat} {fs : List (Bool × Nat)}

/-- What an operation does hangs on what it names alone. -/
theorem k_one (d : Option Tmp) (v : Value) (x : Operand) (vx : Value) (hi : ops[i]? = some o) (hd : o.dst = d) (hw : Region.wanted o (yielded ops a.tmps) = true) (hx : a.eval x = vx)
    (h : ∀ ρ : Operand → Value, (∀ c, ρ (.const c) = c) → ρ x = vx → ∀ w, S w → (execOp ρ o).run P w = .ok (.value v) w) (k : wpGrow P ops Q fs S (a.put d v) w) : wpGrow P ops Q ((false, i) :: fs) S a w :=
  g_value d v hi hd hw (fun w hw => h a.eval (fun _ => rfl) hx w hw) k
theorem k_two (d : Option Tmp) (v : Value) (x y : Operand) (vx vy : Value) (hi : ops[i]? = some o) (hd : o.dst = d) (hw : Region.wanted o (yielded ops a.tmps) = true) (hx : a.eval x = vx) (hy : a.eval y = vy)
    (h : ∀ ρ : Operand → Value, (∀ c, ρ (.const c) = c) → ρ x = vx → ρ y = vy → ∀ w, S w → (execOp ρ o).run P w = .ok (.value v) w) (k : wpGrow P ops Q fs S (a.put d v) w) : wpGrow P ops Q ((false, i) :: fs) S a w :=
  g_value d v hi hd hw (fun w hw => h a.eval (fun _ => rfl) hx hy w hw) k
theorem k_move (d : Option Tmp) (v : Value) (x : Operand) (hi : ops[i]? = some o) (hd : o.dst = d) (ho : o.op = .move x) (hw : Region.wanted o (yielded ops a.tmps) = true) (hx : a.eval x = v) (k : wpGrow P ops Q fs S (a.put d v) w) : wpGrow P ops Q ((false, i) :: fs) S a w :=
  g_value d v hi hd hw (fun w _ => by unfold execOp; simp only [ho, hx]; rfl) k
theorem k_assign (d : Option Tmp) (v : Value) (x : Operand) (hi : ops[i]? = some o) (hd : o.dst = d) (ho : o.op = .assign x) (hw : Region.wanted o (yielded ops a.tmps) = true) (hx : a.eval x = v) (k : wpGrow P ops Q fs S (a.put d v) w) : wpGrow P ops Q ((false, i) :: fs) S a w :=
  g_value d v hi hd hw (fun w _ => by unfold execOp; simp only [ho, hx]; rfl) k
theorem k_convert (d : Option Tmp) (t u : TypeId) (x : Operand) (v vx : Value) (hi : ops[i]? = some o) (hd : o.dst = d) (ho : o.op = .convert t u x) (hw : Region.wanted o (yielded ops a.tmps) = true) (hx : a.eval x = vx) (h : ∀ w, S w → (convert t u vx).run P w = .ok v w) (k : wpGrow P ops Q fs S (a.put d v) w) : wpGrow P ops Q ((false, i) :: fs) S a w :=
  g_value d v hi hd hw (fun w hw => by unfold execOp; simp only [ho, hx, Sem.run_bind, h w hw, Result.andThen_ok]; rfl) k
theorem k_call1 (d : Option Tmp) (f : FuncId) (x : Operand) (vx : Value) (hi : ops[i]? = some o) (hd : o.dst = d) (hw : Region.wanted o (yielded ops a.tmps) = true) (hx : a.eval x = vx)
    (h : ∀ ρ : Operand → Value, (∀ g, ρ (.func g) = .func (.func g) #[] #[]) → ρ x = vx → (execOp ρ o).run P w = .ok (.enter f #[vx]) w)
    (hc : Calls P f #[vx] w fun e w' => ∃ v, e = .returned v ∧ ∃ S' : World → Prop, (∀ w, S' w → S w) ∧ S' w' ∧ wpGrow P ops Q fs S' (a.put d v) w') : wpGrow P ops Q ((true, i) :: fs) S a w :=
  g_call d hi hd hw f _ (h a.eval (fun _ => rfl) hx) hc
theorem k_call2 (d : Option Tmp) (f : FuncId) (x y : Operand) (vx vy : Value) (hi : ops[i]? = some o) (hd : o.dst = d) (hw : Region.wanted o (yielded ops a.tmps) = true) (hx : a.eval x = vx) (hy : a.eval y = vy)
    (h : ∀ ρ : Operand → Value, (∀ g, ρ (.func g) = .func (.func g) #[] #[]) → ρ x = vx → ρ y = vy → (execOp ρ o).run P w = .ok (.enter f #[vx, vy]) w)
    (hc : Calls P f #[vx, vy] w fun e w' => ∃ v, e = .returned v ∧ ∃ S' : World → Prop, (∀ w, S' w → S w) ∧ S' w' ∧ wpGrow P ops Q fs S' (a.put d v) w') : wpGrow P ops Q ((true, i) :: fs) S a w :=
  g_call d hi hd hw f _ (h a.eval (fun _ => rfl) hx hy) hc
/-- The end, in another frame that is the same. -/
theorem k_done (a' : Act) (h : a = a') (hQ : Q a' w) : wpGrow P ops Q [] S a w := by subst h; exact hQ
end
end Go.Proofs.Ythjmmlgcaigdfaa
