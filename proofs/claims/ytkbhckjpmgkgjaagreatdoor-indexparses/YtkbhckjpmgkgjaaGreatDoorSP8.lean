/- My own work: And, Or and Not of sets; slices.Equal at cuts; Same. -/
import Derived.Test.YtkbhckjpmgkgjaaGreatDoorSP7
namespace Go.Proofs.YtkbhckjpmgkgjaaGreatDoor
open Go.RowKit

theorem cf_and (a b : Bool) (w : World) : (callFunc 146 #[.bool a, .bool b]).run Tryz.prog w = .ok (.enter 146 #[.bool a, .bool b]) w := by kernel_rfl
theorem cf_or (a b : Bool) (w : World) : (callFunc 114 #[.bool a, .bool b]).run Tryz.prog w = .ok (.enter 114 #[.bool a, .bool b]) w := by kernel_rfl
/-- A set that may be, in memory. -/
structure GoodAt (w : World) (p : Value) (L : List Cut) (B : Nat) : Prop where
  at' : SetAt w p L B
  ok : SetOk L
theorem GoodAt.keep {w w' : World} {p : Value} {L : List Cut} {B : Nat} (h : GoodAt w p L B) (hb : Below B w w') : GoodAt w' p L B := ⟨h.at'.keep hb, h.ok⟩
theorem GoodAt.mono {w : World} {p : Value} {L : List Cut} {B B' : Nat} (h : GoodAt w p L B) (hB : B ≤ B') : GoodAt w p L B' := ⟨h.at'.mono hB, h.ok⟩
theorem and_ok {w : World} {p q : Value} {A B : List Cut} (hA : GoodAt w p A w.heap.size) (hB : GoodAt w q B w.heap.size) (hl : A.length + B.length ≤ 99999) : Calls Tryz.prog 112 #[p, q] w (NewSet (andS A B) w) :=
  and_by (S := fun v w' => SetAt w' v (andS A B) w'.heap.size ∧ Below w.heap.size w w') (together_ok fAnd _ rule_and cf_and hA.at' hB.at' hA.ok.ok hB.ok.ok hl)
theorem or_ok {w : World} {p q : Value} {A B : List Cut} (hA : GoodAt w p A w.heap.size) (hB : GoodAt w q B w.heap.size) (hl : A.length + B.length ≤ 99999) : Calls Tryz.prog 88 #[p, q] w (NewSet (orS A B) w) :=
  or_by (S := fun v w' => SetAt w' v (orS A B) w'.heap.size ∧ Below w.heap.size w w') (together_ok fOr _ rule_or cf_or hA.at' hB.at' hA.ok.ok hB.ok.ok hl)
theorem exec_neqc {o : Oper} {act : Act} (a b : Cut) (x y : Operand) (ho : o.op = .binOp .neq 216 x y 216) (hx : act.eval x = cutV a) (hy : act.eval y = cutV b) (w : World) :
    (execOp act.eval o).run Tryz.prog w = .ok (.value (.bool (!decide (a = b)))) w := by
  unfold execOp
  simp only [ho, hx, hy]
  have h1 := run_eqGuard_agg (P := Tryz.prog) w .neq 216 x y (cutC a) (cutC b) guardC
  have h2 := run_neq_struct (P := Tryz.prog) w 216 (cutC a) (cutC b)
  rw [eq_cut] at h2
  simp only [Sem.run_bind, Sem.run_pure, Result.andThen_ok, h1, h2]
theorem q_neqc {ops : Array Oper} {C : World → Prop} {Q : Act → Prop} {act : Act} {o : Oper} {rest : List Oper} (a b : Cut) (d : Bool) (hd : (!decide (a = b)) = d) (hw : Region.wanted o (yielded ops act.tmps) = true) (x y : Operand) (ho : o.op = .binOp .neq 216 x y 216) (hx : act.eval x = cutV a) (hy : act.eval y = cutV b)
    (k : wpQuiet Tryz.prog ops C Q rest (act.put o.dst (.bool d))) : wpQuiet Tryz.prog ops C Q (o :: rest) act :=
  q_value (.bool d) hw (fun w _ => by rw [← hd]; exact exec_neqc a b x y ho hx hy w) k
/-- What holds while two lists of cuts are held against each other. -/
structure EqW (w : World) (A B : List Cut) (ga oa gb ob : Nat) (wx : World) : Prop where
  a : ∀ i (h : i < A.length), wx.rangeAt ga (oa + i * 7) (encC A[i])
  b : ∀ i (h : i < B.length), wx.rangeAt gb (ob + i * 7) (encC B[i])
  old : Below w.heap.size w wx
theorem EqW.drew {w : World} {A B : List Cut} {ga oa gb ob : Nat} {wx : World} (h : EqW w A B ga oa gb ob wx) : EqW w A B ga oa gb ob wx.drew := ⟨h.a, h.b, h.old.drew⟩
/-- What holds while Same reads. -/
structure SmW (w : World) (A B : List Cut) (ga gb : Nat) (va vb : Value) (wx : World) : Prop where
  a : Row wx ga #[.bool true, va] 213
  b : Row wx gb #[.bool true, vb] 213
  ca : CutsAt wx va A w.heap.size
  cb : CutsAt wx vb B w.heap.size
  ga' : ga < w.heap.size
  gb' : gb < w.heap.size
  old : Below w.heap.size w wx
theorem SmW.next {w w' w'' : World} {A B : List Cut} {ga gb : Nat} {va vb : Value} (h : SmW w A B ga gb va vb w') (hb : Below w'.heap.size w' w'') : SmW w A B ga gb va vb w'' :=
  ⟨h.a.below hb h.a.lt, h.b.below hb h.b.lt, h.ca.keep (hb.mono h.old.size), h.cb.keep (hb.mono h.old.size), h.ga', h.gb', h.old.trans (hb.mono h.old.size)⟩
end Go.Proofs.YtkbhckjpmgkgjaaGreatDoor
