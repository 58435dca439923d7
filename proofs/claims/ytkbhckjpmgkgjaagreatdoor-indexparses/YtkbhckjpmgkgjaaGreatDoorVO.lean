/- My own work: the law VersionOrder. -/
import Derived.Test.YtkbhckjpmgkgjaaGreatDoorVQ
namespace Go.Proofs.YtkbhckjpmgkgjaaGreatDoor
open Go.RowKit

abbrev oneV : Ver := ⟨1, 0, 0, 0, 1, ⟨#[]⟩⟩
abbrev twoV : Ver := ⟨1, 0, 0, 0, 2, ⟨#[]⟩⟩
theorem parse_1 : parseE ⟨#[49]⟩ = .tuple #[verV oneV, .int .i64 0] := parseE_yes (by rfl)
theorem parse_10 : parseE ⟨#[49, 46, 48]⟩ = .tuple #[verV twoV, .int .i64 0] := parseE_yes (by rfl)
theorem cmp_12 : cmpV oneV twoV = -1 := by decide
theorem leInt {x y z : Int} (hx : x = -1 ∨ x = 0 ∨ x = 1) (h1 : x ≤ 0 → y ≤ 0 → z ≤ 0) (h2 : 0 ≤ x → 0 ≤ y → 0 ≤ z) : (x = -1 ∧ (y ≤ 0 → z ≤ 0)) ∨ (x = 1 ∧ (0 ≤ y → 0 ≤ z)) ∨ (x = 0 ∧ (y ≤ 0 → z ≤ 0) ∧ (0 ≤ y → 0 ≤ z)) := by omega
/-- Five versions lie there. -/
structure Kept5 (W : World) (a b c : Ver) (p q : Nat) (w' : World) : Prop where
  k : Kept3 W a b c w'
  p : Row w' p (verC oneV) 112
  q : Row w' q (verC twoV) 112
theorem Kept5.next {W w1 w2 : World} {a b c : Ver} {p q : Nat} (h : Kept5 W a b c p q w1) (hb : Below w1.heap.size w1 w2) : Kept5 W a b c p q w2 :=
  ⟨h.k.next hb, h.p.below hb h.p.lt, h.q.below hb h.q.lt⟩
section
variable {P : Program} {ops : Array Oper} {Q : Exit → Act → World → Prop} {act : Act} {o : Oper} {rest : List Oper} {w : World}
theorem wp_eqv_wanted (hw : Region.wanted o (yielded ops act.tmps) = true) (t : TypeId) (hg : Tryz.prog.eqGuardType Tryz.prog.depth t = false) (a b : Ver) (he : ∀ w, (Op.equalIn 10000 t (verV a) (verV b)).run Tryz.prog w = .ok (decide (a = b)) w) (x y : Operand) (ho : o.op = .binOp .eql t x y t) (hx : act.eval x = verV a) (hy : act.eval y = verV b)
    (k : wpList Tryz.prog ops Q rest (act.put o.dst (.bool (decide (a = b)))) w) : wpList Tryz.prog ops Q (o :: rest) act w := by
  unfold wpList
  rw [if_pos hw]
  refine .inl ?_
  unfold Oper.wp
  rw [exec_eqv t hg a b (he w) x y ho hx hy]
  exact k
end
end Go.Proofs.YtkbhckjpmgkgjaaGreatDoor
