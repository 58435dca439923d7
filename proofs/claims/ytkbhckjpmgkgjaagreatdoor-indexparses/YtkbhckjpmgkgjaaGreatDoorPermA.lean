/- Statements that draw their order, walked in an order of one's own, all in one class of worlds. -/
import Derived.Test.YtkbhckjpmgkgjaaGreatDoorPerm
namespace Go.Proofs.YtkbhckjpmgkgjaaGreatDoor
open Go.RowKit
section
variable {P : Program} {ops : Array Oper} {md : Region.Mode} {S : World → Prop}

/-- The walk in the order that is told: false: the operation only reads; true: it stands alone. -/
def wpPermA (P : Program) (ops : Array Oper) (S : World → Prop) (Q : Act → World → Prop) : List (Bool × Nat) → Act → World → Prop
  | [], a, w => Q a w
  | (true, i) :: fs, a, w => ∃ o, ops[i]? = some o ∧ Region.wanted o (yielded ops a.tmps) = true ∧ o.wp P a w (fun a' w' => S w' ∧ wpPermA P ops S Q fs a' w') (fun _ _ _ => False)
  | (false, i) :: fs, a, w => ∃ o, ops[i]? = some o ∧ ∃ v, YieldsIf P ops S o v a ∧ wpPermA P ops S Q fs (a.put o.dst v) w

def permA (md : Region.Mode) (ops : Array Oper) : List (Bool × Nat) → Array Bool → Bool
  | [], listed => (Region.ready md ops listed).isEmpty
  | (true, k) :: fs, listed => decide (Region.ready md ops listed = [k]) && permA md ops fs (listed.setIfInBounds k true)
  | (false, k) :: fs, listed => (Region.ready md ops listed).contains k && Region.free md ops listed k && permA md ops fs (listed.setIfInBounds k true)

theorem wpAnyH_permA {Q : Act → World → Prop} (hs : Region.noSelect ops = true) : ∀ (fs : List (Bool × Nat)) (listed : Array Bool) (a : Act) (w : World),
    permA md ops fs listed = true → S w → wpPermA P ops S Q fs a w → wpAnyH P md ops (Only Q) S fs.length listed a w
  | [], listed, a, w, hB, _, h => ⟨by simpa [permA] using hB, h⟩
  | (true, k) :: fs, listed, a, w, hB, hS, h => by
    simp only [permA, Bool.and_eq_true, decide_eq_true_eq] at hB
    refine wpAnyH_all hB.1 (by simp) fun i hi => ?_
    have hik : i = k := by simpa using hi
    subst hik
    obtain ⟨o, h0, hw, hwp⟩ := h
    unfold wpOp
    simp only [h0, hw, if_true]
    refine .inl (wp_monoQ (fun _ _ _ h => h.elim) (Oper.wp_mono (fun a' w' h' => ?_) hwp))
    exact ⟨h'.1, wpAnyH_permA hs fs _ a' w' hB.2 h'.1 h'.2⟩
  | (false, k) :: fs, listed, a, w, hB, hS, h => by
    simp only [permA, Bool.and_eq_true] at hB
    obtain ⟨o, h0, v, hy, h'⟩ := h
    refine wpAnyH_take h0 hs hB.1.2 hB.1.1 (fun _ _ _ h => h.elim) hy hS ?_
    exact wpAnyH_permA hs fs _ _ w hB.2 hS h'

theorem wp_region_permA {id : Nat} {Q : Exit → Act → World → Prop} {a : Act} {w : World} {l : List Oper} (fs : List (Bool × Nat)) (S : World → Prop) (hm : P.follows .mixedOrders = true)
    (hB : (Region.noSelect l.toArray && (decide (fs.length = l.length) && permA .any l.toArray fs (Array.replicate l.length false))) = true) (hS : S w.drew)
    (h : wpPermA P l.toArray S (Q .normal) fs a w.drew) : (Code.region id l.toArray true).wp P Q a w := by
  simp only [Bool.and_eq_true, decide_eq_true_eq] at hB
  refine wp_region_any hm ?_
  have h1 := wpAnyH_permA (md := .any) (Q := Q .normal) hB.1 fs _ a w.drew hB.2.2 hS h
  have h2 := wpAny_monoQ (Q' := Q) (fun e a w h => by cases e <;> first | exact h | exact h.elim) _ _ _ _ (wpAny_of_held _ _ _ _ h1)
  rw [hB.2.1] at h2
  simpa using h2

variable {Q : Act → World → Prop} {a : Act} {w : World} {o : Oper} {i : Nat} {fs : List (Bool × Nat)}

theorem a_value (d : Option Tmp) (v : Value) (hi : ops[i]? = some o) (hd : o.dst = d) (hw : Region.wanted o (yielded ops a.tmps) = true) (h : ∀ w, S w → (execOp a.eval o).run P w = .ok (.value v) w) (k : wpPermA P ops S Q fs (a.put d v) w) : wpPermA P ops S Q ((false, i) :: fs) a w :=
  ⟨o, hi, v, .inl ⟨hw, h⟩, by rw [hd]; exact k⟩
theorem a_skip (d : Option Tmp) (hi : ops[i]? = some o) (hd : o.dst = d) (hw : Region.wanted o (yielded ops a.tmps) = false) (k : wpPermA P ops S Q fs (a.put d undef) w) : wpPermA P ops S Q ((false, i) :: fs) a w :=
  ⟨o, hi, undef, .inr ⟨hw, rfl⟩, by rw [hd]; exact k⟩
theorem a_move (d : Option Tmp) (x : Operand) (hi : ops[i]? = some o) (hd : o.dst = d) (ho : o.op = .move x) (hw : Region.wanted o (yielded ops a.tmps) = true) (k : wpPermA P ops S Q fs (a.put d (a.eval x)) w) : wpPermA P ops S Q ((false, i) :: fs) a w :=
  a_value d _ hi hd hw (fun w _ => by unfold execOp; simp only [ho]; rfl) k
theorem a_load_mid (dd : Option Tmp) (ty : TypeId) (x : Operand) (hi : ops[i]? = some o) (hd' : o.dst = dd) (ho : o.op = .load ty x) (hw : Region.wanted o (yielded ops a.tmps) = true) (b off : Nat) (hx : a.eval x = .pointer (some ⟨b, off, none⟩)) (cs : List Value) (d : TypeDesc)
    (hC : ∀ w, S w → w.rangeAt b off cs) (hu : P.underlying ty = some d) (hd : d.isRow = true) (hs : (P.info? ty).map (·.size) = some cs.length)
    (k : wpPermA P ops S Q fs (a.put dd (.agg cs.toArray)) w) : wpPermA P ops S Q ((false, i) :: fs) a w :=
  ⟨o, hi, _, yieldsIf_load_mid hw ty x ho b off hx cs d hC hu hd hs, by rw [hd']; exact k⟩
theorem a_call (d : Option Tmp) (hi : ops[i]? = some o) (hd : o.dst = d) (hw : Region.wanted o (yielded ops a.tmps) = true) (f : FuncId) (args : Array Value) (h : (execOp a.eval o).run P w = .ok (.enter f args) w)
    (hc : Calls P f args w fun e w' => ∃ v, e = .returned v ∧ S w' ∧ wpPermA P ops S Q fs (a.put d v) w') : wpPermA P ops S Q ((true, i) :: fs) a w := by
  refine ⟨o, hi, hw, ?_⟩
  unfold Oper.wp
  rw [h]
  simp only [Oper.upon]
  refine hc.mono ?_
  rintro e w' ⟨v, rfl, h1, h2⟩
  subst hd
  exact ⟨h1, h2⟩
theorem a_alone (d : Option Tmp) (v : Value) (w' : World) (hi : ops[i]? = some o) (hd : o.dst = d) (hw : Region.wanted o (yielded ops a.tmps) = true) (h : (execOp a.eval o).run P w = .ok (.value v) w') (hS : S w')
    (k : wpPermA P ops S Q fs (a.put d v) w') : wpPermA P ops S Q ((true, i) :: fs) a w := by
  refine ⟨o, hi, hw, ?_⟩
  unfold Oper.wp
  rw [h]
  subst hd
  exact ⟨hS, k⟩
theorem a_store (w' : World) (hi : ops[i]? = some o) (hd : o.dst = none) (hw : Region.wanted o (yielded ops a.tmps) = true) (h : (execOp a.eval o).run P w = .ok .skip w') (hS : S w')
    (k : wpPermA P ops S Q fs a w') : wpPermA P ops S Q ((true, i) :: fs) a w := by
  refine ⟨o, hi, hw, ?_⟩
  unfold Oper.wp
  rw [h]
  simp only [Oper.upon, hd]
  exact ⟨hS, k⟩
/-- An operation that stands alone, by a law of its own. -/
theorem a_wp (hi : ops[i]? = some o) (hw : Region.wanted o (yielded ops a.tmps) = true) (h : o.wp P a w (fun a' w' => S w' ∧ wpPermA P ops S Q fs a' w') (fun _ _ _ => False)) : wpPermA P ops S Q ((true, i) :: fs) a w :=
  ⟨o, hi, hw, h⟩
theorem a_done (h : Q a w) : wpPermA P ops S Q [] a w := h
end
end Go.Proofs.YtkbhckjpmgkgjaaGreatDoor
