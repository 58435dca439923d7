/- Rows of cells; and statements that draw their order, in which some operations only read, in a class of worlds that all keep, and the others stand alone when they come up. -/
import Derived.Test.YtkbhckjpmgkgjaaGreatDoorRows
import Derived.WalkKit
import Derived.Below
import Derived.OrdersHeld
import Derived.BigQuiet
import Derived.Deep.WholeRow
import Derived.Deep.MidRow
import Derived.Laws.Closers25b
import Derived.Laws.CopyOwn
namespace Go.Proofs.YtkbhckjpmgkgjaaGreatDoor
open Go.RowKit

/-- Block g holds these cells, and they may be written. -/
abbrev Row (w : World) (g : Nat) (C : Array Value) (t : TypeId) : Prop := w.heap[g]? = some (.cells C t (0, 0))
theorem Row.new (w : World) (C : Array Value) (t : TypeId) : Row (w.alloc (.cells C t)) w.heap.size C t := heap_alloc_new w _
theorem Row.lt {w : World} {g : Nat} {C : Array Value} {t : TypeId} (h : Row w g C t) : g < w.heap.size := (Array.getElem?_eq_some_iff.1 h).1
theorem Row.alloc {w : World} {g : Nat} {C : Array Value} {t : TypeId} (h : Row w g C t) (o : Obj) : Row (w.alloc o) g C t := (Below.heap_alloc w o g h.lt).trans h
theorem Row.below {w w' : World} {g B : Nat} {C : Array Value} {t : TypeId} (h : Row w g C t) (hb : Below B w w') (hB : g < B) : Row w' g C t := (hb.block g hB).trans h
theorem Row.setRow {w : World} {g : Nat} {C C' : Array Value} {t : TypeId} (h : Row w g C t) : Row (w.setRow g C') g C' t := setRow_heap w g C C' t _ h
theorem Row.other {w : World} {g k : Nat} {C C' : Array Value} {t : TypeId} (h : Row w g C t) (hk : g ≠ k) : Row (w.setRow k C') g C t := (setRow_other w k g C' hk).trans h
theorem Row.setCell {w : World} {g i : Nat} {C : Array Value} {t : TypeId} (h : Row w g C t) (v : Value) : Row (w.setCell ⟨g, i, none⟩ v) g (C.setIfInBounds i v) t := by
  rw [setCell_eq_setRow w g i C t (0, 0) v h]
  exact h.setRow
theorem Row.setCell_other {w : World} {g k i : Nat} {C : Array Value} {t : TypeId} (h : Row w g C t) (hk : g ≠ k) (v : Value) : Row (w.setCell ⟨k, i, none⟩ v) g C t := (heap_setCell_other w ⟨k, i, none⟩ g v hk).trans h
theorem Row.cell {w : World} {g : Nat} {C : Array Value} {t : TypeId} (h : Row w g C t) (i : Nat) : w.cell? ⟨g, i, none⟩ = C[i]? := cell_of_row w g i C t (0, 0) h
theorem Row.frozen {w : World} {g : Nat} {C : Array Value} {t : TypeId} (h : Row w g C t) (i : Nat) : w.frozen? ⟨g, i, none⟩ = false := frozen_of_row w g i C t h
theorem Row.drew {w : World} {g : Nat} {C : Array Value} {t : TypeId} (h : Row w g C t) : Row w.drew g C t := h

section
variable {P : Program} {ops : Array Oper} {md : Region.Mode} {S : World → Prop}

/-- The walk in the text's order: false: the operation only reads; true: it stands alone. -/
def wpMix (P : Program) (ops : Array Oper) (S : World → Prop) (Q : Act → World → Prop) : List Bool → List Oper → Act → World → Prop
  | _, [], a, w => Q a w
  | [], _ :: _, _, _ => False
  | true :: fs, o :: rest, a, w => Region.wanted o (yielded ops a.tmps) = true ∧ o.wp P a w (fun a' w' => S w' ∧ wpMix P ops S Q fs rest a' w') (fun _ _ _ => False)
  | false :: fs, o :: rest, a, w => ∃ v, YieldsIf P ops S o v a ∧ wpMix P ops S Q fs rest (a.put o.dst v) w

def mixB (md : Region.Mode) (ops : Array Oper) : List Bool → Nat → Array Bool → Bool
  | [], _, listed => (Region.ready md ops listed).isEmpty
  | true :: fs, k, listed => decide (Region.ready md ops listed = [k]) && mixB md ops fs (k + 1) (listed.setIfInBounds k true)
  | false :: fs, k, listed => (Region.ready md ops listed).contains k && Region.free md ops listed k && mixB md ops fs (k + 1) (listed.setIfInBounds k true)

/-- Only the common end. -/
def Only (Q : Act → World → Prop) : Exit → Act → World → Prop
  | .normal, a, w => Q a w
  | _, _, _ => False

theorem wp_monoQ {o : Oper} {a : Act} {w : World} {K : Act → World → Prop} {Q Q' : Exit → Act → World → Prop} (h : ∀ e a w, Q e a w → Q' e a w) (hh : o.wp P a w K Q) : o.wp P a w K Q' := by
  unfold Oper.wp at *
  generalize (execOp a.eval o).run P w = r at *
  cases r with
  | ok n w' =>
    cases n <;> simp only [Oper.upon] at hh ⊢ <;>
      first
        | exact hh
        | exact Calls.mono hh (fun e w'' he => by
            cases e
            · exact he
            · exact h _ _ _ he
            · obtain ⟨a, w, he⟩ := he; exact ⟨a, w, h _ _ _ he⟩)
  | halt x w' => cases x <;> simp only [Oper.upon] at hh ⊢ <;> exact h _ _ _ hh

theorem wpOp_monoQ {i : Nat} {a : Act} {w : World} {K : Act → World → Prop} {Q Q' : Exit → Act → World → Prop} (h : ∀ e a w, Q e a w → Q' e a w) (hh : wpOp P ops Q i K a w) : wpOp P ops Q' i K a w := by
  unfold wpOp at *
  split
  · simpa [*] using hh
  · rename_i o ho
    simp only [ho] at hh
    split
    · rename_i hw
      simp only [hw, if_true] at hh
      exact hh.imp (wp_monoQ h) (fun ⟨h1, a, w, h2⟩ => ⟨h1, a, w, h _ _ _ h2⟩)
    · rename_i hw; simp only [hw] at hh; exact hh

theorem wpAny_monoQ {Q Q' : Exit → Act → World → Prop} (h : ∀ e a w, Q e a w → Q' e a w) : ∀ (fuel : Nat) (listed : Array Bool) (a : Act) (w : World), wpAny P md ops Q fuel listed a w → wpAny P md ops Q' fuel listed a w
  | 0, _, _, _, hh => ⟨hh.1, h _ _ _ hh.2⟩
  | fuel + 1, _, _, _, hh => ⟨fun h0 => h _ _ _ (hh.1 h0), fun i hi => wpOp_monoQ h (wpOp_mono (fun a w h1 => wpAny_monoQ h fuel _ a w h1) (hh.2 i hi))⟩

theorem wpAnyH_mix {Q : Act → World → Prop} (hs : Region.noSelect ops = true) : ∀ (fs : List Bool) (l : List Oper) (k : Nat) (listed : Array Bool) (a : Act) (w : World), fs.length = l.length → (∀ j, l[j]? = ops[k + j]?) →
    mixB md ops fs k listed = true → S w → wpMix P ops S Q fs l a w → wpAnyH P md ops (Only Q) S l.length listed a w
  | [], [], _, listed, a, w, _, _, hB, _, h => ⟨by simpa [mixB] using hB, h⟩
  | [], _ :: _, _, _, _, _, hl, _, _, _, _ => by simp at hl
  | _ :: _, [], _, _, _, _, hl, _, _, _, _ => by simp at hl
  | true :: fs, o :: l, k, listed, a, w, hl, hj, hB, hS, h => by
    have h0 : ops[k]? = some o := by simpa using (hj 0).symm
    simp only [mixB, Bool.and_eq_true, decide_eq_true_eq] at hB
    refine wpAnyH_all hB.1 (by simp) fun i hi => ?_
    have hik : i = k := by simpa using hi
    subst hik
    obtain ⟨hw, hwp⟩ := h
    unfold wpOp
    simp only [h0, hw, if_true]
    refine .inl (wp_monoQ (fun _ _ _ h => h.elim) (Oper.wp_mono (fun a' w' h' => ?_) hwp))
    exact ⟨h'.1, wpAnyH_mix hs fs l (i + 1) _ a' w' (by simpa using hl) (fun j => by have := hj (j + 1); simpa [Nat.add_assoc, Nat.add_comm 1 j] using this) hB.2 h'.1 h'.2⟩
  | false :: fs, o :: l, k, listed, a, w, hl, hj, hB, hS, h => by
    have h0 : ops[k]? = some o := by simpa using (hj 0).symm
    simp only [mixB, Bool.and_eq_true] at hB
    obtain ⟨v, hy, h'⟩ := h
    refine wpAnyH_take h0 hs hB.1.2 hB.1.1 (fun _ _ _ h => h.elim) hy hS ?_
    exact wpAnyH_mix hs fs l (k + 1) _ _ w (by simpa using hl) (fun j => by have := hj (j + 1); simpa [Nat.add_assoc, Nat.add_comm 1 j] using this) hB.2 hS h'

theorem wp_region_mix {id : Nat} {Q : Exit → Act → World → Prop} {a : Act} {w : World} {l : List Oper} (fs : List Bool) (S : World → Prop) (hm : P.follows .mixedOrders = true)
    (hB : (Region.noSelect l.toArray && (decide (fs.length = l.length) && mixB .any l.toArray fs 0 (Array.replicate l.length false))) = true) (hS : S w.drew)
    (h : wpMix P l.toArray S (Q .normal) fs l a w.drew) : (Code.region id l.toArray true).wp P Q a w := by
  simp only [Bool.and_eq_true, decide_eq_true_eq] at hB
  refine wp_region_any hm ?_
  have h1 := wpAnyH_mix (md := .any) (Q := Q .normal) hB.1 fs l 0 _ a w.drew hB.2.1 (fun j => by simp) hB.2.2 hS h
  have h2 := wpAny_monoQ (Q' := Q) (fun e a w h => by cases e <;> first | exact h | exact h.elim) _ _ _ _ (wpAny_of_held _ _ _ _ h1)
  simpa using h2

variable {Q : Act → World → Prop} {a : Act} {w : World} {o : Oper} {rest : List Oper} {fs : List Bool}

theorem m_value (v : Value) (hw : Region.wanted o (yielded ops a.tmps) = true) (h : ∀ w, S w → (execOp a.eval o).run P w = .ok (.value v) w) (k : wpMix P ops S Q fs rest (a.put o.dst v) w) : wpMix P ops S Q (false :: fs) (o :: rest) a w :=
  ⟨v, .inl ⟨hw, h⟩, k⟩
theorem m_skip (hw : Region.wanted o (yielded ops a.tmps) = false) (k : wpMix P ops S Q fs rest (a.put o.dst undef) w) : wpMix P ops S Q (false :: fs) (o :: rest) a w :=
  ⟨undef, .inr ⟨hw, rfl⟩, k⟩
theorem m_move (x : Operand) (ho : o.op = .move x) (hw : Region.wanted o (yielded ops a.tmps) = true) (k : wpMix P ops S Q fs rest (a.put o.dst (a.eval x)) w) : wpMix P ops S Q (false :: fs) (o :: rest) a w :=
  m_value _ hw (fun w _ => by unfold execOp; simp only [ho]; rfl) k
theorem m_assign (x : Operand) (ho : o.op = .assign x) (hw : Region.wanted o (yielded ops a.tmps) = true) (k : wpMix P ops S Q fs rest (a.put o.dst (a.eval x)) w) : wpMix P ops S Q (false :: fs) (o :: rest) a w :=
  m_value _ hw (fun w _ => by unfold execOp; simp only [ho]; rfl) k
theorem m_load (ty : TypeId) (x : Operand) (ho : o.op = .load ty x) (hw : Region.wanted o (yielded ops a.tmps) = true) (g : Nat) (cs : Array Value) (t : TypeId) (d : TypeDesc) (hx : a.eval x = .pointer (some ⟨g, 0, none⟩))
    (hC : ∀ w, S w → Row w g cs t) (hu : P.underlying ty = some d) (hd : (match d with | .struct _ | .array _ _ => true | _ => false) = true) (hi : (P.info? ty).map (·.size) = some cs.size)
    (k : wpMix P ops S Q fs rest (a.put o.dst (.agg cs)) w) : wpMix P ops S Q (false :: fs) (o :: rest) a w :=
  m_value (.agg cs) hw (fun w hw' => by
    unfold execOp
    simp only [ho, hx, Instr.loadAt, Instr.sureAddr, Sem.run_bind, Sem.run_pure, Result.andThen_ok, run_loadVar_row w g t ty cs (0, 0) d (hC w hw') hu hd hi]) k
/-- A call that stands alone. -/
theorem m_call (hw : Region.wanted o (yielded ops a.tmps) = true) (f : FuncId) (args : Array Value) (h : (execOp a.eval o).run P w = .ok (.enter f args) w)
    (hc : Calls P f args w fun e w' => ∃ v, e = .returned v ∧ S w' ∧ wpMix P ops S Q fs rest (a.put o.dst v) w') : wpMix P ops S Q (true :: fs) (o :: rest) a w := by
  refine ⟨hw, ?_⟩
  unfold Oper.wp
  rw [h]
  simp only [Oper.upon]
  refine hc.mono ?_
  rintro e w' ⟨v, rfl, h1, h2⟩
  exact ⟨h1, h2⟩
/-- An operation that makes or writes memory, alone. -/
theorem m_alone (v : Value) (w' : World) (hw : Region.wanted o (yielded ops a.tmps) = true) (h : (execOp a.eval o).run P w = .ok (.value v) w') (hS : S w')
    (k : wpMix P ops S Q fs rest (a.put o.dst v) w') : wpMix P ops S Q (true :: fs) (o :: rest) a w := by
  refine ⟨hw, ?_⟩
  unfold Oper.wp
  rw [h]
  exact ⟨hS, k⟩
theorem m_done (h : Q a w) : wpMix P ops S Q [] [] a w := h
end
end Go.Proofs.YtkbhckjpmgkgjaaGreatDoor
