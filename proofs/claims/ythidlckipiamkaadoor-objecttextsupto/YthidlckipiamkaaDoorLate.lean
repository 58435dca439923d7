/- Statements that draw their order, walked in an order of one's own; several operations at the end, for which all that only reads is waited, may leave the class of worlds that the others keep. -/
import Derived.Test.YthidlckipiamkaaDoorPerm
namespace Go.Proofs.YthidlckipiamkaaDoor
open Go.RowKit
section
variable {P : Program} {ops : Array Oper} {md : Region.Mode} {S : World → Prop}

def later (fs : List (Nat × Nat)) : Bool := fs.any fun x => x.1 == 0
/-- The walk in the order that is told: 0: the operation only reads, in the class of worlds; 1: it stands alone; 2: it looks at no world. Where nothing that reads is left nothing is asked of the world. -/
def wpLate (P : Program) (ops : Array Oper) (S : World → Prop) (Q : Act → World → Prop) : List (Nat × Nat) → Act → World → Prop
  | [], a, w => Q a w
  | (0, i) :: fs, a, w => ∃ o, ops[i]? = some o ∧ ∃ v, YieldsIf P ops S o v a ∧ wpLate P ops S Q fs (a.put o.dst v) w
  | (1, i) :: fs, a, w => ∃ o, ops[i]? = some o ∧ Region.wanted o (yielded ops a.tmps) = true ∧ o.wp P a w (fun a' w' => (later fs = true → S w') ∧ wpLate P ops S Q fs a' w') (fun _ _ _ => False)
  | (_ + 2, i) :: fs, a, w => ∃ o, ops[i]? = some o ∧ ∃ v, YieldsIf P ops (fun _ => True) o v a ∧ wpLate P ops S Q fs (a.put o.dst v) w

def lateB (md : Region.Mode) (ops : Array Oper) (ns : List Nat) : List (Nat × Nat) → Array Bool → Bool
  | [], listed => (Region.ready md ops listed).isEmpty
  | (0, k) :: fs, listed => (Region.ready md ops listed).contains k && Region.free md ops listed k && (ns.all fun n => (ops[n]?).any fun o => o.after.any fun e => Region.binds md e && decide (e.on = k)) && lateB md ops ns fs (listed.setIfInBounds k true)
  | (1, k) :: fs, listed => decide (Region.ready md ops listed = [k]) && (ns.contains k == !later fs) && lateB md ops ns fs (listed.setIfInBounds k true)
  | (_ + 2, k) :: fs, listed => (Region.ready md ops listed).contains k && Region.free md ops listed k && lateB md ops ns fs (listed.setIfInBounds k true)

/-- Whatever order is picked: the class of worlds lasts behind each operation but those of ns. -/
def wpAnyL (P : Program) (md : Region.Mode) (ops : Array Oper) (ns : List Nat) (Q : Act → World → Prop) (S : World → Prop) : Nat → Array Bool → Act → World → Prop
  | 0, listed, a, w => Region.ready md ops listed = [] ∧ Q a w
  | fuel + 1, listed, a, w => (Region.ready md ops listed = [] → Q a w) ∧
    ∀ i ∈ Region.ready md ops listed, wpOp P ops (fun _ _ _ => False) i (fun a' w' => (S w → i ∉ ns → S w') ∧ wpAnyL P md ops ns Q S fuel (listed.setIfInBounds i true) a' w') a w

theorem wpAny_of_L {ns : List Nat} {Q : Exit → Act → World → Prop} : ∀ (fuel : Nat) (listed : Array Bool) (a : Act) (w : World), wpAnyL P md ops ns (Q .normal) S fuel listed a w → wpAny P md ops Q fuel listed a w
  | 0, _, _, _, h => h
  | fuel + 1, _, _, _, h => ⟨h.1, fun i hi => wpOp_monoQ (fun _ _ _ h => h.elim) (wpOp_mono (fun a' w' h' => wpAny_of_L fuel _ a' w' h'.2) (h.2 i hi))⟩

theorem wpAnyL_first {ns : List Nat} {i : Nat} {oi : Oper} {v : Value} {Q : Act → World → Prop} (hi : ops[i]? = some oi) (hwait : ∀ n ∈ ns, ∃ on, ops[n]? = some on ∧ ∃ e ∈ on.after, Region.binds md e = true ∧ e.on = i) (hsel : ∀ (j : Nat) (o : Oper) cs b, ops[j]? = some o → o.op ≠ .select cs b) :
    ∀ (fuel : Nat) (listed : Array Bool) (a : Act) (w : World),
      (∀ j oj, ops[j]? = some oj → j ≠ i → listed.getD j true = false → (∀ e ∈ oj.after, Region.binds md e = true → e.on ≠ i) → oi.apart ops oj = true) →
      i ∈ Region.ready md ops listed → YieldsIf P ops S oi v a → S w →
      wpAnyL P md ops ns Q S fuel (listed.setIfInBounds i true) (a.put oi.dst v) w → wpAnyL P md ops ns Q S (fuel + 1) listed a w := by
  intro fuel
  induction fuel with
  | zero =>
    intro listed a w _ hr hy hS H
    refine ⟨fun h => absurd hr (by rw [h]; simp), fun j hj => ?_⟩
    by_cases e : j = i
    · subst e
      exact hy.wpOp hi hS ⟨fun _ _ => hS, H⟩
    · have h := ready_mono hj e
      rw [H.1] at h
      exact absurd h (by simp)
  | succ fuel ih =>
    intro listed a w hfree hr hy hS H
    refine ⟨fun h => absurd hr (by rw [h]; simp), fun j hj => ?_⟩
    by_cases e : j = i
    · subst e
      exact hy.wpOp hi hS ⟨fun _ _ => hS, H⟩
    obtain ⟨hju, oj, hoj, hbound⟩ := mem_ready.1 hj
    have hiu := (mem_ready.1 hr).1
    -- nothing that is ready waits for i, which has not come up
    have free : ∀ e ∈ oj.after, Region.binds md e = true → e.on ≠ i := fun e he hb hq => by
      have h := hbound e he hb
      rw [hq] at h
      rcases Nat.lt_or_ge i listed.size with hlt | hge
      · simp [hlt] at hiu h
        rw [hiu] at h
        cases h
      · simp [Array.getElem?_eq_none hge] at h
    have hjn : j ∉ ns := fun hq => by
      obtain ⟨on, hn, x, hx, hb, ho⟩ := hwait j hq
      obtain rfl : oj = on := Option.some.inj (hoj.symm.trans hn)
      exact free x hx hb ho
    have step := wpOp_putIf hoj (hfree j oj hoj e hju free) (fun cs b => hsel i oi cs b hi) (fun cs b => hsel j oj cs b hoj) (Q := fun _ _ _ => False) (fun _ _ _ h => h) hy (H.2 j (ready_mono hj e))
    refine wpOp_mono (fun a' w' h => ?_) step
    have hS' := h.2.1 hS hjn
    refine ⟨fun _ _ => hS', ih (listed.setIfInBounds j true) a' w' (fun k ok hk hki hun hno => hfree k ok hk hki ?_ hno) (ready_mono hr (Ne.symm e)) h.1 hS' ?_⟩
    · by_cases hq : j = k
      · subst hq; exact hju
      · rwa [getD_set_ne true hq] at hun
    · rw [Array.setIfInBounds_comm _ _ e]
      exact h.2.2

theorem wpAnyL_free {ns : List Nat} {i : Nat} {oi : Oper} {v : Value} {Q : Act → World → Prop} (hi : ops[i]? = some oi) (hsel : ∀ (j : Nat) (o : Oper) cs b, ops[j]? = some o → o.op ≠ .select cs b) :
    ∀ (fuel : Nat) (listed : Array Bool) (a : Act) (w : World),
      (∀ j oj, ops[j]? = some oj → j ≠ i → listed.getD j true = false → (∀ e ∈ oj.after, Region.binds md e = true → e.on ≠ i) → oi.apart ops oj = true) →
      i ∈ Region.ready md ops listed → YieldsIf P ops (fun _ => True) oi v a →
      wpAnyL P md ops ns Q S fuel (listed.setIfInBounds i true) (a.put oi.dst v) w → wpAnyL P md ops ns Q S (fuel + 1) listed a w := by
  intro fuel
  induction fuel with
  | zero =>
    intro listed a w _ hr hy H
    refine ⟨fun h => absurd hr (by rw [h]; simp), fun j hj => ?_⟩
    by_cases e : j = i
    · subst e
      exact hy.wpOp hi trivial ⟨fun h _ => h, H⟩
    · have h := ready_mono hj e
      rw [H.1] at h
      exact absurd h (by simp)
  | succ fuel ih =>
    intro listed a w hfree hr hy H
    refine ⟨fun h => absurd hr (by rw [h]; simp), fun j hj => ?_⟩
    by_cases e : j = i
    · subst e
      exact hy.wpOp hi trivial ⟨fun h _ => h, H⟩
    obtain ⟨hju, oj, hoj, hbound⟩ := mem_ready.1 hj
    have hiu := (mem_ready.1 hr).1
    -- nothing that is ready waits for i, which has not come up
    have free : ∀ e ∈ oj.after, Region.binds md e = true → e.on ≠ i := fun e he hb hq => by
      have h := hbound e he hb
      rw [hq] at h
      rcases Nat.lt_or_ge i listed.size with hlt | hge
      · simp [hlt] at hiu h
        rw [hiu] at h
        cases h
      · simp [Array.getElem?_eq_none hge] at h
    have step := wpOp_putIf hoj (hfree j oj hoj e hju free) (fun cs b => hsel i oi cs b hi) (fun cs b => hsel j oj cs b hoj) (Q := fun _ _ _ => False) (fun _ _ _ h => h) hy (H.2 j (ready_mono hj e))
    refine wpOp_mono (fun a' w' h => ?_) step
    refine ⟨h.2.1, ih (listed.setIfInBounds j true) a' w' (fun k ok hk hki hun hno => hfree k ok hk hki ?_ hno) (ready_mono hr (Ne.symm e)) h.1 ?_⟩
    · by_cases hq : j = k
      · subst hq; exact hju
      · rwa [getD_set_ne true hq] at hun
    · rw [Array.setIfInBounds_comm _ _ e]
      exact h.2.2

theorem wpAnyL_late {ns : List Nat} {Q : Act → World → Prop} (hs : Region.noSelect ops = true) : ∀ (fs : List (Nat × Nat)) (listed : Array Bool) (a : Act) (w : World),
    lateB md ops ns fs listed = true → (later fs = true → S w) → wpLate P ops S Q fs a w → wpAnyL P md ops ns Q S fs.length listed a w
  | [], listed, a, w, hB, _, h => ⟨by simpa [lateB] using hB, h⟩
  | (1, k) :: fs, listed, a, w, hB, hS, h => by
    simp only [lateB, Bool.and_eq_true, decide_eq_true_eq, beq_iff_eq] at hB
    obtain ⟨⟨hB1, hB2⟩, hB3⟩ := hB
    refine ⟨fun h0 => absurd (hB1.symm.trans h0) (by simp), fun i hi => ?_⟩
    rw [hB1] at hi
    have hik : i = k := by simpa using hi
    subst hik
    obtain ⟨o, h0, hw, hwp⟩ := h
    unfold wpOp
    simp only [h0, hw, if_true]
    refine .inl (Oper.wp_mono (fun a' w' h' => ?_) hwp)
    refine ⟨fun _ hne => h'.1 ?_, wpAnyL_late hs fs _ a' w' hB3 h'.1 h'.2⟩
    cases hl : later fs with
    | true => rfl
    | false =>
      rw [hl] at hB2
      exact absurd (List.contains_iff_mem.1 (by simpa using hB2)) hne
  | (0, k) :: fs, listed, a, w, hB, hS, h => by
    simp only [lateB, Bool.and_eq_true] at hB
    obtain ⟨⟨⟨hB1, hB2⟩, hB3⟩, hB4⟩ := hB
    obtain ⟨o, h0, v, hy, h'⟩ := h
    have hSw : S w := hS (by simp [later])
    refine wpAnyL_first h0 (fun n hn => ?_) (Region.noSelect_spec hs) fs.length listed a w (Region.free_spec h0 hB2) (by simpa using hB1) hy hSw (wpAnyL_late hs fs _ _ w hB4 (fun _ => hSw) h')
    have hx := List.all_eq_true.1 hB3 n hn
    cases hon : ops[n]? with
    | none => rw [hon] at hx; simp at hx
    | some on =>
      rw [hon] at hx
      simp only [Option.any_some, Array.any_eq_true', Bool.and_eq_true, decide_eq_true_eq] at hx
      exact ⟨on, rfl, hx⟩
  | (n + 2, k) :: fs, listed, a, w, hB, hS, h => by
    simp only [lateB, Bool.and_eq_true] at hB
    obtain ⟨⟨hB1, hB2⟩, hB4⟩ := hB
    obtain ⟨o, h0, v, hy, h'⟩ := h
    exact wpAnyL_free h0 (Region.noSelect_spec hs) fs.length listed a w (Region.free_spec h0 hB2) (by simpa using hB1) hy (wpAnyL_late hs fs _ _ w hB4 (fun hl => hS (by simp [later] at hl ⊢; exact hl)) h')

theorem wp_region_late {id : Nat} {Q : Exit → Act → World → Prop} {a : Act} {w : World} {l : List Oper} (ns : List Nat) (fs : List (Nat × Nat)) (S : World → Prop) (hm : P.follows .mixedOrders = true)
    (hB : (Region.noSelect l.toArray && (decide (fs.length = l.length) && lateB .any l.toArray ns fs (Array.replicate l.length false))) = true) (hS : S w.drew)
    (h : wpLate P l.toArray S (Q .normal) fs a w.drew) : (Code.region id l.toArray true).wp P Q a w := by
  simp only [Bool.and_eq_true, decide_eq_true_eq] at hB
  refine wp_region_any hm ?_
  have h1 := wpAny_of_L (Q := Q) _ _ _ _ (wpAnyL_late (md := .any) (Q := Q .normal) hB.1 fs _ a w.drew hB.2.2 (fun _ => hS) h)
  rw [hB.2.1] at h1
  simpa using h1

variable {Q : Act → World → Prop} {a : Act} {w : World} {o : Oper} {i : Nat} {fs : List (Nat × Nat)}

theorem l_value (d : Option Tmp) (v : Value) (hi : ops[i]? = some o) (hd : o.dst = d) (hw : Region.wanted o (yielded ops a.tmps) = true) (h : ∀ w, S w → (execOp a.eval o).run P w = .ok (.value v) w) (k : wpLate P ops S Q fs (a.put d v) w) : wpLate P ops S Q ((0, i) :: fs) a w :=
  ⟨o, hi, v, .inl ⟨hw, h⟩, by rw [hd]; exact k⟩
theorem f_value (d : Option Tmp) (v : Value) (hi : ops[i]? = some o) (hd : o.dst = d) (hw : Region.wanted o (yielded ops a.tmps) = true) (h : ∀ w : World, True → (execOp a.eval o).run P w = .ok (.value v) w) (k : wpLate P ops S Q fs (a.put d v) w) : wpLate P ops S Q ((2, i) :: fs) a w :=
  ⟨o, hi, v, .inl ⟨hw, h⟩, by rw [hd]; exact k⟩
theorem f_move (d : Option Tmp) (x : Operand) (hi : ops[i]? = some o) (hd : o.dst = d) (ho : o.op = .move x) (hw : Region.wanted o (yielded ops a.tmps) = true) (k : wpLate P ops S Q fs (a.put d (a.eval x)) w) : wpLate P ops S Q ((2, i) :: fs) a w :=
  f_value d _ hi hd hw (fun w _ => by unfold execOp; simp only [ho]; rfl) k
theorem l_skip (d : Option Tmp) (hi : ops[i]? = some o) (hd : o.dst = d) (hw : Region.wanted o (yielded ops a.tmps) = false) (k : wpLate P ops S Q fs (a.put d undef) w) : wpLate P ops S Q ((0, i) :: fs) a w :=
  ⟨o, hi, undef, .inr ⟨hw, rfl⟩, by rw [hd]; exact k⟩
theorem l_move (d : Option Tmp) (x : Operand) (hi : ops[i]? = some o) (hd : o.dst = d) (ho : o.op = .move x) (hw : Region.wanted o (yielded ops a.tmps) = true) (k : wpLate P ops S Q fs (a.put d (a.eval x)) w) : wpLate P ops S Q ((0, i) :: fs) a w :=
  l_value d _ hi hd hw (fun w _ => by unfold execOp; simp only [ho]; rfl) k
theorem l_load_mid (dd : Option Tmp) (ty : TypeId) (x : Operand) (hi : ops[i]? = some o) (hd' : o.dst = dd) (ho : o.op = .load ty x) (hw : Region.wanted o (yielded ops a.tmps) = true) (b off : Nat) (hx : a.eval x = .pointer (some ⟨b, off, none⟩)) (cs : List Value) (d : TypeDesc)
    (hC : ∀ w, S w → w.rangeAt b off cs) (hu : P.underlying ty = some d) (hd : d.isRow = true) (hs : (P.info? ty).map (·.size) = some cs.length)
    (k : wpLate P ops S Q fs (a.put dd (.agg cs.toArray)) w) : wpLate P ops S Q ((0, i) :: fs) a w :=
  ⟨o, hi, _, yieldsIf_load_mid hw ty x ho b off hx cs d hC hu hd hs, by rw [hd']; exact k⟩
theorem l_call (d : Option Tmp) (hi : ops[i]? = some o) (hd : o.dst = d) (hw : Region.wanted o (yielded ops a.tmps) = true) (f : FuncId) (args : Array Value) (h : (execOp a.eval o).run P w = .ok (.enter f args) w)
    (hc : Calls P f args w fun e w' => ∃ v, e = .returned v ∧ (later fs = true → S w') ∧ wpLate P ops S Q fs (a.put d v) w') : wpLate P ops S Q ((1, i) :: fs) a w := by
  refine ⟨o, hi, hw, ?_⟩
  unfold Oper.wp
  rw [h]
  simp only [Oper.upon]
  refine hc.mono ?_
  rintro e w' ⟨v, rfl, h1, h2⟩
  subst hd
  exact ⟨h1, h2⟩
theorem l_alone (d : Option Tmp) (v : Value) (w' : World) (hi : ops[i]? = some o) (hd : o.dst = d) (hw : Region.wanted o (yielded ops a.tmps) = true) (h : (execOp a.eval o).run P w = .ok (.value v) w') (hS : later fs = true → S w')
    (k : wpLate P ops S Q fs (a.put d v) w') : wpLate P ops S Q ((1, i) :: fs) a w := by
  refine ⟨o, hi, hw, ?_⟩
  unfold Oper.wp
  rw [h]
  subst hd
  exact ⟨hS, k⟩
theorem l_store (w' : World) (hi : ops[i]? = some o) (hd : o.dst = none) (hw : Region.wanted o (yielded ops a.tmps) = true) (h : (execOp a.eval o).run P w = .ok .skip w') (hS : later fs = true → S w')
    (k : wpLate P ops S Q fs a w') : wpLate P ops S Q ((1, i) :: fs) a w := by
  refine ⟨o, hi, hw, ?_⟩
  unfold Oper.wp
  rw [h]
  simp only [Oper.upon, hd]
  exact ⟨hS, k⟩
/-- An operation that stands alone, by a law of its own. -/
theorem l_wp (hi : ops[i]? = some o) (hw : Region.wanted o (yielded ops a.tmps) = true) (h : o.wp P a w (fun a' w' => (later fs = true → S w') ∧ wpLate P ops S Q fs a' w') (fun _ _ _ => False)) : wpLate P ops S Q ((1, i) :: fs) a w :=
  ⟨o, hi, hw, h⟩
theorem l_done (h : Q a w) : wpLate P ops S Q [] a w := h
end
end Go.Proofs.YthidlckipiamkaaDoor
