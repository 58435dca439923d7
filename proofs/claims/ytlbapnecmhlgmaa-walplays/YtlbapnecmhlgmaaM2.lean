/- Statements that draw their order, walked in an order of one's own; the last operation, for which all others are waited, may leave the class of worlds that the others keep. Statements that draw their order, walked in an order of one's own; several operations at the end, for which all that only reads is waited, may leave the class of worlds that the others keep. A map from numbers to sectors that a call made: looked up, laid into, counted, emptied. A map that a call made: laid into, emptied, new. -/
import Derived.Test.YtlbapnecmhlgmaaM1
import Derived.MapKept
import Derived.Maps.RangeRun
namespace Go.Proofs.Ytlbapnecmhlgmaa
open Go.RowKit
section
variable {P : Program} {ops : Array Oper} {md : Region.Mode} {S : World → Prop}

/-- The walk in the order that is told: false: the operation only reads; true: it stands alone. Behind the last one nothing is asked of the world. -/
def wpPerm (P : Program) (ops : Array Oper) (S : World → Prop) (Q : Act → World → Prop) : List (Bool × Nat) → Act → World → Prop
  | [], a, w => Q a w
  | (true, i) :: fs, a, w => ∃ o, ops[i]? = some o ∧ Region.wanted o (yielded ops a.tmps) = true ∧ o.wp P a w (fun a' w' => (fs ≠ [] → S w') ∧ wpPerm P ops S Q fs a' w') (fun _ _ _ => False)
  | (false, i) :: fs, a, w => ∃ o, ops[i]? = some o ∧ ∃ v, YieldsIf P ops S o v a ∧ wpPerm P ops S Q fs (a.put o.dst v) w

def permB (md : Region.Mode) (ops : Array Oper) (n : Nat) : List (Bool × Nat) → Array Bool → Bool
  | [], listed => (Region.ready md ops listed).isEmpty
  | (true, k) :: fs, listed => decide (Region.ready md ops listed = [k]) && (decide (k = n) == fs.isEmpty) && permB md ops n fs (listed.setIfInBounds k true)
  | (false, k) :: fs, listed => (Region.ready md ops listed).contains k && Region.free md ops listed k && ((ops[n]?).any fun o => o.after.any fun e => Region.binds md e && decide (e.on = k)) && permB md ops n fs (listed.setIfInBounds k true)

/-- Whatever order is picked: the class of worlds holds behind each operation but n. -/
def wpAnyT (P : Program) (md : Region.Mode) (ops : Array Oper) (n : Nat) (Q : Act → World → Prop) (S : World → Prop) : Nat → Array Bool → Act → World → Prop
  | 0, listed, a, w => Region.ready md ops listed = [] ∧ Q a w
  | fuel + 1, listed, a, w => (Region.ready md ops listed = [] → Q a w) ∧
    ∀ i ∈ Region.ready md ops listed, wpOp P ops (fun _ _ _ => False) i (fun a' w' => (i ≠ n → S w') ∧ wpAnyT P md ops n Q S fuel (listed.setIfInBounds i true) a' w') a w

theorem wpAny_of_T {n : Nat} {Q : Exit → Act → World → Prop} : ∀ (fuel : Nat) (listed : Array Bool) (a : Act) (w : World), wpAnyT P md ops n (Q .normal) S fuel listed a w → wpAny P md ops Q fuel listed a w
  | 0, _, _, _, h => h
  | fuel + 1, _, _, _, h => ⟨h.1, fun i hi => wpOp_monoQ (fun _ _ _ h => h.elim) (wpOp_mono (fun a' w' h' => wpAny_of_T fuel _ a' w' h'.2) (h.2 i hi))⟩

theorem wpAnyT_first {n i : Nat} {oi on : Oper} {v : Value} {Q : Act → World → Prop} (hi : ops[i]? = some oi) (hn : ops[n]? = some on) (hwait : ∃ e ∈ on.after, Region.binds md e = true ∧ e.on = i) (hsel : ∀ (j : Nat) (o : Oper) cs b, ops[j]? = some o → o.op ≠ .select cs b) :
    ∀ (fuel : Nat) (listed : Array Bool) (a : Act) (w : World),
      (∀ j oj, ops[j]? = some oj → j ≠ i → listed.getD j true = false → (∀ e ∈ oj.after, Region.binds md e = true → e.on ≠ i) → oi.apart ops oj = true) →
      i ∈ Region.ready md ops listed → YieldsIf P ops S oi v a → S w →
      wpAnyT P md ops n Q S fuel (listed.setIfInBounds i true) (a.put oi.dst v) w → wpAnyT P md ops n Q S (fuel + 1) listed a w := by
  intro fuel
  induction fuel with
  | zero =>
    intro listed a w _ hr hy hS H
    refine ⟨fun h => absurd hr (by rw [h]; simp), fun j hj => ?_⟩
    by_cases e : j = i
    · subst e
      exact hy.wpOp hi hS ⟨fun _ => hS, H⟩
    · have h := ready_mono hj e
      rw [H.1] at h
      exact absurd h (by simp)
  | succ fuel ih =>
    intro listed a w hfree hr hy hS H
    refine ⟨fun h => absurd hr (by rw [h]; simp), fun j hj => ?_⟩
    by_cases e : j = i
    · subst e
      exact hy.wpOp hi hS ⟨fun _ => hS, H⟩
    obtain ⟨hju, oj, hoj, hbound⟩ := mem_ready.1 hj
    have hiu := (mem_ready.1 hr).1
    -- nothing that is ready waits for i, which has not come up
    have free : ∀ e ∈ oj.after, Region.binds md e = true → e.on ≠ i := fun e he hb hq => by
      have h := hbound e he hb
      rw [hq] at h
      rcases Nat.lt_or_ge i listed.size with hlt | hge
      · simp [hlt] at hiu h
        rw [hiu] at h
        cases h
      · simp [Array.getElem?_eq_none hge] at h
    have hjn : j ≠ n := fun hq => by
      subst hq
      obtain rfl : oj = on := Option.some.inj (hoj.symm.trans hn)
      obtain ⟨x, hx, hb, ho⟩ := hwait
      exact free x hx hb ho
    have step := wpOp_putIf hoj (hfree j oj hoj e hju free) (fun cs b => hsel i oi cs b hi) (fun cs b => hsel j oj cs b hoj) (Q := fun _ _ _ => False) (fun _ _ _ h => h) hy (H.2 j (ready_mono hj e))
    refine wpOp_mono (fun a' w' h => ?_) step
    have hS' := h.2.1 hjn
    refine ⟨fun _ => hS', ih (listed.setIfInBounds j true) a' w' (fun k ok hk hki hun hno => hfree k ok hk hki ?_ hno) (ready_mono hr (Ne.symm e)) h.1 hS' ?_⟩
    · by_cases hq : j = k
      · subst hq; exact hju
      · rwa [getD_set_ne true hq] at hun
    · rw [Array.setIfInBounds_comm _ _ e]
      exact h.2.2

theorem wpAnyT_perm {n : Nat} {Q : Act → World → Prop} (hs : Region.noSelect ops = true) : ∀ (fs : List (Bool × Nat)) (listed : Array Bool) (a : Act) (w : World),
    permB md ops n fs listed = true → S w → wpPerm P ops S Q fs a w → wpAnyT P md ops n Q S fs.length listed a w
  | [], listed, a, w, hB, _, h => ⟨by simpa [permB] using hB, h⟩
  | (true, k) :: fs, listed, a, w, hB, hS, h => by
    simp only [permB, Bool.and_eq_true, decide_eq_true_eq, beq_iff_eq] at hB
    obtain ⟨⟨hB1, hB2⟩, hB3⟩ := hB
    refine ⟨fun h0 => absurd (hB1.symm.trans h0) (by simp), fun i hi => ?_⟩
    rw [hB1] at hi
    have hik : i = k := by simpa using hi
    subst hik
    obtain ⟨o, h0, hw, hwp⟩ := h
    unfold wpOp
    simp only [h0, hw, if_true]
    refine .inl (Oper.wp_mono (fun a' w' h' => ?_) hwp)
    cases fs with
    | nil =>
      refine ⟨fun hne => ?_, ?_⟩
      · simp at hB2
        exact absurd hB2 hne
      · exact ⟨by simpa [permB] using hB3, h'.2⟩
    | cons f fs => exact ⟨fun _ => h'.1 (by simp), wpAnyT_perm hs (f :: fs) _ a' w' hB3 (h'.1 (by simp)) h'.2⟩
  | (false, k) :: fs, listed, a, w, hB, hS, h => by
    simp only [permB, Bool.and_eq_true] at hB
    obtain ⟨⟨⟨hB1, hB2⟩, hB3⟩, hB4⟩ := hB
    obtain ⟨o, h0, v, hy, h'⟩ := h
    cases hn : ops[n]? with
    | none => rw [hn] at hB3; simp at hB3
    | some on =>
      rw [hn] at hB3
      simp only [Option.any_some, Array.any_eq_true', Bool.and_eq_true, decide_eq_true_eq] at hB3
      exact wpAnyT_first h0 hn hB3 (Region.noSelect_spec hs) fs.length listed a w (Region.free_spec h0 hB2) (by simpa using hB1) hy hS (wpAnyT_perm hs fs _ _ w hB4 hS h')

theorem wp_region_perm {id : Nat} {Q : Exit → Act → World → Prop} {a : Act} {w : World} {l : List Oper} (fs : List (Bool × Nat)) (S : World → Prop) (hm : P.follows .mixedOrders = true)
    (hB : (Region.noSelect l.toArray && (decide (fs.length = l.length) && permB .any l.toArray (l.length - 1) fs (Array.replicate l.length false))) = true) (hS : S w.drew)
    (h : wpPerm P l.toArray S (Q .normal) fs a w.drew) : (Code.region id l.toArray true).wp P Q a w := by
  simp only [Bool.and_eq_true, decide_eq_true_eq] at hB
  refine wp_region_any hm ?_
  have h1 := wpAny_of_T (Q := Q) _ _ _ _ (wpAnyT_perm (md := .any) (Q := Q .normal) hB.1 fs _ a w.drew hB.2.2 hS h)
  rw [hB.2.1] at h1
  simpa using h1

variable {Q : Act → World → Prop} {a : Act} {w : World} {o : Oper} {i : Nat} {fs : List (Bool × Nat)}

theorem p_value (d : Option Tmp) (v : Value) (hi : ops[i]? = some o) (hd : o.dst = d) (hw : Region.wanted o (yielded ops a.tmps) = true) (h : ∀ w, S w → (execOp a.eval o).run P w = .ok (.value v) w) (k : wpPerm P ops S Q fs (a.put d v) w) : wpPerm P ops S Q ((false, i) :: fs) a w :=
  ⟨o, hi, v, .inl ⟨hw, h⟩, by rw [hd]; exact k⟩
theorem p_skip (d : Option Tmp) (hi : ops[i]? = some o) (hd : o.dst = d) (hw : Region.wanted o (yielded ops a.tmps) = false) (k : wpPerm P ops S Q fs (a.put d undef) w) : wpPerm P ops S Q ((false, i) :: fs) a w :=
  ⟨o, hi, undef, .inr ⟨hw, rfl⟩, by rw [hd]; exact k⟩
theorem p_move (d : Option Tmp) (x : Operand) (hi : ops[i]? = some o) (hd : o.dst = d) (ho : o.op = .move x) (hw : Region.wanted o (yielded ops a.tmps) = true) (k : wpPerm P ops S Q fs (a.put d (a.eval x)) w) : wpPerm P ops S Q ((false, i) :: fs) a w :=
  p_value d _ hi hd hw (fun w _ => by unfold execOp; simp only [ho]; rfl) k
theorem p_load_mid (dd : Option Tmp) (ty : TypeId) (x : Operand) (hi : ops[i]? = some o) (hd' : o.dst = dd) (ho : o.op = .load ty x) (hw : Region.wanted o (yielded ops a.tmps) = true) (b off : Nat) (hx : a.eval x = .pointer (some ⟨b, off, none⟩)) (cs : List Value) (d : TypeDesc)
    (hC : ∀ w, S w → w.rangeAt b off cs) (hu : P.underlying ty = some d) (hd : d.isRow = true) (hs : (P.info? ty).map (·.size) = some cs.length)
    (k : wpPerm P ops S Q fs (a.put dd (.agg cs.toArray)) w) : wpPerm P ops S Q ((false, i) :: fs) a w :=
  ⟨o, hi, _, yieldsIf_load_mid hw ty x ho b off hx cs d hC hu hd hs, by rw [hd']; exact k⟩
theorem p_call (d : Option Tmp) (hi : ops[i]? = some o) (hd : o.dst = d) (hw : Region.wanted o (yielded ops a.tmps) = true) (f : FuncId) (args : Array Value) (h : (execOp a.eval o).run P w = .ok (.enter f args) w)
    (hc : Calls P f args w fun e w' => ∃ v, e = .returned v ∧ (fs ≠ [] → S w') ∧ wpPerm P ops S Q fs (a.put d v) w') : wpPerm P ops S Q ((true, i) :: fs) a w := by
  refine ⟨o, hi, hw, ?_⟩
  unfold Oper.wp
  rw [h]
  simp only [Oper.upon]
  refine hc.mono ?_
  rintro e w' ⟨v, rfl, h1, h2⟩
  subst hd
  exact ⟨h1, h2⟩
theorem p_alone (d : Option Tmp) (v : Value) (w' : World) (hi : ops[i]? = some o) (hd : o.dst = d) (hw : Region.wanted o (yielded ops a.tmps) = true) (h : (execOp a.eval o).run P w = .ok (.value v) w') (hS : fs ≠ [] → S w')
    (k : wpPerm P ops S Q fs (a.put d v) w') : wpPerm P ops S Q ((true, i) :: fs) a w := by
  refine ⟨o, hi, hw, ?_⟩
  unfold Oper.wp
  rw [h]
  subst hd
  exact ⟨hS, k⟩
theorem p_store (w' : World) (hi : ops[i]? = some o) (hd : o.dst = none) (hw : Region.wanted o (yielded ops a.tmps) = true) (h : (execOp a.eval o).run P w = .ok .skip w') (hS : fs ≠ [] → S w')
    (k : wpPerm P ops S Q fs a w') : wpPerm P ops S Q ((true, i) :: fs) a w := by
  refine ⟨o, hi, hw, ?_⟩
  unfold Oper.wp
  rw [h]
  simp only [Oper.upon, hd]
  exact ⟨hS, k⟩
/-- An operation that stands alone, by a law of its own. -/
theorem p_wp (hi : ops[i]? = some o) (hw : Region.wanted o (yielded ops a.tmps) = true) (h : o.wp P a w (fun a' w' => (fs ≠ [] → S w') ∧ wpPerm P ops S Q fs a' w') (fun _ _ _ => False)) : wpPerm P ops S Q ((true, i) :: fs) a w :=
  ⟨o, hi, hw, h⟩
theorem p_done (h : Q a w) : wpPerm P ops S Q [] a w := h
end
end Go.Proofs.Ytlbapnecmhlgmaa
namespace Go.Proofs.Ytlbapnecmhlgmaa
open Go.RowKit
section
variable {P : Program} {ops : Array Oper} {md : Region.Mode} {S : World → Prop}

def later (fs : List (Nat × Nat)) : Bool := fs.any fun x => x.1 == 0
/-- The walk in the order that is told: 0: the operation only reads, in the class of worlds; 1: it stands alone; 2: it looks at no world. Where nothing that reads is left nothing is asked of the world. -/
def wpLate (P : Program) (ops : Array Oper) (S : World → Prop) (Q : Act → World → Prop) : List (Nat × Nat) → Act → World → Prop
  | [], a, w => Q a w
  | (0, i) :: fs, a, w => ∃ o, ops[i]? = some o ∧ ∃ v, YieldsIf P ops S o v a ∧ wpLate P ops S Q fs (a.put o.dst v) w
  | (1, i) :: fs, a, w => ∃ o, ops[i]? = some o ∧ Region.wanted o (yielded ops a.tmps) = true ∧ o.wp P a w (fun a' w' => (later fs = true → S w') ∧ wpLate P ops S Q fs a' w') (fun _ _ _ => False)
  | (_ + 2, i) :: fs, a, w => ∃ o, ops[i]? = some o ∧ ∃ v, YieldsIf P ops (fun _ => True) o v a ∧ wpLate P ops S Q fs (a.put o.dst v) w

def lateB (md : Region.Mode) (ops : Array Oper) (ns : List Nat) : List (Nat × Nat) → Array Bool → Bool
  | [], listed => (Region.ready md ops listed).isEmpty
  | (0, k) :: fs, listed => (Region.ready md ops listed).contains k && Region.free md ops listed k && (ns.all fun n => (ops[n]?).any fun o => o.after.any fun e => Region.binds md e && decide (e.on = k)) && lateB md ops ns fs (listed.setIfInBounds k true)
  | (1, k) :: fs, listed => decide (Region.ready md ops listed = [k]) && (ns.contains k == !later fs) && lateB md ops ns fs (listed.setIfInBounds k true)
  | (_ + 2, k) :: fs, listed => (Region.ready md ops listed).contains k && Region.free md ops listed k && lateB md ops ns fs (listed.setIfInBounds k true)

/-- Whatever order is picked: the class of worlds lasts behind each operation but those of ns. -/
def wpAnyL (P : Program) (md : Region.Mode) (ops : Array Oper) (ns : List Nat) (Q : Act → World → Prop) (S : World → Prop) : Nat → Array Bool → Act → World → Prop
  | 0, listed, a, w => Region.ready md ops listed = [] ∧ Q a w
  | fuel + 1, listed, a, w => (Region.ready md ops listed = [] → Q a w) ∧
    ∀ i ∈ Region.ready md ops listed, wpOp P ops (fun _ _ _ => False) i (fun a' w' => (S w → i ∉ ns → S w') ∧ wpAnyL P md ops ns Q S fuel (listed.setIfInBounds i true) a' w') a w

theorem wpAny_of_L {ns : List Nat} {Q : Exit → Act → World → Prop} : ∀ (fuel : Nat) (listed : Array Bool) (a : Act) (w : World), wpAnyL P md ops ns (Q .normal) S fuel listed a w → wpAny P md ops Q fuel listed a w
  | 0, _, _, _, h => h
  | fuel + 1, _, _, _, h => ⟨h.1, fun i hi => wpOp_monoQ (fun _ _ _ h => h.elim) (wpOp_mono (fun a' w' h' => wpAny_of_L fuel _ a' w' h'.2) (h.2 i hi))⟩

theorem wpAnyL_first {ns : List Nat} {i : Nat} {oi : Oper} {v : Value} {Q : Act → World → Prop} (hi : ops[i]? = some oi) (hwait : ∀ n ∈ ns, ∃ on, ops[n]? = some on ∧ ∃ e ∈ on.after, Region.binds md e = true ∧ e.on = i) (hsel : ∀ (j : Nat) (o : Oper) cs b, ops[j]? = some o → o.op ≠ .select cs b) :
    ∀ (fuel : Nat) (listed : Array Bool) (a : Act) (w : World),
      (∀ j oj, ops[j]? = some oj → j ≠ i → listed.getD j true = false → (∀ e ∈ oj.after, Region.binds md e = true → e.on ≠ i) → oi.apart ops oj = true) →
      i ∈ Region.ready md ops listed → YieldsIf P ops S oi v a → S w →
      wpAnyL P md ops ns Q S fuel (listed.setIfInBounds i true) (a.put oi.dst v) w → wpAnyL P md ops ns Q S (fuel + 1) listed a w := by
  intro fuel
  induction fuel with
  | zero =>
    intro listed a w _ hr hy hS H
    refine ⟨fun h => absurd hr (by rw [h]; simp), fun j hj => ?_⟩
    by_cases e : j = i
    · subst e
      exact hy.wpOp hi hS ⟨fun _ _ => hS, H⟩
    · have h := ready_mono hj e
      rw [H.1] at h
      exact absurd h (by simp)
  | succ fuel ih =>
    intro listed a w hfree hr hy hS H
    refine ⟨fun h => absurd hr (by rw [h]; simp), fun j hj => ?_⟩
    by_cases e : j = i
    · subst e
      exact hy.wpOp hi hS ⟨fun _ _ => hS, H⟩
    obtain ⟨hju, oj, hoj, hbound⟩ := mem_ready.1 hj
    have hiu := (mem_ready.1 hr).1
    -- nothing that is ready waits for i, which has not come up
    have free : ∀ e ∈ oj.after, Region.binds md e = true → e.on ≠ i := fun e he hb hq => by
      have h := hbound e he hb
      rw [hq] at h
      rcases Nat.lt_or_ge i listed.size with hlt | hge
      · simp [hlt] at hiu h
        rw [hiu] at h
        cases h
      · simp [Array.getElem?_eq_none hge] at h
    have hjn : j ∉ ns := fun hq => by
      obtain ⟨on, hn, x, hx, hb, ho⟩ := hwait j hq
      obtain rfl : oj = on := Option.some.inj (hoj.symm.trans hn)
      exact free x hx hb ho
    have step := wpOp_putIf hoj (hfree j oj hoj e hju free) (fun cs b => hsel i oi cs b hi) (fun cs b => hsel j oj cs b hoj) (Q := fun _ _ _ => False) (fun _ _ _ h => h) hy (H.2 j (ready_mono hj e))
    refine wpOp_mono (fun a' w' h => ?_) step
    have hS' := h.2.1 hS hjn
    refine ⟨fun _ _ => hS', ih (listed.setIfInBounds j true) a' w' (fun k ok hk hki hun hno => hfree k ok hk hki ?_ hno) (ready_mono hr (Ne.symm e)) h.1 hS' ?_⟩
    · by_cases hq : j = k
      · subst hq; exact hju
      · rwa [getD_set_ne true hq] at hun
    · rw [Array.setIfInBounds_comm _ _ e]
      exact h.2.2

theorem wpAnyL_free {ns : List Nat} {i : Nat} {oi : Oper} {v : Value} {Q : Act → World → Prop} (hi : ops[i]? = some oi) (hsel : ∀ (j : Nat) (o : Oper) cs b, ops[j]? = some o → o.op ≠ .select cs b) :
    ∀ (fuel : Nat) (listed : Array Bool) (a : Act) (w : World),
      (∀ j oj, ops[j]? = some oj → j ≠ i → listed.getD j true = false → (∀ e ∈ oj.after, Region.binds md e = true → e.on ≠ i) → oi.apart ops oj = true) →
      i ∈ Region.ready md ops listed → YieldsIf P ops (fun _ => True) oi v a →
      wpAnyL P md ops ns Q S fuel (listed.setIfInBounds i true) (a.put oi.dst v) w → wpAnyL P md ops ns Q S (fuel + 1) listed a w := by
  intro fuel
  induction fuel with
  | zero =>
    intro listed a w _ hr hy H
    refine ⟨fun h => absurd hr (by rw [h]; simp), fun j hj => ?_⟩
    by_cases e : j = i
    · subst e
      exact hy.wpOp hi trivial ⟨fun h _ => h, H⟩
    · have h := ready_mono hj e
      rw [H.1] at h
      exact absurd h (by simp)
  | succ fuel ih =>
    intro listed a w hfree hr hy H
    refine ⟨fun h => absurd hr (by rw [h]; simp), fun j hj => ?_⟩
    by_cases e : j = i
    · subst e
      exact hy.wpOp hi trivial ⟨fun h _ => h, H⟩
    obtain ⟨hju, oj, hoj, hbound⟩ := mem_ready.1 hj
    have hiu := (mem_ready.1 hr).1
    -- nothing that is ready waits for i, which has not come up
    have free : ∀ e ∈ oj.after, Region.binds md e = true → e.on ≠ i := fun e he hb hq => by
      have h := hbound e he hb
      rw [hq] at h
      rcases Nat.lt_or_ge i listed.size with hlt | hge
      · simp [hlt] at hiu h
        rw [hiu] at h
        cases h
      · simp [Array.getElem?_eq_none hge] at h
    have step := wpOp_putIf hoj (hfree j oj hoj e hju free) (fun cs b => hsel i oi cs b hi) (fun cs b => hsel j oj cs b hoj) (Q := fun _ _ _ => False) (fun _ _ _ h => h) hy (H.2 j (ready_mono hj e))
    refine wpOp_mono (fun a' w' h => ?_) step
    refine ⟨h.2.1, ih (listed.setIfInBounds j true) a' w' (fun k ok hk hki hun hno => hfree k ok hk hki ?_ hno) (ready_mono hr (Ne.symm e)) h.1 ?_⟩
    · by_cases hq : j = k
      · subst hq; exact hju
      · rwa [getD_set_ne true hq] at hun
    · rw [Array.setIfInBounds_comm _ _ e]
      exact h.2.2

theorem wpAnyL_late {ns : List Nat} {Q : Act → World → Prop} (hs : Region.noSelect ops = true) : ∀ (fs : List (Nat × Nat)) (listed : Array Bool) (a : Act) (w : World),
    lateB md ops ns fs listed = true → (later fs = true → S w) → wpLate P ops S Q fs a w → wpAnyL P md ops ns Q S fs.length listed a w
  | [], listed, a, w, hB, _, h => ⟨by simpa [lateB] using hB, h⟩
  | (1, k) :: fs, listed, a, w, hB, hS, h => by
    simp only [lateB, Bool.and_eq_true, decide_eq_true_eq, beq_iff_eq] at hB
    obtain ⟨⟨hB1, hB2⟩, hB3⟩ := hB
    refine ⟨fun h0 => absurd (hB1.symm.trans h0) (by simp), fun i hi => ?_⟩
    rw [hB1] at hi
    have hik : i = k := by simpa using hi
    subst hik
    obtain ⟨o, h0, hw, hwp⟩ := h
    unfold wpOp
    simp only [h0, hw, if_true]
    refine .inl (Oper.wp_mono (fun a' w' h' => ?_) hwp)
    refine ⟨fun _ hne => h'.1 ?_, wpAnyL_late hs fs _ a' w' hB3 h'.1 h'.2⟩
    cases hl : later fs with
    | true => rfl
    | false =>
      rw [hl] at hB2
      exact absurd (List.contains_iff_mem.1 (by simpa using hB2)) hne
  | (0, k) :: fs, listed, a, w, hB, hS, h => by
    simp only [lateB, Bool.and_eq_true] at hB
    obtain ⟨⟨⟨hB1, hB2⟩, hB3⟩, hB4⟩ := hB
    obtain ⟨o, h0, v, hy, h'⟩ := h
    have hSw : S w := hS (by simp [later])
    refine wpAnyL_first h0 (fun n hn => ?_) (Region.noSelect_spec hs) fs.length listed a w (Region.free_spec h0 hB2) (by simpa using hB1) hy hSw (wpAnyL_late hs fs _ _ w hB4 (fun _ => hSw) h')
    have hx := List.all_eq_true.1 hB3 n hn
    cases hon : ops[n]? with
    | none => rw [hon] at hx; simp at hx
    | some on =>
      rw [hon] at hx
      simp only [Option.any_some, Array.any_eq_true', Bool.and_eq_true, decide_eq_true_eq] at hx
      exact ⟨on, rfl, hx⟩
  | (n + 2, k) :: fs, listed, a, w, hB, hS, h => by
    simp only [lateB, Bool.and_eq_true] at hB
    obtain ⟨⟨hB1, hB2⟩, hB4⟩ := hB
    obtain ⟨o, h0, v, hy, h'⟩ := h
    exact wpAnyL_free h0 (Region.noSelect_spec hs) fs.length listed a w (Region.free_spec h0 hB2) (by simpa using hB1) hy (wpAnyL_late hs fs _ _ w hB4 (fun hl => hS (by simp [later] at hl ⊢; exact hl)) h')

theorem wp_region_late {id : Nat} {Q : Exit → Act → World → Prop} {a : Act} {w : World} {l : List Oper} (ns : List Nat) (fs : List (Nat × Nat)) (S : World → Prop) (hm : P.follows .mixedOrders = true)
    (hB : (Region.noSelect l.toArray && (decide (fs.length = l.length) && lateB .any l.toArray ns fs (Array.replicate l.length false))) = true) (hS : S w.drew)
    (h : wpLate P l.toArray S (Q .normal) fs a w.drew) : (Code.region id l.toArray true).wp P Q a w := by
  simp only [Bool.and_eq_true, decide_eq_true_eq] at hB
  refine wp_region_any hm ?_
  have h1 := wpAny_of_L (Q := Q) _ _ _ _ (wpAnyL_late (md := .any) (Q := Q .normal) hB.1 fs _ a w.drew hB.2.2 (fun _ => hS) h)
  rw [hB.2.1] at h1
  simpa using h1

variable {Q : Act → World → Prop} {a : Act} {w : World} {o : Oper} {i : Nat} {fs : List (Nat × Nat)}

theorem l_value (d : Option Tmp) (v : Value) (hi : ops[i]? = some o) (hd : o.dst = d) (hw : Region.wanted o (yielded ops a.tmps) = true) (h : ∀ w, S w → (execOp a.eval o).run P w = .ok (.value v) w) (k : wpLate P ops S Q fs (a.put d v) w) : wpLate P ops S Q ((0, i) :: fs) a w :=
  ⟨o, hi, v, .inl ⟨hw, h⟩, by rw [hd]; exact k⟩
theorem f_value (d : Option Tmp) (v : Value) (hi : ops[i]? = some o) (hd : o.dst = d) (hw : Region.wanted o (yielded ops a.tmps) = true) (h : ∀ w : World, True → (execOp a.eval o).run P w = .ok (.value v) w) (k : wpLate P ops S Q fs (a.put d v) w) : wpLate P ops S Q ((2, i) :: fs) a w :=
  ⟨o, hi, v, .inl ⟨hw, h⟩, by rw [hd]; exact k⟩
theorem f_move (d : Option Tmp) (x : Operand) (hi : ops[i]? = some o) (hd : o.dst = d) (ho : o.op = .move x) (hw : Region.wanted o (yielded ops a.tmps) = true) (k : wpLate P ops S Q fs (a.put d (a.eval x)) w) : wpLate P ops S Q ((2, i) :: fs) a w :=
  f_value d _ hi hd hw (fun w _ => by unfold execOp; simp only [ho]; rfl) k
theorem l_skip (d : Option Tmp) (hi : ops[i]? = some o) (hd : o.dst = d) (hw : Region.wanted o (yielded ops a.tmps) = false) (k : wpLate P ops S Q fs (a.put d undef) w) : wpLate P ops S Q ((0, i) :: fs) a w :=
  ⟨o, hi, undef, .inr ⟨hw, rfl⟩, by rw [hd]; exact k⟩
theorem l_move (d : Option Tmp) (x : Operand) (hi : ops[i]? = some o) (hd : o.dst = d) (ho : o.op = .move x) (hw : Region.wanted o (yielded ops a.tmps) = true) (k : wpLate P ops S Q fs (a.put d (a.eval x)) w) : wpLate P ops S Q ((0, i) :: fs) a w :=
  l_value d _ hi hd hw (fun w _ => by unfold execOp; simp only [ho]; rfl) k
theorem l_load_mid (dd : Option Tmp) (ty : TypeId) (x : Operand) (hi : ops[i]? = some o) (hd' : o.dst = dd) (ho : o.op = .load ty x) (hw : Region.wanted o (yielded ops a.tmps) = true) (b off : Nat) (hx : a.eval x = .pointer (some ⟨b, off, none⟩)) (cs : List Value) (d : TypeDesc)
    (hC : ∀ w, S w → w.rangeAt b off cs) (hu : P.underlying ty = some d) (hd : d.isRow = true) (hs : (P.info? ty).map (·.size) = some cs.length)
    (k : wpLate P ops S Q fs (a.put dd (.agg cs.toArray)) w) : wpLate P ops S Q ((0, i) :: fs) a w :=
  ⟨o, hi, _, yieldsIf_load_mid hw ty x ho b off hx cs d hC hu hd hs, by rw [hd']; exact k⟩
theorem l_call (d : Option Tmp) (hi : ops[i]? = some o) (hd : o.dst = d) (hw : Region.wanted o (yielded ops a.tmps) = true) (f : FuncId) (args : Array Value) (h : (execOp a.eval o).run P w = .ok (.enter f args) w)
    (hc : Calls P f args w fun e w' => ∃ v, e = .returned v ∧ (later fs = true → S w') ∧ wpLate P ops S Q fs (a.put d v) w') : wpLate P ops S Q ((1, i) :: fs) a w := by
  refine ⟨o, hi, hw, ?_⟩
  unfold Oper.wp
  rw [h]
  simp only [Oper.upon]
  refine hc.mono ?_
  rintro e w' ⟨v, rfl, h1, h2⟩
  subst hd
  exact ⟨h1, h2⟩
theorem l_alone (d : Option Tmp) (v : Value) (w' : World) (hi : ops[i]? = some o) (hd : o.dst = d) (hw : Region.wanted o (yielded ops a.tmps) = true) (h : (execOp a.eval o).run P w = .ok (.value v) w') (hS : later fs = true → S w')
    (k : wpLate P ops S Q fs (a.put d v) w') : wpLate P ops S Q ((1, i) :: fs) a w := by
  refine ⟨o, hi, hw, ?_⟩
  unfold Oper.wp
  rw [h]
  subst hd
  exact ⟨hS, k⟩
theorem l_store (w' : World) (hi : ops[i]? = some o) (hd : o.dst = none) (hw : Region.wanted o (yielded ops a.tmps) = true) (h : (execOp a.eval o).run P w = .ok .skip w') (hS : later fs = true → S w')
    (k : wpLate P ops S Q fs a w') : wpLate P ops S Q ((1, i) :: fs) a w := by
  refine ⟨o, hi, hw, ?_⟩
  unfold Oper.wp
  rw [h]
  simp only [Oper.upon, hd]
  exact ⟨hS, k⟩
/-- An operation that stands alone, by a law of its own. -/
theorem l_wp (hi : ops[i]? = some o) (hw : Region.wanted o (yielded ops a.tmps) = true) (h : o.wp P a w (fun a' w' => (later fs = true → S w') ∧ wpLate P ops S Q fs a' w') (fun _ _ _ => False)) : wpLate P ops S Q ((1, i) :: fs) a w :=
  ⟨o, hi, hw, h⟩
theorem l_done (h : Q a w) : wpLate P ops S Q [] a w := h
end
end Go.Proofs.Ytlbapnecmhlgmaa
namespace Go.Proofs.Ytlbapnecmhlgmaa
open Go.RowKit
open Go.ChangeMaps (setBlock)

/-- What is put: a sector's number and its bytes. -/
structure Pt where
  k : Nat
  f : Nat → Int
def entV (f : Nat → Int) : Value := .agg (byts f 256).toArray

/-- Block gm is a map with these entries, in the order of their coming. -/
structure MapAt (w : World) (gm : Nat) (L : List Pt) : Prop where
  ex : ∃ es clock, w.heap[gm]? = some (.map es clock) ∧ es.toList.map (fun e => (e.key, e.val)) = L.map (fun p => (Value.int .i64 p.k, entV p.f)) ∧ (∀ x ∈ es.toList, x.born < clock) ∧ (es.toList.map (·.born)).Nodup
  nodup : (L.map Pt.k).Nodup
theorem MapAt.lt {w : World} {gm : Nat} {L : List Pt} (h : MapAt w gm L) : gm < w.heap.size := by
  obtain ⟨es, clock, h1, _⟩ := h.ex
  exact (Array.getElem?_eq_some_iff.1 h1).1
theorem MapAt.keep {w w' : World} {gm : Nat} {L : List Pt} (h : MapAt w gm L) (hb : w'.heap[gm]? = w.heap[gm]?) : MapAt w' gm L := by
  obtain ⟨es, clock, h1, h2⟩ := h.ex
  exact ⟨⟨es, clock, hb.trans h1, h2⟩, h.nodup⟩
theorem MapAt.below {w w' : World} {gm : Nat} {L : List Pt} (h : MapAt w gm L) (hb : Below w.heap.size w w') : MapAt w' gm L := h.keep (hb.block gm h.lt)
theorem MapAt.row_ne {w : World} {gm : Nat} {L : List Pt} (h : MapAt w gm L) {k : Nat} {C : Array Value} {t : TypeId} (hr : Row w k C t) : gm ≠ k := fun e => by
  subst e
  obtain ⟨es, clock, h1, _⟩ := h.ex
  have := h1.symm.trans hr
  cases this

/-- What is put at k. -/
def lookL (L : List Pt) (k : Nat) : Option (Nat → Int) := (L.find? (fun p => p.k == k)).map Pt.f
theorem lookL_some {L : List Pt} (hn : (L.map Pt.k).Nodup) {j : Nat} {p : Pt} (h : L[j]? = some p) : lookL L p.k = some p.f := by
  induction L generalizing j with
  | nil => simp at h
  | cons x L ih =>
    have hn' := List.nodup_cons.1 hn
    unfold lookL
    cases j with
    | zero => simp at h; subst h; simp
    | succ j =>
      have hm : p ∈ L := List.mem_of_getElem? (by simpa using h)
      have hne : (x.k == p.k) = false := by
        cases hc : x.k == p.k with
        | false => rfl
        | true => exact absurd (by rw [beq_iff_eq.1 hc]; exact List.mem_map.2 ⟨p, hm, rfl⟩) hn'.1
      rw [List.find?_cons, hne]
      exact ih hn'.2 (by simpa using h)
theorem lookL_none {L : List Pt} {k : Nat} (h : ∀ p ∈ L, p.k ≠ k) : lookL L k = none := by
  unfold lookL
  rw [List.find?_eq_none.2 (fun p hp => by simpa using h p hp)]
  rfl
theorem lookL_append {L : List Pt} {k : Nat} (f : Nat → Int) (h : ∀ p ∈ L, p.k ≠ k) (x : Nat) : lookL (L ++ [⟨k, f⟩]) x = if x = k then some f else lookL L x := by
  unfold lookL
  rw [List.find?_append]
  by_cases hx : x = k
  · subst hx
    rw [List.find?_eq_none.2 (fun p hp => by simpa using h p hp)]
    simp
  · rw [if_neg hx]
    have : List.find? (fun p => p.k == x) [(⟨k, f⟩ : Pt)] = none := by simp [Ne.symm hx]
    rw [this]
    simp
theorem lookL_set {L : List Pt} (hn : (L.map Pt.k).Nodup) {j : Nat} {p : Pt} (h : L[j]? = some p) (f : Nat → Int) (x : Nat) : lookL (L.set j ⟨p.k, f⟩) x = if x = p.k then some f else lookL L x := by
  induction L generalizing j with
  | nil => simp at h
  | cons y L ih =>
    have hn' := List.nodup_cons.1 hn
    cases j with
    | zero =>
      simp at h
      subst h
      unfold lookL
      by_cases hx : x = y.k
      · subst hx; simp
      · have : (y.k == x) = false := by simpa using Ne.symm hx
        simp [this, hx]
    | succ j =>
      have hm : p ∈ L := List.mem_of_getElem? (by simpa using h)
      have hyp : y.k ≠ p.k := fun e => hn'.1 (by rw [e]; exact List.mem_map.2 ⟨p, hm, rfl⟩)
      have ih' := ih hn'.2 (j := j) (by simpa using h)
      unfold lookL at ih' ⊢
      simp only [List.set_cons_succ, List.find?_cons]
      by_cases hy : (y.k == x) = true
      · have e := beq_iff_eq.1 hy
        rw [hy]
        simp only [Option.map_some]
        rw [if_neg (by omega)]
      · have hy' : (y.k == x) = false := by simpa using hy
        rw [hy']
        exact ih'
theorem lookL_mem {L : List Pt} {k : Nat} : (lookL L k).isSome ↔ k ∈ L.map Pt.k := by
  unfold lookL
  rw [Option.isSome_map, List.find?_isSome]
  simp only [List.mem_map, beq_iff_eq]

theorem findNow_at (n : Int) : ∀ (es : List MapEntry) (L : List Pt) (i : Nat), es.map (fun e => (e.key, e.val)) = L.map (fun p => (Value.int .i64 p.k, entV p.f)) →
    (∃ (j : Nat) (p : Pt), L[j]? = some p ∧ (p.k : Int) = n ∧ Instr.findNow (.int .i64) (.int .i64 n) es i = some (some (i + j, entV p.f))) ∨ ((∀ p ∈ L, (p.k : Int) ≠ n) ∧ Instr.findNow (.int .i64) (.int .i64 n) es i = some none)
  | [], [], _, _ => .inr ⟨(fun _ h => nomatch h), rfl⟩
  | [], _ :: _, _, h => by simp at h
  | _ :: _, [], _, h => by simp at h
  | e :: es, p :: L, i, h => by
    simp only [List.map_cons, List.cons.injEq, Prod.mk.injEq] at h
    obtain ⟨⟨h1, h2⟩, h3⟩ := h
    unfold Instr.findNow
    rw [h1]
    simp only [Instr.sameNow, if_true]
    by_cases hk : n = (p.k : Int)
    · left
      refine ⟨0, p, rfl, hk.symm, ?_⟩
      have : (n == (p.k : Int)) = true := by simpa using hk
      rw [this]
      simp [h2]
    · have : (n == (p.k : Int)) = false := by simpa using hk
      rw [this]
      simp only
      rcases findNow_at n es L (i + 1) h3 with ⟨j, q, a, b, c⟩ | ⟨a, c⟩
      · exact .inl ⟨j + 1, q, by simpa using a, b, by rw [c]; simp; omega⟩
      · exact .inr ⟨fun q hq => by
          rcases List.mem_cons.1 hq with rfl | hq
          · exact fun e => hk e.symm
          · exact a q hq, c⟩
theorem run_check (e : Bool) (n : Int) (w : World) : (Instr.checkKey e 10000 3 (.int .i64 n)).run Try.prog w = .ok () w :=
  MapKept.run_checkKey Try.underlying3 (show MapKept.IsKey (.int .i64) (.int .i64 n) by simp [MapKept.IsKey]) e 9999
theorem zc83 : Try.zeroCells83 = (byts (fun _ => 0) 256).toArray := by kernel_rfl
section
variable {w : World} {gm : Nat} {L : List Pt}
theorem MapAt.lookup (h : MapAt w gm L) (n : Int) (c : Bool) :
    (∃ (j : Nat) (p : Pt), L[j]? = some p ∧ (p.k : Int) = n ∧ (Instr.lookup 54 (.map (some gm)) (.int .i64 n) c).run Try.prog w = .ok (if c then .tuple #[entV p.f, .bool true] else entV p.f) w) ∨
    ((∀ p ∈ L, (p.k : Int) ≠ n) ∧ (Instr.lookup 54 (.map (some gm)) (.int .i64 n) c).run Try.prog w = .ok (if c then .tuple #[entV fun _ => 0, .bool false] else entV fun _ => 0) w) := by
  obtain ⟨es, clock, hb, he, _⟩ := h.ex
  rcases findNow_at n es.toList L 0 he with ⟨j, p, h1, h2, h3⟩ | ⟨h1, h3⟩
  · exact .inl ⟨j, p, h1, h2, by simp [Instr.lookup, run_underlying Try.underlying54, MapKept.run_getObj_map hb, run_check, Instr.findKey, run_underlying Try.underlying3, h3]⟩
  · exact .inr ⟨h1, by simp [Instr.lookup, run_underlying Try.underlying54, MapKept.run_getObj_map hb, run_check, Instr.findKey, run_underlying Try.underlying3, h3]; rw [zc83]; rfl⟩
theorem MapAt.len (h : MapAt w gm L) (ty : TypeId) : (Builtin.len_ #[54] ty #[.map (some gm)]).run Try.prog w = .ok (.int .i64 L.length) w := by
  obtain ⟨es, clock, hb, he, _⟩ := h.ex
  have hl : es.size = L.length := by
    have := congrArg List.length he
    simpa using this
  simp [Builtin.len_, run_underlying Try.underlying54, MapKept.run_getObj_map hb, hl]
  rfl
end
end Go.Proofs.Ytlbapnecmhlgmaa
namespace Go.Proofs.Ytlbapnecmhlgmaa
open Go.RowKit

/-- Of the blocks only g has changed, and none was made. -/
structure One (g : Nat) (w w' : World) : Prop where
  os : w'.os = w.os
  tape : w'.tape = w.tape
  output : w'.output = w.output
  size : w'.heap.size = w.heap.size
  block : ∀ k, k ≠ g → w'.heap[k]? = w.heap[k]?
theorem One.set (w : World) (g : Nat) (o : Obj) : One g w { w with heap := w.heap.setIfInBounds g o } :=
  ⟨rfl, rfl, rfl, by simp, fun k hk => Array.getElem?_setIfInBounds_ne (Ne.symm hk)⟩
theorem One.below {g B : Nat} {w w' : World} (h : One g w w') (hB : B ≤ g) : Below B w w' :=
  ⟨h.os, h.tape, h.output, by rw [h.size]; exact Nat.le_refl _, fun k hk => h.block k (by omega)⟩

theorem MapAt.update {w : World} {gm : Nat} {L : List Pt} (h : MapAt w gm L) (k : Nat) (f : Nat → Int) :
    ∃ w' L', (Instr.mapUpdate 54 (.map (some gm)) (.int .i64 k) (entV f)).run Try.prog w = .ok () w' ∧ MapAt w' gm L' ∧ One gm w w' ∧ (∀ x, lookL L' x = if x = k then some f else lookL L x) ∧ (L'.length = if (lookL L k).isSome then L.length else L.length + 1) := by
  have hlt := h.lt
  have hnd := h.nodup
  obtain ⟨es, clock, hb, he, h3, h4⟩ := h.ex
  rcases findNow_at (k : Int) es.toList L 0 he with ⟨j, p, h1, h2, hf⟩ | ⟨h1, hf⟩
  · obtain rfl : p.k = k := by omega
    have hj : j < es.toList.length := by
      have := congrArg List.length he
      simp only [List.length_map] at this
      rw [this]
      exact (List.getElem?_eq_some_iff.1 h1).1
    have hej : ∃ e, es[j]? = some e ∧ e.key = .int .i64 p.k := by
      refine ⟨es.toList[j], by rw [← Array.getElem?_toList, List.getElem?_eq_getElem hj], ?_⟩
      have := congrArg (·[j]?) he
      simp only [List.getElem?_map, h1, List.getElem?_eq_getElem hj, Option.map_some, Option.some.injEq, Prod.mk.injEq] at this
      exact this.1
    obtain ⟨e, hej, hek⟩ := hej
    refine ⟨{ w with heap := w.heap.setIfInBounds gm (.map (es.modify j fun e => { e with key := .int .i64 p.k, val := entV f }) clock) }, L.set j ⟨p.k, f⟩, ?_, ⟨⟨es.modify j fun e => { e with key := .int .i64 p.k, val := entV f }, clock, ?_, ?_, ?_, ?_⟩, ?_⟩, One.set _ _ _, lookL_set hnd h1 f, ?_⟩
    · simp [Instr.mapUpdate, run_underlying Try.underlying54, MapKept.run_getObj_map hb, run_check, Instr.findKey, run_underlying Try.underlying3, hf, hej, hek, MapKept.run_keyThatStays (show MapKept.IsKey (.int .i64) (.int .i64 (p.k : Int)) by simp [MapKept.IsKey]), MapKept.run_setObj_map _ hb]
    · simp [Array.getElem?_setIfInBounds_self_of_lt hlt]
    · rw [Array.toList_modify]
      apply List.ext_getElem?
      intro i
      have hi := congrArg (·[i]?) he
      simp only [List.getElem?_map] at hi
      rw [List.getElem?_map, List.getElem?_map, List.getElem?_modify, List.getElem?_set]
      by_cases hij : j = i
      · subst hij
        rw [if_pos rfl, if_pos (List.getElem?_eq_some_iff.1 h1).1, List.getElem?_eq_getElem hj]
        simp
      · rw [if_neg hij, ← hi]
        cases es.toList[i]? <;> simp [hij]
    · intro x hx
      rw [Array.toList_modify] at hx
      obtain ⟨i, hi⟩ := List.getElem?_of_mem hx
      rw [List.getElem?_modify] at hi
      cases hei : es.toList[i]? with
      | none => rw [hei] at hi; simp at hi
      | some y =>
        rw [hei] at hi
        have := h3 y (List.mem_of_getElem? hei)
        by_cases hij : j = i
        · simp [hij] at hi; subst hi; exact this
        · simp [hij] at hi; subst hi; exact this
    · have : (es.modify j fun e => { e with key := Value.int .i64 p.k, val := entV f }).toList.map (·.born) = es.toList.map (·.born) := by
        rw [Array.toList_modify]
        apply List.ext_getElem?
        intro i
        rw [List.getElem?_map, List.getElem?_map, List.getElem?_modify]
        cases es.toList[i]? with
        | none => rfl
        | some y => by_cases hij : j = i <;> simp [hij]
      rw [this]
      exact h4
    · have : (L.set j ⟨p.k, f⟩).map Pt.k = L.map Pt.k := by
        apply List.ext_getElem?
        intro i
        rw [List.getElem?_map, List.getElem?_map, List.getElem?_set]
        by_cases hij : j = i
        · subst hij
          rw [if_pos rfl, if_pos (List.getElem?_eq_some_iff.1 h1).1, h1]
          rfl
        · rw [if_neg hij]
      rw [this]
      exact hnd
    · rw [lookL_some hnd h1]; simp
  · have h1' : ∀ p ∈ L, p.k ≠ k := fun p hp e => h1 p hp (by rw [e])
    refine ⟨{ w with heap := w.heap.setIfInBounds gm (.map (es.push { key := .int .i64 k, val := entV f, born := clock }) (clock + 1)) }, L ++ [⟨k, f⟩], ?_, ⟨⟨es.push { key := .int .i64 k, val := entV f, born := clock }, clock + 1, ?_, ?_, ?_, ?_⟩, ?_⟩, One.set _ _ _, lookL_append f h1', ?_⟩
    · simp [Instr.mapUpdate, run_underlying Try.underlying54, MapKept.run_getObj_map hb, run_check, Instr.findKey, run_underlying Try.underlying3, hf, MapKept.run_setObj_map _ hb]
    · simp [Array.getElem?_setIfInBounds_self_of_lt hlt]
    · simp [he]
    · intro x hx
      simp only [Array.toList_push, List.mem_append, List.mem_singleton] at hx
      rcases hx with hx | rfl
      · have := h3 x hx; omega
      · simp
    · simp only [Array.toList_push, List.map_append, List.map_cons, List.map_nil]
      refine List.nodup_append.2 ⟨h4, by simp, ?_⟩
      intro a ha b hb'
      simp only [List.mem_singleton] at hb'
      obtain ⟨x, hx, rfl⟩ := List.mem_map.1 ha
      have := h3 x hx
      omega
    · simp only [List.map_append, List.map_cons, List.map_nil]
      refine List.nodup_append.2 ⟨hnd, by simp, ?_⟩
      intro a ha b hb'
      simp only [List.mem_singleton] at hb'
      obtain ⟨x, hx, rfl⟩ := List.mem_map.1 ha
      rw [hb']
      exact h1' x hx
    · rw [lookL_none h1']; simp

theorem MapAt.clear {w : World} {gm : Nat} {L : List Pt} (h : MapAt w gm L) (ty : TypeId) : ∃ w', (Builtin.clear_ #[54] ty #[.map (some gm)]).run Try.prog w = .ok (.tuple #[]) w' ∧ MapAt w' gm [] ∧ One gm w w' := by
  have hlt := h.lt
  obtain ⟨es, clock, hb, _⟩ := h.ex
  refine ⟨{ w with heap := w.heap.setIfInBounds gm (.map #[] clock) }, ?_, ⟨⟨#[], clock, ?_, rfl, (fun _ h => nomatch h), List.nodup_nil⟩, List.nodup_nil⟩, One.set _ _ _⟩
  · simp [Builtin.clear_, run_underlying Try.underlying54, MapKept.run_getObj_map hb, MapKept.run_setObj_map _ hb]
  · simp [Array.getElem?_setIfInBounds_self_of_lt hlt]
theorem MapAt.made (w : World) : MapAt (w.alloc (.map #[] 0)) w.heap.size [] :=
  ⟨⟨#[], 0, heap_alloc_new w _, rfl, (fun _ h => nomatch h), List.nodup_nil⟩, List.nodup_nil⟩
end Go.Proofs.Ytlbapnecmhlgmaa
