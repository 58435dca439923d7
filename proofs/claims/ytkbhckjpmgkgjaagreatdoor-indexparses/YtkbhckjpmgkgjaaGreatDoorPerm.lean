/- Statements that draw their order, walked in an order of one's own; the last operation, for which all others are waited, may leave the class of worlds that the others keep. -/
import Derived.Test.YtkbhckjpmgkgjaaGreatDoorBase
namespace Go.Proofs.YtkbhckjpmgkgjaaGreatDoor
open Go.RowKit
section
variable {P : Program} {ops : Array Oper} {md : Region.Mode} {S : World → Prop}

/-- The walk in the order that is told: false: the operation only reads; true: it stands alone. Behind the last one nothing is asked of the world. -/
def wpPerm (P : Program) (ops : Array Oper) (S : World → Prop) (Q : Act → World → Prop) : List (Bool × Nat) → Act → World → Prop
  | [], a, w => Q a w
  | (true, i) :: fs, a, w => ∃ o, ops[i]? = some o ∧ Region.wanted o (yielded ops a.tmps) = true ∧ o.wp P a w (fun a' w' => (fs ≠ [] → S w') ∧ wpPerm P ops S Q fs a' w') (fun _ _ _ => False)
  | (false, i) :: fs, a, w => ∃ o, ops[i]? = some o ∧ ∃ v, YieldsIf P ops S o v a ∧ wpPerm P ops S Q fs (a.put o.dst v) w

def permB (md : Region.Mode) (ops : Array Oper) (n : Nat) : List (Bool × Nat) → Array Bool → Bool
  | [], listed => (Region.ready md ops listed).isEmpty
  | (true, k) :: fs, listed => decide (Region.ready md ops listed = [k]) && (decide (k = n) == fs.isEmpty) && permB md ops n fs (listed.setIfInBounds k true)
  | (false, k) :: fs, listed => (Region.ready md ops listed).contains k && Region.free md ops listed k && ((ops[n]?).any fun o => o.after.any fun e => Region.binds md e && decide (e.on = k)) && permB md ops n fs (listed.setIfInBounds k true)

/-- Whatever order is picked: the class of worlds holds behind each operation but n. -/
def wpAnyT (P : Program) (md : Region.Mode) (ops : Array Oper) (n : Nat) (Q : Act → World → Prop) (S : World → Prop) : Nat → Array Bool → Act → World → Prop
  | 0, listed, a, w => Region.ready md ops listed = [] ∧ Q a w
  | fuel + 1, listed, a, w => (Region.ready md ops listed = [] → Q a w) ∧
    ∀ i ∈ Region.ready md ops listed, wpOp P ops (fun _ _ _ => False) i (fun a' w' => (i ≠ n → S w') ∧ wpAnyT P md ops n Q S fuel (listed.setIfInBounds i true) a' w') a w

theorem wpAny_of_T {n : Nat} {Q : Exit → Act → World → Prop} : ∀ (fuel : Nat) (listed : Array Bool) (a : Act) (w : World), wpAnyT P md ops n (Q .normal) S fuel listed a w → wpAny P md ops Q fuel listed a w
  | 0, _, _, _, h => h
  | fuel + 1, _, _, _, h => ⟨h.1, fun i hi => wpOp_monoQ (fun _ _ _ h => h.elim) (wpOp_mono (fun a' w' h' => wpAny_of_T fuel _ a' w' h'.2) (h.2 i hi))⟩

theorem wpAnyT_first {n i : Nat} {oi on : Oper} {v : Value} {Q : Act → World → Prop} (hi : ops[i]? = some oi) (hn : ops[n]? = some on) (hwait : ∃ e ∈ on.after, Region.binds md e = true ∧ e.on = i) (hsel : ∀ (j : Nat) (o : Oper) cs b, ops[j]? = some o → o.op ≠ .select cs b) :
    ∀ (fuel : Nat) (listed : Array Bool) (a : Act) (w : World),
      (∀ j oj, ops[j]? = some oj → j ≠ i → listed.getD j true = false → (∀ e ∈ oj.after, Region.binds md e = true → e.on ≠ i) → oi.apart ops oj = true) →
      i ∈ Region.ready md ops listed → YieldsIf P ops S oi v a → S w →
      wpAnyT P md ops n Q S fuel (listed.setIfInBounds i true) (a.put oi.dst v) w → wpAnyT P md ops n Q S (fuel + 1) listed a w := by
  intro fuel
  induction fuel with
  | zero =>
    intro listed a w _ hr hy hS H
    refine ⟨fun h => absurd hr (by rw [h]; simp), fun j hj => ?_⟩
    by_cases e : j = i
    · subst e
      exact hy.wpOp hi hS ⟨fun _ => hS, H⟩
    · have h := ready_mono hj e
      rw [H.1] at h
      exact absurd h (by simp)
  | succ fuel ih =>
    intro listed a w hfree hr hy hS H
    refine ⟨fun h => absurd hr (by rw [h]; simp), fun j hj => ?_⟩
    by_cases e : j = i
    · subst e
      exact hy.wpOp hi hS ⟨fun _ => hS, H⟩
    obtain ⟨hju, oj, hoj, hbound⟩ := mem_ready.1 hj
    have hiu := (mem_ready.1 hr).1
    -- nothing that is ready waits for i, which has not come up
    have free : ∀ e ∈ oj.after, Region.binds md e = true → e.on ≠ i := fun e he hb hq => by
      have h := hbound e he hb
      rw [hq] at h
      rcases Nat.lt_or_ge i listed.size with hlt | hge
      · simp [hlt] at hiu h
        rw [hiu] at h
        cases h
      · simp [Array.getElem?_eq_none hge] at h
    have hjn : j ≠ n := fun hq => by
      subst hq
      obtain rfl : oj = on := Option.some.inj (hoj.symm.trans hn)
      obtain ⟨x, hx, hb, ho⟩ := hwait
      exact free x hx hb ho
    have step := wpOp_putIf hoj (hfree j oj hoj e hju free) (fun cs b => hsel i oi cs b hi) (fun cs b => hsel j oj cs b hoj) (Q := fun _ _ _ => False) (fun _ _ _ h => h) hy (H.2 j (ready_mono hj e))
    refine wpOp_mono (fun a' w' h => ?_) step
    have hS' := h.2.1 hjn
    refine ⟨fun _ => hS', ih (listed.setIfInBounds j true) a' w' (fun k ok hk hki hun hno => hfree k ok hk hki ?_ hno) (ready_mono hr (Ne.symm e)) h.1 hS' ?_⟩
    · by_cases hq : j = k
      · subst hq; exact hju
      · rwa [getD_set_ne true hq] at hun
    · rw [Array.setIfInBounds_comm _ _ e]
      exact h.2.2

theorem wpAnyT_perm {n : Nat} {Q : Act → World → Prop} (hs : Region.noSelect ops = true) : ∀ (fs : List (Bool × Nat)) (listed : Array Bool) (a : Act) (w : World),
    permB md ops n fs listed = true → S w → wpPerm P ops S Q fs a w → wpAnyT P md ops n Q S fs.length listed a w
  | [], listed, a, w, hB, _, h => ⟨by simpa [permB] using hB, h⟩
  | (true, k) :: fs, listed, a, w, hB, hS, h => by
    simp only [permB, Bool.and_eq_true, decide_eq_true_eq, beq_iff_eq] at hB
    obtain ⟨⟨hB1, hB2⟩, hB3⟩ := hB
    refine ⟨fun h0 => absurd (hB1.symm.trans h0) (by simp), fun i hi => ?_⟩
    rw [hB1] at hi
    have hik : i = k := by simpa using hi
    subst hik
    obtain ⟨o, h0, hw, hwp⟩ := h
    unfold wpOp
    simp only [h0, hw, if_true]
    refine .inl (Oper.wp_mono (fun a' w' h' => ?_) hwp)
    cases fs with
    | nil =>
      refine ⟨fun hne => ?_, ?_⟩
      · simp at hB2
        exact absurd hB2 hne
      · exact ⟨by simpa [permB] using hB3, h'.2⟩
    | cons f fs => exact ⟨fun _ => h'.1 (by simp), wpAnyT_perm hs (f :: fs) _ a' w' hB3 (h'.1 (by simp)) h'.2⟩
  | (false, k) :: fs, listed, a, w, hB, hS, h => by
    simp only [permB, Bool.and_eq_true] at hB
    obtain ⟨⟨⟨hB1, hB2⟩, hB3⟩, hB4⟩ := hB
    obtain ⟨o, h0, v, hy, h'⟩ := h
    cases hn : ops[n]? with
    | none => rw [hn] at hB3; simp at hB3
    | some on =>
      rw [hn] at hB3
      simp only [Option.any_some, Array.any_eq_true', Bool.and_eq_true, decide_eq_true_eq] at hB3
      exact wpAnyT_first h0 hn hB3 (Region.noSelect_spec hs) fs.length listed a w (Region.free_spec h0 hB2) (by simpa using hB1) hy hS (wpAnyT_perm hs fs _ _ w hB4 hS h')

theorem wp_region_perm {id : Nat} {Q : Exit → Act → World → Prop} {a : Act} {w : World} {l : List Oper} (fs : List (Bool × Nat)) (S : World → Prop) (hm : P.follows .mixedOrders = true)
    (hB : (Region.noSelect l.toArray && (decide (fs.length = l.length) && permB .any l.toArray (l.length - 1) fs (Array.replicate l.length false))) = true) (hS : S w.drew)
    (h : wpPerm P l.toArray S (Q .normal) fs a w.drew) : (Code.region id l.toArray true).wp P Q a w := by
  simp only [Bool.and_eq_true, decide_eq_true_eq] at hB
  refine wp_region_any hm ?_
  have h1 := wpAny_of_T (Q := Q) _ _ _ _ (wpAnyT_perm (md := .any) (Q := Q .normal) hB.1 fs _ a w.drew hB.2.2 hS h)
  rw [hB.2.1] at h1
  simpa using h1

variable {Q : Act → World → Prop} {a : Act} {w : World} {o : Oper} {i : Nat} {fs : List (Bool × Nat)}

theorem p_value (d : Option Tmp) (v : Value) (hi : ops[i]? = some o) (hd : o.dst = d) (hw : Region.wanted o (yielded ops a.tmps) = true) (h : ∀ w, S w → (execOp a.eval o).run P w = .ok (.value v) w) (k : wpPerm P ops S Q fs (a.put d v) w) : wpPerm P ops S Q ((false, i) :: fs) a w :=
  ⟨o, hi, v, .inl ⟨hw, h⟩, by rw [hd]; exact k⟩
theorem p_skip (d : Option Tmp) (hi : ops[i]? = some o) (hd : o.dst = d) (hw : Region.wanted o (yielded ops a.tmps) = false) (k : wpPerm P ops S Q fs (a.put d undef) w) : wpPerm P ops S Q ((false, i) :: fs) a w :=
  ⟨o, hi, undef, .inr ⟨hw, rfl⟩, by rw [hd]; exact k⟩
theorem p_move (d : Option Tmp) (x : Operand) (hi : ops[i]? = some o) (hd : o.dst = d) (ho : o.op = .move x) (hw : Region.wanted o (yielded ops a.tmps) = true) (k : wpPerm P ops S Q fs (a.put d (a.eval x)) w) : wpPerm P ops S Q ((false, i) :: fs) a w :=
  p_value d _ hi hd hw (fun w _ => by unfold execOp; simp only [ho]; rfl) k
theorem p_load_mid (dd : Option Tmp) (ty : TypeId) (x : Operand) (hi : ops[i]? = some o) (hd' : o.dst = dd) (ho : o.op = .load ty x) (hw : Region.wanted o (yielded ops a.tmps) = true) (b off : Nat) (hx : a.eval x = .pointer (some ⟨b, off, none⟩)) (cs : List Value) (d : TypeDesc)
    (hC : ∀ w, S w → w.rangeAt b off cs) (hu : P.underlying ty = some d) (hd : d.isRow = true) (hs : (P.info? ty).map (·.size) = some cs.length)
    (k : wpPerm P ops S Q fs (a.put dd (.agg cs.toArray)) w) : wpPerm P ops S Q ((false, i) :: fs) a w :=
  ⟨o, hi, _, yieldsIf_load_mid hw ty x ho b off hx cs d hC hu hd hs, by rw [hd']; exact k⟩
theorem p_call (d : Option Tmp) (hi : ops[i]? = some o) (hd : o.dst = d) (hw : Region.wanted o (yielded ops a.tmps) = true) (f : FuncId) (args : Array Value) (h : (execOp a.eval o).run P w = .ok (.enter f args) w)
    (hc : Calls P f args w fun e w' => ∃ v, e = .returned v ∧ (fs ≠ [] → S w') ∧ wpPerm P ops S Q fs (a.put d v) w') : wpPerm P ops S Q ((true, i) :: fs) a w := by
  refine ⟨o, hi, hw, ?_⟩
  unfold Oper.wp
  rw [h]
  simp only [Oper.upon]
  refine hc.mono ?_
  rintro e w' ⟨v, rfl, h1, h2⟩
  subst hd
  exact ⟨h1, h2⟩
theorem p_alone (d : Option Tmp) (v : Value) (w' : World) (hi : ops[i]? = some o) (hd : o.dst = d) (hw : Region.wanted o (yielded ops a.tmps) = true) (h : (execOp a.eval o).run P w = .ok (.value v) w') (hS : fs ≠ [] → S w')
    (k : wpPerm P ops S Q fs (a.put d v) w') : wpPerm P ops S Q ((true, i) :: fs) a w := by
  refine ⟨o, hi, hw, ?_⟩
  unfold Oper.wp
  rw [h]
  subst hd
  exact ⟨hS, k⟩
theorem p_store (w' : World) (hi : ops[i]? = some o) (hd : o.dst = none) (hw : Region.wanted o (yielded ops a.tmps) = true) (h : (execOp a.eval o).run P w = .ok .skip w') (hS : fs ≠ [] → S w')
    (k : wpPerm P ops S Q fs a w') : wpPerm P ops S Q ((true, i) :: fs) a w := by
  refine ⟨o, hi, hw, ?_⟩
  unfold Oper.wp
  rw [h]
  simp only [Oper.upon, hd]
  exact ⟨hS, k⟩
/-- An operation that stands alone, by a law of its own. -/
theorem p_wp (hi : ops[i]? = some o) (hw : Region.wanted o (yielded ops a.tmps) = true) (h : o.wp P a w (fun a' w' => (fs ≠ [] → S w') ∧ wpPerm P ops S Q fs a' w') (fun _ _ _ => False)) : wpPerm P ops S Q ((true, i) :: fs) a w :=
  ⟨o, hi, hw, h⟩
theorem p_done (h : Q a w) : wpPerm P ops S Q [] a w := h
end
end Go.Proofs.YtkbhckjpmgkgjaaGreatDoor
