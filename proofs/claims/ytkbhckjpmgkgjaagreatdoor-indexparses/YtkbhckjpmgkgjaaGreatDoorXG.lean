/- Statements that draw their order, walked in an order of one's own; several operations at the end, for which all that only reads is waited, may leave the class of worlds that the others keep. My own work: what the reader of an index keeps in memory; lineErrno; a package is taken. My own work: the reader takes a need of the last package. My own work: the reader takes a line. My own work: a range over a function that keeps a state of its own in a cell between the rounds: it may change the world by Ch, and the loop's body must keep Kp for it. My own work: strings.Lines, whose state lies in a cell (after stage 11's text). My own work: all lines are read. My own work, along the kit's example of errors.As: errors.As at a **index.fault, by two contracts. My own work: Parse. -/
import Derived.Test.YtkbhckjpmgkgjaaGreatDoorPerm
import Derived.Test.YtkbhckjpmgkgjaaGreatDoorXC
import Derived.Test.YtkbhckjpmgkgjaaGreatDoorXE
import Derived.RangeFuncNested
import Derived.RangeFuncWrites
import Derived.Test.YtkbhckjpmgkgjaaGreatDoorBase
import Derived.Test.YtkbhckjpmgkgjaaGreatDoorSI1
import Derived.RangeFuncBound
import Derived.RangeFuncCalls
import Derived.RangeFuncLeaves
import Derived.Shelf.RegionOpen
import Derived.OwnWalkIn
import Derived.TacticsInMore
import Derived.LoopNIn
import Derived.LoopIn
import Derived.RegionIn
import Derived.Test.YtkbhckjpmgkgjaaGreatDoorRows
import Derived.WalkKit
import Derived.LaidEql
import Derived.Stop.Asserts
import Derived.RowKitTokens
namespace Go.Proofs.YtkbhckjpmgkgjaaGreatDoor
open Go.RowKit
section
variable {P : Program} {ops : Array Oper} {md : Region.Mode} {S : World → Prop}

def later (fs : List (Nat × Nat)) : Bool := fs.any fun x => x.1 == 0
/-- The walk in the order that is told: 0: the operation only reads, in the class of worlds; 1: it stands alone; 2: it looks at no world. Where nothing that reads is left nothing is asked of the world. -/
def wpLate (P : Program) (ops : Array Oper) (S : World → Prop) (Q : Act → World → Prop) : List (Nat × Nat) → Act → World → Prop
  | [], a, w => Q a w
  | (0, i) :: fs, a, w => ∃ o, ops[i]? = some o ∧ ∃ v, YieldsIf P ops S o v a ∧ wpLate P ops S Q fs (a.put o.dst v) w
  | (1, i) :: fs, a, w => ∃ o, ops[i]? = some o ∧ Region.wanted o (yielded ops a.tmps) = true ∧ o.wp P a w (fun a' w' => (later fs = true → S w') ∧ wpLate P ops S Q fs a' w') (fun _ _ _ => False)
  | (_ + 2, i) :: fs, a, w => ∃ o, ops[i]? = some o ∧ ∃ v, YieldsIf P ops (fun _ => True) o v a ∧ wpLate P ops S Q fs (a.put o.dst v) w

def lateB (md : Region.Mode) (ops : Array Oper) (ns : List Nat) : List (Nat × Nat) → Array Bool → Bool
  | [], listed => (Region.ready md ops listed).isEmpty
  | (0, k) :: fs, listed => (Region.ready md ops listed).contains k && Region.free md ops listed k && (ns.all fun n => (ops[n]?).any fun o => o.after.any fun e => Region.binds md e && decide (e.on = k)) && lateB md ops ns fs (listed.setIfInBounds k true)
  | (1, k) :: fs, listed => decide (Region.ready md ops listed = [k]) && (ns.contains k == !later fs) && lateB md ops ns fs (listed.setIfInBounds k true)
  | (_ + 2, k) :: fs, listed => (Region.ready md ops listed).contains k && Region.free md ops listed k && lateB md ops ns fs (listed.setIfInBounds k true)

/-- Whatever order is picked: the class of worlds lasts behind each operation but those of ns. -/
def wpAnyL (P : Program) (md : Region.Mode) (ops : Array Oper) (ns : List Nat) (Q : Act → World → Prop) (S : World → Prop) : Nat → Array Bool → Act → World → Prop
  | 0, listed, a, w => Region.ready md ops listed = [] ∧ Q a w
  | fuel + 1, listed, a, w => (Region.ready md ops listed = [] → Q a w) ∧
    ∀ i ∈ Region.ready md ops listed, wpOp P ops (fun _ _ _ => False) i (fun a' w' => (S w → i ∉ ns → S w') ∧ wpAnyL P md ops ns Q S fuel (listed.setIfInBounds i true) a' w') a w

theorem wpAny_of_L {ns : List Nat} {Q : Exit → Act → World → Prop} : ∀ (fuel : Nat) (listed : Array Bool) (a : Act) (w : World), wpAnyL P md ops ns (Q .normal) S fuel listed a w → wpAny P md ops Q fuel listed a w
  | 0, _, _, _, h => h
  | fuel + 1, _, _, _, h => ⟨h.1, fun i hi => wpOp_monoQ (fun _ _ _ h => h.elim) (wpOp_mono (fun a' w' h' => wpAny_of_L fuel _ a' w' h'.2) (h.2 i hi))⟩

theorem wpAnyL_first {ns : List Nat} {i : Nat} {oi : Oper} {v : Value} {Q : Act → World → Prop} (hi : ops[i]? = some oi) (hwait : ∀ n ∈ ns, ∃ on, ops[n]? = some on ∧ ∃ e ∈ on.after, Region.binds md e = true ∧ e.on = i) (hsel : ∀ (j : Nat) (o : Oper) cs b, ops[j]? = some o → o.op ≠ .select cs b) :
    ∀ (fuel : Nat) (listed : Array Bool) (a : Act) (w : World),
      (∀ j oj, ops[j]? = some oj → j ≠ i → listed.getD j true = false → (∀ e ∈ oj.after, Region.binds md e = true → e.on ≠ i) → oi.apart ops oj = true) →
      i ∈ Region.ready md ops listed → YieldsIf P ops S oi v a → S w →
      wpAnyL P md ops ns Q S fuel (listed.setIfInBounds i true) (a.put oi.dst v) w → wpAnyL P md ops ns Q S (fuel + 1) listed a w := by
  intro fuel
  induction fuel with
  | zero =>
    intro listed a w _ hr hy hS H
    refine ⟨fun h => absurd hr (by rw [h]; simp), fun j hj => ?_⟩
    by_cases e : j = i
    · subst e
      exact hy.wpOp hi hS ⟨fun _ _ => hS, H⟩
    · have h := ready_mono hj e
      rw [H.1] at h
      exact absurd h (by simp)
  | succ fuel ih =>
    intro listed a w hfree hr hy hS H
    refine ⟨fun h => absurd hr (by rw [h]; simp), fun j hj => ?_⟩
    by_cases e : j = i
    · subst e
      exact hy.wpOp hi hS ⟨fun _ _ => hS, H⟩
    obtain ⟨hju, oj, hoj, hbound⟩ := mem_ready.1 hj
    have hiu := (mem_ready.1 hr).1
    -- nothing that is ready waits for i, which has not come up
    have free : ∀ e ∈ oj.after, Region.binds md e = true → e.on ≠ i := fun e he hb hq => by
      have h := hbound e he hb
      rw [hq] at h
      rcases Nat.lt_or_ge i listed.size with hlt | hge
      · simp [hlt] at hiu h
        rw [hiu] at h
        cases h
      · simp [Array.getElem?_eq_none hge] at h
    have hjn : j ∉ ns := fun hq => by
      obtain ⟨on, hn, x, hx, hb, ho⟩ := hwait j hq
      obtain rfl : oj = on := Option.some.inj (hoj.symm.trans hn)
      exact free x hx hb ho
    have step := wpOp_putIf hoj (hfree j oj hoj e hju free) (fun cs b => hsel i oi cs b hi) (fun cs b => hsel j oj cs b hoj) (Q := fun _ _ _ => False) (fun _ _ _ h => h) hy (H.2 j (ready_mono hj e))
    refine wpOp_mono (fun a' w' h => ?_) step
    have hS' := h.2.1 hS hjn
    refine ⟨fun _ _ => hS', ih (listed.setIfInBounds j true) a' w' (fun k ok hk hki hun hno => hfree k ok hk hki ?_ hno) (ready_mono hr (Ne.symm e)) h.1 hS' ?_⟩
    · by_cases hq : j = k
      · subst hq; exact hju
      · rwa [getD_set_ne true hq] at hun
    · rw [Array.setIfInBounds_comm _ _ e]
      exact h.2.2

theorem wpAnyL_free {ns : List Nat} {i : Nat} {oi : Oper} {v : Value} {Q : Act → World → Prop} (hi : ops[i]? = some oi) (hsel : ∀ (j : Nat) (o : Oper) cs b, ops[j]? = some o → o.op ≠ .select cs b) :
    ∀ (fuel : Nat) (listed : Array Bool) (a : Act) (w : World),
      (∀ j oj, ops[j]? = some oj → j ≠ i → listed.getD j true = false → (∀ e ∈ oj.after, Region.binds md e = true → e.on ≠ i) → oi.apart ops oj = true) →
      i ∈ Region.ready md ops listed → YieldsIf P ops (fun _ => True) oi v a →
      wpAnyL P md ops ns Q S fuel (listed.setIfInBounds i true) (a.put oi.dst v) w → wpAnyL P md ops ns Q S (fuel + 1) listed a w := by
  intro fuel
  induction fuel with
  | zero =>
    intro listed a w _ hr hy H
    refine ⟨fun h => absurd hr (by rw [h]; simp), fun j hj => ?_⟩
    by_cases e : j = i
    · subst e
      exact hy.wpOp hi trivial ⟨fun h _ => h, H⟩
    · have h := ready_mono hj e
      rw [H.1] at h
      exact absurd h (by simp)
  | succ fuel ih =>
    intro listed a w hfree hr hy H
    refine ⟨fun h => absurd hr (by rw [h]; simp), fun j hj => ?_⟩
    by_cases e : j = i
    · subst e
      exact hy.wpOp hi trivial ⟨fun h _ => h, H⟩
    obtain ⟨hju, oj, hoj, hbound⟩ := mem_ready.1 hj
    have hiu := (mem_ready.1 hr).1
    -- nothing that is ready waits for i, which has not come up
    have free : ∀ e ∈ oj.after, Region.binds md e = true → e.on ≠ i := fun e he hb hq => by
      have h := hbound e he hb
      rw [hq] at h
      rcases Nat.lt_or_ge i listed.size with hlt | hge
      · simp [hlt] at hiu h
        rw [hiu] at h
        cases h
      · simp [Array.getElem?_eq_none hge] at h
    have step := wpOp_putIf hoj (hfree j oj hoj e hju free) (fun cs b => hsel i oi cs b hi) (fun cs b => hsel j oj cs b hoj) (Q := fun _ _ _ => False) (fun _ _ _ h => h) hy (H.2 j (ready_mono hj e))
    refine wpOp_mono (fun a' w' h => ?_) step
    refine ⟨h.2.1, ih (listed.setIfInBounds j true) a' w' (fun k ok hk hki hun hno => hfree k ok hk hki ?_ hno) (ready_mono hr (Ne.symm e)) h.1 ?_⟩
    · by_cases hq : j = k
      · subst hq; exact hju
      · rwa [getD_set_ne true hq] at hun
    · rw [Array.setIfInBounds_comm _ _ e]
      exact h.2.2

theorem wpAnyL_late {ns : List Nat} {Q : Act → World → Prop} (hs : Region.noSelect ops = true) : ∀ (fs : List (Nat × Nat)) (listed : Array Bool) (a : Act) (w : World),
    lateB md ops ns fs listed = true → (later fs = true → S w) → wpLate P ops S Q fs a w → wpAnyL P md ops ns Q S fs.length listed a w
  | [], listed, a, w, hB, _, h => ⟨by simpa [lateB] using hB, h⟩
  | (1, k) :: fs, listed, a, w, hB, hS, h => by
    simp only [lateB, Bool.and_eq_true, decide_eq_true_eq, beq_iff_eq] at hB
    obtain ⟨⟨hB1, hB2⟩, hB3⟩ := hB
    refine ⟨fun h0 => absurd (hB1.symm.trans h0) (by simp), fun i hi => ?_⟩
    rw [hB1] at hi
    have hik : i = k := by simpa using hi
    subst hik
    obtain ⟨o, h0, hw, hwp⟩ := h
    unfold wpOp
    simp only [h0, hw, if_true]
    refine .inl (Oper.wp_mono (fun a' w' h' => ?_) hwp)
    refine ⟨fun _ hne => h'.1 ?_, wpAnyL_late hs fs _ a' w' hB3 h'.1 h'.2⟩
    cases hl : later fs with
    | true => rfl
    | false =>
      rw [hl] at hB2
      exact absurd (List.contains_iff_mem.1 (by simpa using hB2)) hne
  | (0, k) :: fs, listed, a, w, hB, hS, h => by
    simp only [lateB, Bool.and_eq_true] at hB
    obtain ⟨⟨⟨hB1, hB2⟩, hB3⟩, hB4⟩ := hB
    obtain ⟨o, h0, v, hy, h'⟩ := h
    have hSw : S w := hS (by simp [later])
    refine wpAnyL_first h0 (fun n hn => ?_) (Region.noSelect_spec hs) fs.length listed a w (Region.free_spec h0 hB2) (by simpa using hB1) hy hSw (wpAnyL_late hs fs _ _ w hB4 (fun _ => hSw) h')
    have hx := List.all_eq_true.1 hB3 n hn
    cases hon : ops[n]? with
    | none => rw [hon] at hx; simp at hx
    | some on =>
      rw [hon] at hx
      simp only [Option.any_some, Array.any_eq_true', Bool.and_eq_true, decide_eq_true_eq] at hx
      exact ⟨on, rfl, hx⟩
  | (n + 2, k) :: fs, listed, a, w, hB, hS, h => by
    simp only [lateB, Bool.and_eq_true] at hB
    obtain ⟨⟨hB1, hB2⟩, hB4⟩ := hB
    obtain ⟨o, h0, v, hy, h'⟩ := h
    exact wpAnyL_free h0 (Region.noSelect_spec hs) fs.length listed a w (Region.free_spec h0 hB2) (by simpa using hB1) hy (wpAnyL_late hs fs _ _ w hB4 (fun hl => hS (by simp [later] at hl ⊢; exact hl)) h')

theorem wp_region_late {id : Nat} {Q : Exit → Act → World → Prop} {a : Act} {w : World} {l : List Oper} (ns : List Nat) (fs : List (Nat × Nat)) (S : World → Prop) (hm : P.follows .mixedOrders = true)
    (hB : (Region.noSelect l.toArray && (decide (fs.length = l.length) && lateB .any l.toArray ns fs (Array.replicate l.length false))) = true) (hS : S w.drew)
    (h : wpLate P l.toArray S (Q .normal) fs a w.drew) : (Code.region id l.toArray true).wp P Q a w := by
  simp only [Bool.and_eq_true, decide_eq_true_eq] at hB
  refine wp_region_any hm ?_
  have h1 := wpAny_of_L (Q := Q) _ _ _ _ (wpAnyL_late (md := .any) (Q := Q .normal) hB.1 fs _ a w.drew hB.2.2 (fun _ => hS) h)
  rw [hB.2.1] at h1
  simpa using h1

variable {Q : Act → World → Prop} {a : Act} {w : World} {o : Oper} {i : Nat} {fs : List (Nat × Nat)}

theorem l_value (d : Option Tmp) (v : Value) (hi : ops[i]? = some o) (hd : o.dst = d) (hw : Region.wanted o (yielded ops a.tmps) = true) (h : ∀ w, S w → (execOp a.eval o).run P w = .ok (.value v) w) (k : wpLate P ops S Q fs (a.put d v) w) : wpLate P ops S Q ((0, i) :: fs) a w :=
  ⟨o, hi, v, .inl ⟨hw, h⟩, by rw [hd]; exact k⟩
theorem f_value (d : Option Tmp) (v : Value) (hi : ops[i]? = some o) (hd : o.dst = d) (hw : Region.wanted o (yielded ops a.tmps) = true) (h : ∀ w : World, True → (execOp a.eval o).run P w = .ok (.value v) w) (k : wpLate P ops S Q fs (a.put d v) w) : wpLate P ops S Q ((2, i) :: fs) a w :=
  ⟨o, hi, v, .inl ⟨hw, h⟩, by rw [hd]; exact k⟩
theorem f_move (d : Option Tmp) (x : Operand) (hi : ops[i]? = some o) (hd : o.dst = d) (ho : o.op = .move x) (hw : Region.wanted o (yielded ops a.tmps) = true) (k : wpLate P ops S Q fs (a.put d (a.eval x)) w) : wpLate P ops S Q ((2, i) :: fs) a w :=
  f_value d _ hi hd hw (fun w _ => by unfold execOp; simp only [ho]; rfl) k
theorem l_skip (d : Option Tmp) (hi : ops[i]? = some o) (hd : o.dst = d) (hw : Region.wanted o (yielded ops a.tmps) = false) (k : wpLate P ops S Q fs (a.put d undef) w) : wpLate P ops S Q ((0, i) :: fs) a w :=
  ⟨o, hi, undef, .inr ⟨hw, rfl⟩, by rw [hd]; exact k⟩
theorem l_move (d : Option Tmp) (x : Operand) (hi : ops[i]? = some o) (hd : o.dst = d) (ho : o.op = .move x) (hw : Region.wanted o (yielded ops a.tmps) = true) (k : wpLate P ops S Q fs (a.put d (a.eval x)) w) : wpLate P ops S Q ((0, i) :: fs) a w :=
  l_value d _ hi hd hw (fun w _ => by unfold execOp; simp only [ho]; rfl) k
theorem l_load_mid (dd : Option Tmp) (ty : TypeId) (x : Operand) (hi : ops[i]? = some o) (hd' : o.dst = dd) (ho : o.op = .load ty x) (hw : Region.wanted o (yielded ops a.tmps) = true) (b off : Nat) (hx : a.eval x = .pointer (some ⟨b, off, none⟩)) (cs : List Value) (d : TypeDesc)
    (hC : ∀ w, S w → w.rangeAt b off cs) (hu : P.underlying ty = some d) (hd : d.isRow = true) (hs : (P.info? ty).map (·.size) = some cs.length)
    (k : wpLate P ops S Q fs (a.put dd (.agg cs.toArray)) w) : wpLate P ops S Q ((0, i) :: fs) a w :=
  ⟨o, hi, _, yieldsIf_load_mid hw ty x ho b off hx cs d hC hu hd hs, by rw [hd']; exact k⟩
theorem l_call (d : Option Tmp) (hi : ops[i]? = some o) (hd : o.dst = d) (hw : Region.wanted o (yielded ops a.tmps) = true) (f : FuncId) (args : Array Value) (h : (execOp a.eval o).run P w = .ok (.enter f args) w)
    (hc : Calls P f args w fun e w' => ∃ v, e = .returned v ∧ (later fs = true → S w') ∧ wpLate P ops S Q fs (a.put d v) w') : wpLate P ops S Q ((1, i) :: fs) a w := by
  refine ⟨o, hi, hw, ?_⟩
  unfold Oper.wp
  rw [h]
  simp only [Oper.upon]
  refine hc.mono ?_
  rintro e w' ⟨v, rfl, h1, h2⟩
  subst hd
  exact ⟨h1, h2⟩
theorem l_alone (d : Option Tmp) (v : Value) (w' : World) (hi : ops[i]? = some o) (hd : o.dst = d) (hw : Region.wanted o (yielded ops a.tmps) = true) (h : (execOp a.eval o).run P w = .ok (.value v) w') (hS : later fs = true → S w')
    (k : wpLate P ops S Q fs (a.put d v) w') : wpLate P ops S Q ((1, i) :: fs) a w := by
  refine ⟨o, hi, hw, ?_⟩
  unfold Oper.wp
  rw [h]
  subst hd
  exact ⟨hS, k⟩
theorem l_store (w' : World) (hi : ops[i]? = some o) (hd : o.dst = none) (hw : Region.wanted o (yielded ops a.tmps) = true) (h : (execOp a.eval o).run P w = .ok .skip w') (hS : later fs = true → S w')
    (k : wpLate P ops S Q fs a w') : wpLate P ops S Q ((1, i) :: fs) a w := by
  refine ⟨o, hi, hw, ?_⟩
  unfold Oper.wp
  rw [h]
  simp only [Oper.upon, hd]
  exact ⟨hS, k⟩
/-- An operation that stands alone, by a law of its own. -/
theorem l_wp (hi : ops[i]? = some o) (hw : Region.wanted o (yielded ops a.tmps) = true) (h : o.wp P a w (fun a' w' => (later fs = true → S w') ∧ wpLate P ops S Q fs a' w') (fun _ _ _ => False)) : wpLate P ops S Q ((1, i) :: fs) a w :=
  ⟨o, hi, hw, h⟩
theorem l_done (h : Q a w) : wpLate P ops S Q [] a w := h
end
end Go.Proofs.YtkbhckjpmgkgjaaGreatDoor
namespace Go.Proofs.YtkbhckjpmgkgjaaGreatDoor
open Go.RowKit
open Go.ChangeMaps (setBlock)

theorem lineErrno_ok (e : Int) (full : Bool) (w : World) : Calls Tryz.prog 105 #[.int .i64 e, .bool full] w fun x w' => x = .returned (.int .i64 (lineErr e full)) ∧ w' = w := by
  by_cases h17 : e = 17
  · subst h17
    have HE : Hid (lineErr 17 full = 50) := if_pos (Or.inl rfl)
    go_enter Tryz.func105, Tryz.ntmps105
    go_wp2
    go_ret
    exact ⟨by rw [HE.out]; rfl, rfl⟩
  · have b17 := beqI h17
    by_cases h20 : e = 20
    · subst h20
      have HE : Hid (lineErr 20 full = 50) := if_pos (Or.inr (Or.inl rfl))
      go_enter Tryz.func105, Tryz.ntmps105
      go_wp2
      go_ret
      exact ⟨by rw [HE.out]; rfl, rfl⟩
    · have b20 := beqI h20
      by_cases h21 : e = 21
      · subst h21
        have HE : Hid (lineErr 21 full = 50) := if_pos (Or.inr (Or.inr rfl))
        go_enter Tryz.func105, Tryz.ntmps105
        go_wp2
        go_ret
        exact ⟨by rw [HE.out]; rfl, rfl⟩
      · have b21 := beqI h21
        have HE : Hid (lineErr e full = if full = true then 3 else e) := if_neg (fun h => h.elim h17 (fun h => h.elim h20 h21))
        cases full with
        | true =>
          go_enter Tryz.func105, Tryz.ntmps105
          go_wp2
          go_ret
          exact ⟨by rw [HE.out]; rfl, rfl⟩
        | false =>
          go_enter Tryz.func105, Tryz.ntmps105
          go_wp2
          go_ret
          exact ⟨by rw [HE.out]; rfl, rfl⟩
/-- The reader in block R, its map in block M: packages in memory of their own. -/
structure RdAt (w : World) (R M : Nat) (D : List PV) (ov : Value) (wr : World) : Prop where
  row : Row wr R #[ov, .map (some M)] 85
  rel : RelAt wr M ((D.map (·.1)).map Pak.key)
  own : OwR w wr D ov
  rb : w.heap.size ≤ R
  mb : w.heap.size ≤ M
  len : D.length ≤ 1024
  nds : ∀ d ∈ D, d.1.nd.length ≤ 64
/-- What taking a line changes. -/
structure RdCh (R M : Nat) (A B : World) : Prop where
  size : A.heap.size ≤ B.heap.size
  blk : ∀ k o, A.heap[k]? = some o → k ≠ R → k ≠ M → (∀ C, o ≠ .cells C 44 (0, 0)) → (∀ C, o ≠ .cells C 61 (0, 0)) → B.heap[k]? = some o
theorem RdCh.refl (R M : Nat) (A : World) : RdCh R M A A := ⟨Nat.le_refl _, fun _ _ h _ _ _ _ => h⟩
theorem RdCh.trans {R M : Nat} {A B C : World} (h : RdCh R M A B) (k : RdCh R M B C) : RdCh R M A C := ⟨Nat.le_trans h.size k.size, fun i o h1 h2 h3 h4 h5 => k.blk i o (h.blk i o h1 h2 h3 h4 h5) h2 h3 h4 h5⟩
theorem RdCh.of_below {R M : Nat} {A B : World} (h : Below A.heap.size A B) : RdCh R M A B := ⟨h.size, fun i _ h1 _ _ _ _ => (h.block i (Array.getElem?_eq_some_iff.1 h1).1).trans h1⟩
theorem RdCh.of_map {R M : Nat} {A : World} (o : Obj) : RdCh R M A (setBlock A M o) := ⟨by rw [setBlock_size]; exact Nat.le_refl _, fun i _ h1 _ h3 _ _ => (setBlock_other h3).trans h1⟩
theorem RdCh.of_set {R M : Nat} {A : World} (i : Nat) (v : Value) : RdCh R M A (A.setCell ⟨R, i, none⟩ v) := ⟨by simp, fun k o h1 h2 _ _ _ => (Below.heap_setCell _ _ _ _ (by show k ≠ R; exact h2)).trans h1⟩
theorem RdCh.of_grown {R M base s n : Nat} {A B : World} {v : Value} {xs : List Value} {t : TypeId} (ht : t = 44 ∨ t = 61) (h : A.ownsRow base t s v n xs) (hg : A.grownBy B v.ownBlock) : RdCh R M A B := ⟨hg.size, fun k o h1 _ _ h4 h5 => (hg.block k (Array.getElem?_eq_some_iff.1 h1).1 fun e => by
  obtain ⟨C, hC⟩ := ownsRow_row h k e.symm
  rw [h1] at hC
  rcases ht with rfl | rfl
  · exact h4 C (Option.some.inj hC)
  · exact h5 C (Option.some.inj hC)).trans h1⟩
theorem RdCh.of_pack {R M g i : Nat} {A : World} {C : Array Value} (h : Row A g C 44) (v : Value) : RdCh R M A (A.setCell ⟨g, i, none⟩ v) := ⟨by simp, fun k o h1 _ _ h4 _ => (Below.heap_setCell _ _ _ _ (by
  show k ≠ g
  intro e
  subst e
  exact h4 C (Option.some.inj (h1.symm.trans h)))).trans h1⟩
theorem RdCh.row {R M k : Nat} {A B : World} {C : Array Value} {t : TypeId} (h : RdCh R M A B) (hr : Row A k C t) (hR : k ≠ R) (hM : k ≠ M) (h1 : t ≠ 44) (h2 : t ≠ 61) : Row B k C t :=
  h.blk k _ hr hR hM (fun C' e => by simp only [Obj.cells.injEq] at e; exact h1 e.2.1) (fun C' e => by simp only [Obj.cells.injEq] at e; exact h2 e.2.1)
theorem RdAt.next {w wr w' : World} {R M : Nat} {D : List PV} {ov : Value} (h : RdAt w R M D ov wr) (hb : Below wr.heap.size wr w') : RdAt w R M D ov w' :=
  ⟨h.row.below hb h.row.lt, h.rel.next hb, h.own.next hb, h.rb, h.mb, h.len, h.nds⟩
theorem rel_block {w : World} {M k : Nat} {E : List Rl} {C : Array Value} {t : TypeId} (h : RelAt w M E) (hk : w.heap[k]? = some (.cells C t (0, 0))) : k ≠ M := fun e => by
  obtain ⟨es, clk, h0, _⟩ := h.ex
  rw [e, h0] at hk
  cases Option.some.inj hk
/-- A release is put. -/
theorem RdAt.put {w wr : World} {R M : Nat} {D : List PV} {ov : Value} (h : RdAt w R M D ov wr) (o : Obj) : OwR w (setBlock wr M o) D ov ∧ Row (setBlock wr M o) R #[ov, .map (some M)] 85 := by
  have keep : ∀ {t : TypeId} {s n : Nat} {v : Value} {xs : List Value}, wr.ownsRow w.heap.size t s v n xs → (setBlock wr M o).ownsRow w.heap.size t s v n xs := fun {t s n v xs} hv => own_same hv fun k hk => setBlock_other (by
    obtain ⟨C, hC⟩ := ownsRow_row hv k hk
    exact rel_block h.rel hC)
  exact ⟨⟨keep h.own.own, fun d hd => keep (h.own.nds d hd), h.own.sep, h.own.old.trans (below_setBlock o h.mb)⟩, (setBlock_other (rel_block h.rel h.row)).trans h.row⟩
def RkPost (w : World) (R M : Nat) (wr : World) (r : Int × List Pak) (e : Ending) (w' : World) : Prop := ∃ ov' D', e = .returned (.int .i64 r.1) ∧ D'.map (·.1) = r.2 ∧ RdAt w R M D' ov' w' ∧ RdCh R M wr w'
/-- A package more. -/
theorem RdAt.more {w w5 w8 : World} {R M : Nat} {D : List PV} {ov v8 : Value} {p : Pak} (hO : OwR w w5 D ov) (hR : Row w5 R #[ov, .map (some M)] 85) (hrel : RelAt w5 M ((D.map (·.1)).map Pak.key ++ [p.key])) (rb : w.heap.size ≤ R) (mb : w.heap.size ≤ M) (len : D.length + 1 ≤ 1024) (nds : ∀ d ∈ D, d.1.nd.length ≤ 64) (hp : p.nd = [])
    (ho : w8.ownsRow w.heap.size 44 3 v8 (D.length + 1) (flatD D ++ encP p (.slice none 0 0))) (hg : w5.grownBy w8 ov.ownBlock) :
    RdAt w R M (D ++ [(p, .slice none 0 0)]) v8 (w8.setCell ⟨R, 0, none⟩ v8) ∧ Row w8 R #[ov, .map (some M)] 85 ∧ w8.cell? ⟨R, 0, none⟩ = some ov ∧ w8.frozen? ⟨R, 0, none⟩ = false := by
  have hne : ∀ k, ov.ownBlock = some k → k ≠ R ∧ k ≠ M := fun k hk => by
    obtain ⟨C, hC⟩ := ownsRow_row hO.own k hk
    refine ⟨fun e => ?_, rel_block hrel hC⟩
    rw [e, hR] at hC
    simp at hC
  have hR8 : Row w8 R #[ov, .map (some M)] 85 := (hg.block R hR.lt fun e => (hne R e.symm).1 rfl).trans hR
  have hrel8 : RelAt w8 M ((D.map (·.1)).map Pak.key ++ [p.key]) := hrel.keep (hg.block M hrel.lt fun e => (hne M e.symm).2 rfl)
  have hO8 : OwR w w8 (D ++ [(p, .slice none 0 0)]) v8 := OwR.more hO (by rw [hp]; exact World.ownsRow_nil _ _ _ _) (fun d _ a b _ hb => by cases hb) ho hg
  have hMR : M ≠ R := fun e => rel_block hrel hR e.symm
  have keep : ∀ {t : TypeId} {s n : Nat} {v : Value} {xs : List Value}, t ≠ 85 → w8.ownsRow w.heap.size t s v n xs → (w8.setCell ⟨R, 0, none⟩ v8).ownsRow w.heap.size t s v n xs := fun {t s n v xs} ht hv => own_same hv fun k hk => Below.heap_setCell _ _ _ _ (by
    show k ≠ R
    intro e
    obtain ⟨C, hC⟩ := ownsRow_row hv k hk
    rw [e, hR8] at hC
    simp at hC
    exact ht hC.2.symm)
  refine ⟨⟨hR8.setCell (i := 0) v8, ?_, ⟨keep (by decide) hO8.own, fun d hd => keep (by decide) (hO8.nds d hd), hO8.sep, hO8.old.trans (below_set rb _ _)⟩, rb, mb, by rw [List.length_append]; exact len, fun d hd => ?_⟩, hR8, (hR8.cell 0).trans rfl, hR8.frozen 0⟩
  · rw [List.map_append, List.map_append]
    exact hrel8.keep (Below.heap_setCell _ _ _ _ (by show M ≠ R; exact hMR))
  · rcases List.mem_append.1 hd with hd | hd
    · exact nds d hd
    · rw [List.mem_singleton.1 hd, hp]; exact Nat.zero_le _
set_option maxRecDepth 40000 in
set_option maxHeartbeats 8000000 in
theorem pack_ok {w wr : World} {R M : Nat} {D : List PV} {ov : Value} (nm vr : ByteArray) (hn : nm.size ≤ 140737488355328) (hv : vr.size ≤ 140737488355328) (H : RdAt w R M D ov wr) : Calls Tryz.prog 73 #[.pointer (some ⟨R, 0, none⟩), .agg #[.string nm, .string vr, .slice none 0 0]] wr (RkPost w R M wr (putPack (D.map (·.1)) nm vr)) := by
  obtain ⟨E, hE⟩ : ∃ E, E = (D.map (·.1)).map Pak.key := ⟨_, rfl⟩
  obtain ⟨n, hnD⟩ : ∃ n, n = D.length := ⟨_, rfl⟩
  obtain ⟨fb, hfb⟩ : ∃ fb, fb = decide (n = 1024) := ⟨_, rfl⟩
  obtain ⟨e1, he1⟩ : ∃ e1, e1 = rightP nm vr E := ⟨_, rfl⟩
  obtain ⟨r, hr⟩ : ∃ r, r = lineErr e1 fb := ⟨_, rfl⟩
  have HN : Hid (n = D.length) := hnD
  have HPk : Hid (packEr (D.map (·.1)) nm vr = r) := by show _ = _; rw [hr, hfb, he1, hE, hnD]; unfold packEr; rw [List.length_map]
  have hfi : ((n : Int) == 1024) = fb := by
    rw [hfb, Bool.eq_iff_iff, beq_iff_eq, decide_eq_true_eq]
    omega
  have hfd : decide ((n : Int) = 1024) = fb := by
    rw [hfb, Bool.eq_iff_iff, decide_eq_true_eq, decide_eq_true_eq]
    omega
  obtain ⟨pa, pc, rfl⟩ := slice_of H.own.own
  rw [← hnD] at H
  have hr3 : Row (wr.alloc (.cells #[.string nm, .string vr, .slice none 0 0] 44)) wr.heap.size #[.string nm, .string vr, .slice none 0 0] 44 := Row.new _ _ _
  have hb3 : Below wr.heap.size wr (wr.alloc (.cells #[.string nm, .string vr, .slice none 0 0] 44)) := (Below.refl _ _).alloc (Nat.le_refl _) _
  obtain ⟨w3, hw3⟩ : ∃ x, x = wr.alloc (.cells #[.string nm, .string vr, .slice none 0 0] 44) := ⟨_, rfl⟩
  rw [← hw3] at hr3 hb3
  have hw3' := hw3.symm
  have HR3 : Hid (Row w3 wr.heap.size #[.string nm, .string vr, .slice none 0 0] 44) := hr3
  have HB3 : Hid (Below wr.heap.size wr w3) := hb3
  have H3 : Hid (RdAt w R M D (.slice pa n pc) w3) := H.next hb3
  have HH : Hid (RdAt w R M D (.slice pa n pc) wr) := H
  have HRP : Hid (∀ wx, Below w3.heap.size w3 wx → Calls Tryz.prog 30 #[.agg #[.string nm, .string vr, .slice none 0 0], .map (some M)] wx fun e w' => e = .returned (.int .i64 e1) ∧ Below wx.heap.size wx w') := fun wx hx => by
    rw [he1, hE]
    exact rightPack_ok nm vr none 0 0 hn hv wx (H3.out.rel.next hx)
  have HLE : Hid (∀ wx, Calls Tryz.prog 105 #[.int .i64 e1, .bool fb] wx fun e w' => e = .returned (.int .i64 r) ∧ w' = wx) := fun wx => by rw [hr]; exact lineErrno_ok e1 fb wx
  have HZ : Hid (r = 0 → (nm, vr) ∉ E ∧ n ≠ 1024) := fun h => by
    obtain ⟨h1, h2⟩ := lineErr_zero (hr.symm.trans h)
    rw [he1] at h1
    rw [hfb] at h2
    exact ⟨(rightP_ok h1).2.2, of_decide_eq_false h2⟩
  have HE : Hid (E = (D.map (·.1)).map Pak.key) := hE
  have HLen : Hid (D.length ≤ 1024) := H.len
  have hlowR := H.own.old.size
  obtain ⟨RP, hRP⟩ : ∃ RP, RP = RkPost w R M wr (putPack (D.map (·.1)) nm vr) := ⟨_, rfl⟩
  have HRPo : Hid (∀ ov' D' w', D'.map (·.1) = (putPack (D.map (·.1)) nm vr).2 → RdAt w R M D' ov' w' → RdCh R M wr w' → RP (.returned (.int .i64 (putPack (D.map (·.1)) nm vr).1)) w') := fun ov' D' w' h1 h2 h3 => by rw [hRP]; exact ⟨ov', D', rfl, h1, h2, h3⟩
  rw [← hRP]
  clear hE hnD hfb he1 hr H hr3 hb3 hw3 hn hv hRP
  go_enter Tryz.func73, Tryz.ntmps73
  go_wp2_with fail
  refine wp_region_quiet (C := fun wx => Below w3.heap.size w3 wx) (by kernel_rfl) (by kernel_rfl) ((Below.refl _ _).drew) ?_
  simp only []
  refine q_load 44 _ rfl (by rfl) wr.heap.size #[.string nm, .string vr, .slice none 0 0] 44 _ rfl (fun wx hw => Row.below HR3.out hw (Row.lt HR3.out)) Tryz.underlying44 rfl infoPk ?_
  simp only [Act.put, List.setIfInBounds_toArray, List.set_cons_zero, List.set_cons_succ]
  refine q_value ?_ (by rfl) (fun wx hw => ?_) ?_
  rotate_left
  · go_simp
    with_reducible rfl
  simp only [Act.put, List.setIfInBounds_toArray, List.set_cons_zero, List.set_cons_succ]
  refine q_value ?_ (by rfl) (fun wx hw => ?_) ?_
  rotate_left
  · go_simp
    with_reducible rfl
  simp only [Act.put, List.setIfInBounds_toArray, List.set_cons_zero, List.set_cons_succ]
  refine q_value ?_ (by rfl) (fun wx hw => ?_) ?_
  rotate_left
  · go_simp
    with_reducible rfl
  simp only [Act.put, List.setIfInBounds_toArray, List.set_cons_zero, List.set_cons_succ]
  refine q_value (.map (some M)) (by rfl) (fun wx hw => ?_) ?_
  · have hc := ((Row.below H3.out.row hw (Row.lt H3.out.row)).cell 1).trans (show _ = some (Value.map (some M)) from rfl)
    go_simp
  simp only [Act.put, List.setIfInBounds_toArray, List.set_cons_zero, List.set_cons_succ]
  refine q_call (.int .i64 e1) (by rfl) 30 #[.agg #[.string nm, .string vr, .slice none 0 0], .map (some M)] (fun w h => by go_simp) (fun wx hw => (HRP.out wx hw).mono fun e w' ⟨he, hb⟩ => ⟨he, hw.trans (hb.mono hw.size)⟩) ?_
  simp only [Act.put, List.setIfInBounds_toArray, List.set_cons_zero, List.set_cons_succ]
  refine q_value ?_ (by rfl) (fun wx hw => ?_) ?_
  rotate_left
  · go_simp
    with_reducible rfl
  simp only [Act.put, List.setIfInBounds_toArray, List.set_cons_zero, List.set_cons_succ]
  refine q_value ?_ (by rfl) (fun wx hw => ?_) ?_
  rotate_left
  · go_simp
    with_reducible rfl
  simp only [Act.put, List.setIfInBounds_toArray, List.set_cons_zero, List.set_cons_succ]
  refine q_value ?_ (by rfl) (fun wx hw => ?_) ?_
  rotate_left
  · go_simp
    with_reducible rfl
  simp only [Act.put, List.setIfInBounds_toArray, List.set_cons_zero, List.set_cons_succ]
  refine q_value (.slice pa n pc) (by rfl) (fun wx hw => ?_) ?_
  · have hc := ((Row.below H3.out.row hw (Row.lt H3.out.row)).cell 0).trans (show _ = some (Value.slice pa n pc) from rfl)
    go_simp
  simp only [Act.put, List.setIfInBounds_toArray, List.set_cons_zero, List.set_cons_succ]
  refine q_value ?_ (by rfl) (fun wx hw => ?_) ?_
  rotate_left
  · go_simp
    with_reducible rfl
  simp only [Act.put, List.setIfInBounds_toArray, List.set_cons_zero, List.set_cons_succ]
  refine q_value (.bool fb) (by rfl) (fun wx hw => ?_) ?_
  · go_simp
  simp only [Act.put, List.setIfInBounds_toArray, List.set_cons_zero, List.set_cons_succ]
  refine q_call (.int .i64 r) (by rfl) 105 #[.int .i64 e1, .bool fb] (fun w h => by go_simp) (fun wx hw => (HLE.out wx).mono fun e w' ⟨he, hb⟩ => ⟨he, by rw [hb]; exact hw⟩) ?_
  simp only [Act.put, List.setIfInBounds_toArray, List.set_cons_zero, List.set_cons_succ]
  refine q_value ?_ (by rfl) (fun wx hw => ?_) ?_
  rotate_left
  · go_simp
    with_reducible rfl
  simp only [Act.put, List.setIfInBounds_toArray, List.set_cons_zero, List.set_cons_succ]
  refine wpQuiet_nil ?_
  intro wB hB
  try simp only [Exit.then]
  have HB : Hid (Below w3.heap.size w3 wB) := hB
  clear hB hfi hfd
  by_cases hz : r = 0
  case neg =>
    have hzb := beqI hz
    have HQ : Hid (putPack (D.map (·.1)) nm vr = (r, D.map (·.1))) := by
      show _ = _
      unfold putPack
      rw [HPk.out, if_pos hz]
    have HF := HRPo.out (.slice pa n pc) D wB (by rw [HQ.out]) (H3.out.next HB.out) (RdCh.of_below (HB3.out.trans (HB.out.mono HB3.out.size)))
    rw [HQ.out] at HF
    have HFF : Hid (RP (.returned (.int .i64 r)) wB) := HF
    clear HF hz
    go_wp2
    exact HFF.out
  case pos =>
    have HQ : Hid (putPack (D.map (·.1)) nm vr = (0, D.map (·.1) ++ [⟨nm, vr, []⟩])) := by
      show _ = _
      unfold putPack
      rw [HPk.out, if_neg (fun h => h hz)]
    obtain ⟨hnin, hn24⟩ := HZ.out hz
    subst hz
    have HN24 : Hid (n ≠ 1024) := hn24
    obtain ⟨w4, hw4⟩ : ∃ x, x = wB.drew := ⟨_, rfl⟩
    have h4 : RdAt w R M D (.slice pa n pc) w4 := by rw [hw4]; exact (H3.out.next HB.out).next ((Below.refl _ _).drew)
    have hr4 : Row w4 wr.heap.size #[.string nm, .string vr, .slice none 0 0] 44 := by rw [hw4]; exact (HR3.out.below HB.out HR3.out.lt).drew
    have hb4 : Below wr.heap.size wr w4 := by rw [hw4]; exact (HB3.out.trans (HB.out.mono HB3.out.size)).drew
    obtain ⟨o, hput, hrel5⟩ := put_rel h4.rel (x := (nm, vr)) (by rw [← HE.out]; exact hnin) (n : Int)
    have H4 : Hid (RdAt w R M D (.slice pa n pc) w4) := h4
    have HR4 : Hid (Row w4 wr.heap.size #[.string nm, .string vr, .slice none 0 0] 44) := hr4
    have HB4 : Hid (Below wr.heap.size wr w4) := hb4
    have HRel5 : Hid (RelAt (setBlock w4 M o) M ((D.map (·.1)).map Pak.key ++ [(nm, vr)])) := hrel5
    have HW4 : Hid (w4 = wB.drew) := hw4
    clear hnin hn24 h4 hr4 hb4 hrel5 hw4
    go_wp2_with fail
    refine wp_region_perm [(false, 0), (false, 1), (false, 2), (false, 3), (false, 4), (false, 5), (false, 6), (false, 7), (false, 8), (false, 9), (false, 10), (false, 11), (false, 12), (false, 13), (true, 14)] (fun wx => wx = w4) (by kernel_rfl) (by kernel_rfl) HW4.out.symm ?_
    rw [← HW4.out]
    refine p_value (some 22) ?_ rfl rfl (by rfl) (fun wx hw => ?_) ?_
    rotate_left
    · go_simp
      with_reducible rfl
    simp only [Act.put, List.setIfInBounds_toArray, List.set_cons_zero, List.set_cons_succ]
    refine p_value (some 23) ?_ rfl rfl (by rfl) (fun wx hw => ?_) ?_
    rotate_left
    · go_simp
      with_reducible rfl
    simp only [Act.put, List.setIfInBounds_toArray, List.set_cons_zero, List.set_cons_succ]
    refine p_value (some 24) ?_ rfl rfl (by rfl) (fun wx hw => ?_) ?_
    rotate_left
    · go_simp
      with_reducible rfl
    simp only [Act.put, List.setIfInBounds_toArray, List.set_cons_zero, List.set_cons_succ]
    refine p_value (some 25) (.map (some M)) rfl rfl (by rfl) (fun wx hw => ?_) ?_
    · have hc := (H4.out.row.cell 1).trans (show _ = some (Value.map (some M)) from rfl)
      subst hw
      go_simp
    simp only [Act.put, List.setIfInBounds_toArray, List.set_cons_zero, List.set_cons_succ]
    refine p_value (some 26) ?_ rfl rfl (by rfl) (fun wx hw => ?_) ?_
    rotate_left
    · go_simp
      with_reducible rfl
    simp only [Act.put, List.setIfInBounds_toArray, List.set_cons_zero, List.set_cons_succ]
    refine p_value (some 27) (.string nm) rfl rfl (by rfl) (fun wx hw => ?_) ?_
    · have hc := (HR4.out.cell 0).trans (show _ = some (Value.string nm) from rfl)
      subst hw
      go_simp
    simp only [Act.put, List.setIfInBounds_toArray, List.set_cons_zero, List.set_cons_succ]
    refine p_value (some 28) ?_ rfl rfl (by rfl) (fun wx hw => ?_) ?_
    rotate_left
    · go_simp
      with_reducible rfl
    simp only [Act.put, List.setIfInBounds_toArray, List.set_cons_zero, List.set_cons_succ]
    refine p_value (some 29) (.string vr) rfl rfl (by rfl) (fun wx hw => ?_) ?_
    · have hc := (HR4.out.cell 1).trans (show _ = some (Value.string vr) from rfl)
      subst hw
      go_simp
    simp only [Act.put, List.setIfInBounds_toArray, List.set_cons_zero, List.set_cons_succ]
    refine p_value (some 30) ?_ rfl rfl (by rfl) (fun wx hw => ?_) ?_
    rotate_left
    · go_simp
      with_reducible rfl
    simp only [Act.put, List.setIfInBounds_toArray, List.set_cons_zero, List.set_cons_succ]
    refine p_value (some 31) ?_ rfl rfl (by rfl) (fun wx hw => ?_) ?_
    rotate_left
    · go_simp
      with_reducible rfl
    simp only [Act.put, List.setIfInBounds_toArray, List.set_cons_zero, List.set_cons_succ]
    refine p_value (some 32) ?_ rfl rfl (by rfl) (fun wx hw => ?_) ?_
    rotate_left
    · go_simp
      with_reducible rfl
    simp only [Act.put, List.setIfInBounds_toArray, List.set_cons_zero, List.set_cons_succ]
    refine p_value (some 33) ?_ rfl rfl (by rfl) (fun wx hw => ?_) ?_
    rotate_left
    · go_simp
      with_reducible rfl
    simp only [Act.put, List.setIfInBounds_toArray, List.set_cons_zero, List.set_cons_succ]
    refine p_value (some 34) (.slice pa n pc) rfl rfl (by rfl) (fun wx hw => ?_) ?_
    · have hc := (H4.out.row.cell 0).trans (show _ = some (Value.slice pa n pc) from rfl)
      subst hw
      go_simp
    simp only [Act.put, List.setIfInBounds_toArray, List.set_cons_zero, List.set_cons_succ]
    refine p_value (some 35) ?_ rfl rfl (by rfl) (fun wx hw => ?_) ?_
    rotate_left
    · go_simp
      with_reducible rfl
    simp only [Act.put, List.setIfInBounds_toArray, List.set_cons_zero, List.set_cons_succ]
    refine p_store (setBlock w4 M o) rfl rfl (by rfl) (by go_simp) (fun h => absurd rfl h) ?_
    refine p_done ?_
    try simp only [Exit.then]
    obtain ⟨w5, hw5⟩ : ∃ x, x = (setBlock w4 M o).drew := ⟨_, rfl⟩
    have hO5 : OwR w w5 D (.slice pa n pc) := by rw [hw5]; exact (H4.out.put o).1.next ((Below.refl _ _).drew)
    have hR5 : Row w5 R #[.slice pa n pc, .map (some M)] 85 := by rw [hw5]; exact (H4.out.put o).2.drew
    have hrel5 : RelAt w5 M ((D.map (·.1)).map Pak.key ++ [(nm, vr)]) := by rw [hw5]; exact HRel5.out.next ((Below.refl _ _).drew)
    have hk5M : wr.heap.size ≠ M := rel_block H4.out.rel HR4.out
    have hk5 : Row w5 wr.heap.size #[.string nm, .string vr, .slice none 0 0] 44 := by rw [hw5]; exact Row.drew (show Row (setBlock w4 M o) wr.heap.size #[.string nm, .string vr, .slice none 0 0] 44 from (setBlock_other hk5M).trans HR4.out)
    have hch5 : RdCh R M wr w5 := by rw [hw5]; exact ((RdCh.of_below HB4.out).trans (RdCh.of_map o)).trans (RdCh.of_below ((Below.refl _ _).drew))
    have hlow5 : w.heap.size ≤ w5.heap.size := hO5.old.size
    have HO5 : Hid (OwR w w5 D (.slice pa n pc)) := hO5
    have HR5 : Hid (Row w5 R #[.slice pa n pc, .map (some M)] 85) := hR5
    have HRel : Hid (RelAt w5 M ((D.map (·.1)).map Pak.key ++ [(nm, vr)])) := hrel5
    have HK5 : Hid (Row w5 wr.heap.size #[.string nm, .string vr, .slice none 0 0] 44) := hk5
    have HCh5 : Hid (RdCh R M wr w5) := hch5
    have HW5 : Hid (w5 = (setBlock w4 M o).drew) := hw5
    clear hO5 hR5 hrel5 hk5M hk5 hch5 hw5 hput
    go_wp2_with fail
    refine wp_region_late [10] [(0, 0), (0, 1), (0, 2), (0, 3), (0, 4), (0, 5), (1, 6), (1, 7), (2, 8), (0, 9), (1, 10)] (fun wx => Row wx R #[.slice pa n pc, .map (some M)] 85 ∧ Row wx wr.heap.size #[.string nm, .string vr, .slice none 0 0] 44) (by kernel_rfl) (by kernel_rfl) (by rw [← HW5.out]; exact ⟨HR5.out, HK5.out⟩) ?_
    rw [← HW5.out]
    refine l_value (some 36) ?_ rfl rfl (by rfl) (fun wx hw => ?_) ?_
    rotate_left
    · go_simp
      with_reducible rfl
    simp only [Act.put, List.setIfInBounds_toArray, List.set_cons_zero, List.set_cons_succ]
    refine l_value (some 37) ?_ rfl rfl (by rfl) (fun wx hw => ?_) ?_
    rotate_left
    · go_simp
      with_reducible rfl
    simp only [Act.put, List.setIfInBounds_toArray, List.set_cons_zero, List.set_cons_succ]
    refine l_value (some 38) ?_ rfl rfl (by rfl) (fun wx hw => ?_) ?_
    rotate_left
    · go_simp
      with_reducible rfl
    simp only [Act.put, List.setIfInBounds_toArray, List.set_cons_zero, List.set_cons_succ]
    refine l_value (some 39) ?_ rfl rfl (by rfl) (fun wx hw => ?_) ?_
    rotate_left
    · go_simp
      with_reducible rfl
    simp only [Act.put, List.setIfInBounds_toArray, List.set_cons_zero, List.set_cons_succ]
    refine l_value (some 40) (.slice pa n pc) rfl rfl (by rfl) (fun wx hw => ?_) ?_
    · have hc := (Row.cell hw.1 0).trans (show _ = some (Value.slice pa n pc) from rfl)
      go_simp
    simp only [Act.put, List.setIfInBounds_toArray, List.set_cons_zero, List.set_cons_succ]
    refine l_load_mid (some 41) 44 _ rfl rfl rfl (by rfl) wr.heap.size 0 rfl (encP ⟨nm, vr, []⟩ (.slice none 0 0)) _ (fun wx hw j u hj => by rw [Nat.zero_add, Row.cell hw.2 j, ← hj]; exact List.getElem?_toArray) Tryz.underlying44 rfl infoPk ?_
    simp only [Act.put, List.setIfInBounds_toArray, List.set_cons_zero, List.set_cons_succ]
    have hone := one_pk nm vr none 0 0 w5
    obtain ⟨w6, hw6⟩ : ∃ x, x = w5.alloc (.cells #[.string nm, .string vr, .slice none 0 0] 44) := ⟨_, rfl⟩
    have hb6 : Below w5.heap.size w5 w6 := by rw [hw6]; exact (Below.refl _ _).alloc (Nat.le_refl _) _
    have hnew : ∀ j u, (encP ⟨nm, vr, []⟩ (.slice none 0 0))[j]? = some u → w6.cell? ⟨w5.heap.size, 0 + j, none⟩ = some u := fun j u hj => by
      have hr : Row w6 w5.heap.size #[.string nm, .string vr, .slice none 0 0] 44 := by rw [hw6]; exact Row.new _ _ _
      rw [Nat.zero_add, hr.cell j, ← hj]
      exact List.getElem?_toArray
    have HO6 : Hid (OwR w w6 D (.slice pa n pc)) := HO5.out.next hb6
    have hown6 := HO6.out.own
    rw [← HN.out] at hown6
    have hlow6 : w.heap.size ≤ w6.heap.size := HO6.out.old.size
    refine l_alone (some 42) (.slice (some ⟨w5.heap.size, 0, none⟩) 1 1) w6 rfl rfl (by rfl) (by rw [hw6]; go_simp) (fun _ => ⟨HR5.out.below hb6 HR5.out.lt, HK5.out.below hb6 HK5.out.lt⟩) ?_
    simp only [Act.put, List.setIfInBounds_toArray, List.set_cons_zero, List.set_cons_succ]
    refine l_wp rfl (by rfl) ?_
    refine wp_append_any (some 43) rfl (.tmp 40) (.tmp 42) 22 44 (.agg zeroPk) 3 56 Tryz.underlying22 infoPkz rfl (by decide) rfl w.heap.size (.slice pa n pc) n (flatD D) rfl hown6 (some ⟨w5.heap.size, 0, none⟩) w5.heap.size 0 1 1 (encP ⟨nm, vr, []⟩ (.slice none 0 0)) rfl rfl (fun _ => rfl) hnew (fun u hu => by simp at hu; rcases hu with rfl | rfl | rfl <;> rfl) (fun h => nomatch h) (by have := HN.out; have := HLen.out; unfold maxLen; omega) (by have := HN.out; have := HLen.out; omega) hlow6 ?_
    intro v8 w8 ho8 hg8 _
    have ho8' := ho8
    rw [HN.out] at ho8'
    obtain ⟨hfin, hrow8, hcr, hfr⟩ := RdAt.more (p := ⟨nm, vr, []⟩) HO6.out (HR5.out.below hb6 HR5.out.lt) (HRel.out.next hb6) H4.out.rb H4.out.mb (by have := HN.out; have := HLen.out; have := HN24.out; omega) H4.out.nds rfl ho8' hg8
    have hch8 : RdCh R M wr (w8.setCell ⟨R, 0, none⟩ v8) := ((HCh5.out.trans (RdCh.of_below hb6)).trans (RdCh.of_grown (Or.inl rfl) hown6 hg8)).trans (RdCh.of_set 0 v8)
    have HF := HRPo.out v8 (D ++ [(⟨nm, vr, []⟩, .slice none 0 0)]) _ (by rw [HQ.out, List.map_append]; rfl) hfin hch8
    rw [HQ.out] at HF
    have HFF : Hid (RP (.returned (.int .i64 0)) (w8.setCell ⟨R, 0, none⟩ v8)) := HF
    have HK8 : Hid (Row w8 wr.heap.size #[.string nm, .string vr, .slice none 0 0] 44) := (hg8.block wr.heap.size (HK5.out.below hb6 HK5.out.lt).lt fun e => by
      have h := (own_block HH.out.own.own _ e.symm).2
      omega).trans (HK5.out.below hb6 HK5.out.lt)
    obtain ⟨va, vc, rfl⟩ := slice_of ho8
    clear HF hfin hch8 ho8 ho8' hg8
    refine ⟨fun _ => ⟨hrow8, HK8.out⟩, ?_⟩
    simp only [Act.put, List.setIfInBounds_toArray, List.set_cons_zero, List.set_cons_succ]
    refine f_value (some 44) ?_ rfl rfl (by rfl) (fun wx hw => ?_) ?_
    rotate_left
    · go_simp
      with_reducible rfl
    simp only [Act.put, List.setIfInBounds_toArray, List.set_cons_zero, List.set_cons_succ]
    refine l_value (some 45) ?_ rfl rfl (by rfl) (fun wx hw => ?_) ?_
    rotate_left
    · go_simp
      with_reducible rfl
    simp only [Act.put, List.setIfInBounds_toArray, List.set_cons_zero, List.set_cons_succ]
    refine l_store (w8.setCell ⟨R, 0, none⟩ (.slice va (n + 1) vc)) rfl rfl (by rfl) (by go_simp) (fun h => by cases h) ?_
    refine l_done ?_
    try simp only [Exit.then]
    go_wp2
    exact HFF.out
end Go.Proofs.YtkbhckjpmgkgjaaGreatDoor
namespace Go.Proofs.YtkbhckjpmgkgjaaGreatDoor
open Go.RowKit
open Go.ChangeMaps (setBlock)

theorem last_set {α : Type} {l : List α} {k : Nat} (h : l.length = k + 1) (x : α) : l.getLast? = some (l[k]'(by omega)) ∧ l.dropLast ++ [x] = l.set k x := by
  have h0 : l ≠ [] := fun e => by rw [e] at h; simp at h
  obtain ⟨d, y, rfl⟩ : ∃ d y, l = d ++ [y] := ⟨l.dropLast, l.getLast h0, (List.dropLast_concat_getLast h0).symm⟩
  have hd : d.length = k := by simpa using h
  subst hd
  refine ⟨by rw [List.getLast?_concat]; simp, ?_⟩
  rw [List.dropLast_concat, List.set_append_right _ _ (Nat.le_refl _)]
  simp
/-- The needs of one package grow. -/
theorem OwR.grow {w w6 w8 : World} {D : List PV} {go oc : Nat} (h : OwR w w6 D (.slice (some ⟨go, 0, none⟩) D.length oc)) {n : Nat} (hn : n < D.length) {nd : List Ned} {v8 : Value} (h8 : w8.ownsRow w.heap.size 61 2 v8 nd.length (flatN nd)) (hg : w6.grownBy w8 (D[n].2).ownBlock) (hd : v8.ownBlock = (D[n].2).ownBlock ∨ v8.ownBlock = some w6.heap.size) :
    OwR w (w8.setCell ⟨go, n * 3 + 2, none⟩ v8) (D.set n (⟨D[n].1.nm, D[n].1.vr, nd⟩, v8)) (.slice (some ⟨go, 0, none⟩) D.length oc) := by
  have hown := h.own
  have hrow := ownsRow_row hown go rfl
  have hgo := own_block hown go rfl
  have hgne : (D[n].2).ownBlock ≠ some go := fun e => by
    obtain ⟨G, hG⟩ := ownsRow_row (h.nds D[n] (List.getElem_mem hn)) go e
    obtain ⟨E, hE⟩ := hrow
    rw [hE] at hG
    simp at hG
  have hgo8 : w8.heap[go]? = w6.heap[go]? := hg.block go hgo.2 fun e => hgne e.symm
  have hrow8 : ∀ k, v8.ownBlock = some k → k ≠ go := fun k hk e => by
    obtain ⟨C, hC⟩ := ownsRow_row h8 k hk
    obtain ⟨E, hE⟩ := hrow
    rw [e, hgo8, hE] at hC
    simp at hC
  have hown8 : w8.ownsRow w.heap.size 44 3 (.slice (some ⟨go, 0, none⟩) D.length oc) D.length (flatD D) := own_same hown fun k hk => by
    have : k = go := by simpa [Value.ownBlock] using hk.symm
    subst this
    exact hgo8
  have hset := own_set hown8 (n * 3 + 2) v8
  rw [← flatD_set D n hn nd v8] at hset
  have hlen : (D.set n (⟨D[n].1.nm, D[n].1.vr, nd⟩, v8)).length = D.length := List.length_set
  have h68 : Below w.heap.size w6 w8 := below_own' hg h.old.size fun k hk => (own_block (h.nds D[n] (List.getElem_mem hn)) k hk).1
  have hsep := List.pairwise_iff_getElem.1 h.sep
  refine ⟨by rw [hlen]; exact hset, fun d hd' => ?_, ?_, (h.old.trans h68).trans (below_set hgo.1 _ _)⟩
  · obtain ⟨j, hj, rfl⟩ := List.getElem_of_mem hd'
    rw [hlen] at hj
    by_cases hjn : j = n
    · subst hjn
      rw [List.getElem_set_self]
      exact own_same h8 fun k hk => Below.heap_setCell _ _ _ _ (by show k ≠ go; exact hrow8 k hk)
    · rw [List.getElem_set_ne (fun e => hjn e.symm)]
      have hv := h.nds D[j] (List.getElem_mem hj)
      refine own_same hv fun k hk => ?_
      have hkgo : k ≠ go := fun e => by
        obtain ⟨C, hC⟩ := ownsRow_row hv k hk
        obtain ⟨E, hE⟩ := hrow
        rw [e, hE] at hC
        simp at hC
      refine (Below.heap_setCell _ _ _ _ (by show k ≠ go; exact hkgo)).trans (hg.block k (own_block hv k hk).2 fun e2 => ?_)
      rcases Nat.lt_or_gt_of_ne hjn with hl | hl
      · exact hsep j n hj hn hl k k hk e2.symm rfl
      · exact hsep n j hn hj hl k k e2.symm hk rfl
  · refine List.pairwise_iff_getElem.2 fun i j hi hj hij a b ha hb => ?_
    have hi' : i < D.length := hlen ▸ hi
    have hj' : j < D.length := hlen ▸ hj
    by_cases hin : i = n
    · subst hin
      rw [List.getElem_set_self] at ha
      rw [List.getElem_set_ne (by omega)] at hb
      rcases hd with hd | hd
      · exact hsep i j hi' hj' hij a b (by rw [← hd]; exact ha) hb
      · have h1 := (own_block (h.nds D[j] (List.getElem_mem hj')) b hb).2
        have h2 : w6.heap.size = a := Option.some.inj (hd.symm.trans ha)
        omega
    · rw [List.getElem_set_ne (fun e => hin e.symm)] at ha
      by_cases hjn : j = n
      · subst hjn
        rw [List.getElem_set_self] at hb
        rcases hd with hd | hd
        · exact hsep i j hi' hj' hij a b ha (by rw [← hd]; exact hb)
        · have h1 := (own_block (h.nds D[i] (List.getElem_mem hi')) a ha).2
          have h2 : w6.heap.size = b := Option.some.inj (hd.symm.trans hb)
          omega
      · rw [List.getElem_set_ne (fun e => hjn e.symm)] at hb
        exact hsep i j hi' hj' hij a b ha hb
theorem keys_set {L : List Pak} {k : Nat} (hk : k < L.length) (nd : List Ned) : (L.set k ⟨L[k].nm, L[k].vr, nd⟩).map Pak.key = L.map Pak.key := by
  rw [List.map_set]
  have : Pak.key ⟨L[k].nm, L[k].vr, nd⟩ = (L.map Pak.key)[k]'(by rw [List.length_map]; exact hk) := by rw [List.getElem_map]; rfl
  rw [this, List.set_getElem_self]
/-- A need more. -/
theorem RdAt.grow {w w6 w8 : World} {R M : Nat} {D : List PV} {go oc : Nat} (h : RdAt w R M D (.slice (some ⟨go, 0, none⟩) D.length oc) w6) {n : Nat} (hn : n < D.length) {nd : List Ned} (hnd : nd.length ≤ 64) {v8 : Value} (h8 : w8.ownsRow w.heap.size 61 2 v8 nd.length (flatN nd)) (hg : w6.grownBy w8 (D[n].2).ownBlock) (hd : v8.ownBlock = (D[n].2).ownBlock ∨ v8.ownBlock = some w6.heap.size) :
    RdAt w R M (D.set n (⟨D[n].1.nm, D[n].1.vr, nd⟩, v8)) (.slice (some ⟨go, 0, none⟩) D.length oc) (w8.setCell ⟨go, n * 3 + 2, none⟩ v8) ∧ RdCh R M w6 (w8.setCell ⟨go, n * 3 + 2, none⟩ v8) ∧
    w8.cell? ⟨go, n * 3 + 2, none⟩ = some D[n].2 ∧ w8.frozen? ⟨go, n * 3 + 2, none⟩ = false := by
  obtain ⟨C, hC⟩ := ownsRow_row h.own.own go rfl
  have hgo := own_block h.own.own go rfl
  have hRgo : R ≠ go := fun e => by
    have := h.row
    rw [e] at this
    have h2 := this.symm.trans hC
    simp at h2
  have hMgo : go ≠ M := rel_block h.rel hC
  have hne : ∀ k, (D[n].2).ownBlock = some k → k ≠ R ∧ k ≠ M ∧ k ≠ go := fun k hk => by
    obtain ⟨G, hG⟩ := ownsRow_row (h.own.nds D[n] (List.getElem_mem hn)) k hk
    refine ⟨fun e => ?_, rel_block h.rel hG, fun e => ?_⟩
    · rw [e, h.row] at hG
      simp at hG
    · rw [e, hC] at hG
      simp at hG
  have hgo8 : Row w8 go C 44 := (hg.block go hgo.2 fun e => (hne go e.symm).2.2 rfl).trans hC
  have hlt6 : n * 3 + 2 < C.size := by
    have hc : w6.cell? ⟨go, n * 3 + 2, none⟩ = some D[n].2 := by
      rw [h.own.own.cellAt (n * 3 + 2) (by omega), flatD_at D n hn 2 (by omega)]
      rfl
    have hr6 : Row w6 go C 44 := hC
    rw [hr6.cell (n * 3 + 2)] at hc
    exact (Array.getElem?_eq_some_iff.1 hc).1
  have hc8 : w8.cell? ⟨go, n * 3 + 2, none⟩ = some D[n].2 := by
    have hc : w6.cell? ⟨go, n * 3 + 2, none⟩ = some D[n].2 := by
      rw [h.own.own.cellAt (n * 3 + 2) (by omega), flatD_at D n hn 2 (by omega)]
      rfl
    have hr6 : Row w6 go C 44 := hC
    rw [hgo8.cell, ← hr6.cell, hc]
  have hlen : (D.set n (⟨D[n].1.nm, D[n].1.vr, nd⟩, v8)).length = D.length := List.length_set
  have hkeys : ((D.set n (⟨D[n].1.nm, D[n].1.vr, nd⟩, v8)).map (·.1)).map Pak.key = (D.map (·.1)).map Pak.key := by
    rw [List.map_set]
    have hk : n < (D.map (·.1)).length := by rw [List.length_map]; exact hn
    have := keys_set (L := D.map (·.1)) hk nd
    rw [List.getElem_map] at this
    exact this
  refine ⟨⟨?_, ?_, by have := h.own.grow hn h8 hg hd; exact this, h.rb, h.mb, by rw [hlen]; exact h.len, fun d hd' => ?_⟩, ?_, hc8, hgo8.frozen _⟩
  · exact (Below.heap_setCell _ _ _ _ (by show R ≠ go; exact hRgo)).trans ((hg.block R h.row.lt fun e => (hne R e.symm).1 rfl).trans h.row)
  · rw [hkeys]
    exact h.rel.keep ((Below.heap_setCell _ _ _ _ (by show M ≠ go; exact fun e => hMgo e.symm)).trans (hg.block M h.rel.lt fun e => (hne M e.symm).2.1 rfl))
  · rcases List.mem_or_eq_of_mem_set hd' with hd' | rfl
    · exact h.nds d hd'
    · exact hnd
  · exact (RdCh.of_grown (Or.inr rfl) (h.own.nds D[n] (List.getElem_mem hn)) hg).trans (RdCh.of_pack hgo8 v8)
theorem one_nd (nm rg : ByteArray) (w : World) : (Instr.buildSlice 42 1 #[(0, .agg #[.string nm, .string rg])]).run Tryz.prog w = .ok (.slice (some ⟨w.heap.size, 0, none⟩) 1 1) (w.alloc (.cells #[.string nm, .string rg] 61)) := by
  obtain ⟨i0, hi, hz0, hz1, _⟩ := info_parts infoNdz
  refine run_buildSlice w 42 61 1 _ _ i0 _ Tryz.underlying42 hi hz0 (by rw [hz1]; decide) (by rw [hz1]; decide) ?_
  rw [hz1]
  kernel_rfl
set_option maxRecDepth 40000 in
set_option maxHeartbeats 8000000 in
theorem need_ok {w wr : World} {R M : Nat} {D : List PV} {ov : Value} (nm rg : ByteArray) (hn : nm.size ≤ 140737488355328) (hv : rg.size ≤ 140737488355328) (H : RdAt w R M D ov wr) : Calls Tryz.prog 74 #[.pointer (some ⟨R, 0, none⟩), .agg #[.string nm, .string rg]] wr (RkPost w R M wr (putNeed (D.map (·.1)) nm rg)) := by
  obtain ⟨n, hnD⟩ : ∃ n, n = D.length := ⟨_, rfl⟩
  obtain ⟨RP, hRP⟩ : ∃ RP, RP = RkPost w R M wr (putNeed (D.map (·.1)) nm rg) := ⟨_, rfl⟩
  have HRPo : Hid (∀ ov' D' w', D'.map (·.1) = (putNeed (D.map (·.1)) nm rg).2 → RdAt w R M D' ov' w' → RdCh R M wr w' → RP (.returned (.int .i64 (putNeed (D.map (·.1)) nm rg).1)) w') := fun ov' D' w' h1 h2 h3 => by rw [hRP]; exact ⟨ov', D', rfl, h1, h2, h3⟩
  rw [← hRP]
  clear hRP
  obtain ⟨pa, pc, rfl⟩ := slice_of H.own.own
  rw [← hnD] at H
  have hr3 : Row (wr.alloc (.cells #[.string nm, .string rg] 61)) wr.heap.size #[.string nm, .string rg] 61 := Row.new _ _ _
  have hb3 : Below wr.heap.size wr (wr.alloc (.cells #[.string nm, .string rg] 61)) := (Below.refl _ _).alloc (Nat.le_refl _) _
  obtain ⟨w3, hw3⟩ : ∃ x, x = wr.alloc (.cells #[.string nm, .string rg] 61) := ⟨_, rfl⟩
  rw [← hw3] at hr3 hb3
  have hw3' := hw3.symm
  have HR3 : Hid (Row w3 wr.heap.size #[.string nm, .string rg] 61) := hr3
  have HB3 : Hid (Below wr.heap.size wr w3) := hb3
  have H3 : Hid (RdAt w R M D (.slice pa n pc) w3) := H.next hb3
  have c0 : w3.cell? ⟨R, 0, none⟩ = some (.slice pa n pc) := (H3.out.row.cell 0).trans rfl
  have HH : Hid (RdAt w R M D (.slice pa n pc) wr) := H
  have HN : Hid (n = D.length) := hnD
  have HLen : Hid (D.length ≤ 1024) := H.len
  by_cases h0 : n = 0
  · have HQ : Hid (putNeed (D.map (·.1)) nm rg = (50, D.map (·.1))) := by
      have hD : D = [] := List.eq_nil_of_length_eq_zero (hnD.symm.trans h0)
      rw [hD]
      rfl
    have HF := HRPo.out (.slice pa n pc) D w3 (by rw [HQ.out]) H3.out (RdCh.of_below HB3.out)
    rw [HQ.out] at HF
    have HFF : Hid (RP (.returned (.int .i64 50)) w3) := HF
    subst h0
    clear HF hnD H hr3 hb3 hw3
    go_enter Tryz.func74, Tryz.ntmps74
    go_wp2
    exact HFF.out
  · obtain ⟨go, rfl⟩ : ∃ go, pa = some ⟨go, 0, none⟩ := by
      obtain ⟨_, ⟨hz, hz0⟩ | ⟨g, cap, cur, hg, _⟩⟩ := H.own.own
      · exact absurd (hnD.trans hz0) h0
      · simp only [Value.slice.injEq] at hg
        exact ⟨g, hg.1⟩
    obtain ⟨k, hk⟩ : ∃ k, n = k + 1 := ⟨n - 1, by omega⟩
    have hkD : k < D.length := by omega
    have hLk : (D.map (·.1)).length = k + 1 := by rw [List.length_map]; omega
    obtain ⟨p, hp⟩ : ∃ p, p = D[k].1 := ⟨_, rfl⟩
    obtain ⟨nv, hnv⟩ : ∃ nv, nv = D[k].2 := ⟨_, rfl⟩
    have hndk := H.own.nds D[k] (List.getElem_mem hkD)
    rw [← hp, ← hnv] at hndk
    obtain ⟨na, nc, rfl⟩ := slice_of hndk
    obtain ⟨nl, hnl⟩ : ∃ nl, nl = p.nd.length := ⟨_, rfl⟩
    rw [← hnl] at hndk hnv
    obtain ⟨fb, hfb⟩ : ∃ fb, fb = decide (nl = 64) := ⟨_, rfl⟩
    obtain ⟨e1, he1⟩ : ∃ e1, e1 = rightN ⟨nm, rg⟩ p.nd := ⟨_, rfl⟩
    obtain ⟨r, hr⟩ : ∃ r, r = lineErr e1 fb := ⟨_, rfl⟩
    have hls := fun x => last_set hLk x
    have HPn : Hid (putNeed (D.map (·.1)) nm rg = if r ≠ 0 then (r, D.map (·.1)) else (0, (D.map (·.1)).set k ⟨p.nm, p.vr, p.nd ++ [⟨nm, rg⟩]⟩)) := by
      show _ = _
      unfold putNeed
      rw [(hls p).1]
      simp only
      rw [List.getElem_map, ← hp, (hls _).2]
      unfold needEr
      rw [← hnl, ← hfb, ← he1, ← hr]
    have hfi : ((nl : Int) == 64) = fb := by
      rw [hfb, Bool.eq_iff_iff, beq_iff_eq, decide_eq_true_eq]
      omega
    have hfd : decide ((nl : Int) = 64) = fb := by
      rw [hfb, Bool.eq_iff_iff, decide_eq_true_eq, decide_eq_true_eq]
      omega
    have HNl : Hid (nl = p.nd.length) := hnl
    have hp64 : p.nd.length ≤ 64 := by rw [hp]; exact H.nds D[k] (List.getElem_mem hkD)
    have HZ : Hid (r = 0 → nl ≠ 64) := fun h => by
      obtain ⟨h1, h2⟩ := lineErr_zero (hr.symm.trans h)
      rw [hfb] at h2
      exact of_decide_eq_false h2
    have HP64 : Hid (p.nd.length ≤ 64) := hp64
    have HP : Hid (p = D[k].1) := hp
    have HNv : Hid (Value.slice na nl nc = D[k].2) := hnv
    have HKD : Hid (k < D.length) := hkD
    have HNK : Hid (n = k + 1) := hk
    have hoc : ∀ {wx : World}, RdAt w R M D (.slice (some ⟨go, 0, none⟩) n pc) wx → wx.cell? ⟨go, k * 3 + 2, none⟩ = some (.slice na nl nc) := fun {wx} hx => by
      have hx1 := hx.own.own
      rw [hnD] at hx1
      have hlt : k * 3 + 2 < D.length * 3 := by omega
      rw [hx1.cellAt (k * 3 + 2) hlt, flatD_at D k hkD 2 (by omega)]
      rw [HNv.out]
      rfl
    have HOc : Hid (∀ wx, RdAt w R M D (.slice (some ⟨go, 0, none⟩) n pc) wx → wx.cell? ⟨go, k * 3 + 2, none⟩ = some (.slice na nl nc)) := fun wx hx => hoc hx
    have hndin : ∀ {wx : World}, RdAt w R M D (.slice (some ⟨go, 0, none⟩) n pc) wx → NeedsIn wx (.slice na nl nc) p.nd := fun {wx} hx => by
      have h1 := hx.own.nds D[k] (List.getElem_mem hkD)
      have h2 : wx.ownsRow w.heap.size 61 2 (.slice na nl nc) p.nd.length (flatN p.nd) := by
        rw [HNv.out, HP.out]
        exact h1
      exact needs_own h2
    have HRN : Hid (∀ wx, Below w3.heap.size w3 wx → Calls Tryz.prog 31 #[.agg #[.string nm, .string rg], .slice na nl nc] wx fun e w' => e = .returned (.int .i64 e1) ∧ Below wx.heap.size wx w') := fun wx hx => by
      rw [he1]
      exact rightNeed_ok nm rg hn hv wx (hndin (H3.out.next hx)) (by have := HP64.out; omega)
    have HLE : Hid (∀ wx, Calls Tryz.prog 105 #[.int .i64 e1, .bool fb] wx fun e w' => e = .returned (.int .i64 r) ∧ w' = wx) := fun wx => by rw [hr]; exact lineErrno_ok e1 fb wx
    have b0 : ((n : Int) == 0) = false := beqI (by omega)
    have hwk : IntKind.i64.wrap ((n : Int) - 1) = (k : Int) := by rw [IntKind.wrap_i64]; have := HLen.out; omega
    have hkn : (k : Int) < (n : Int) := by omega
    have hlowR := H.own.old.size
    clear hnD H hr3 hb3 hw3 hp hnv hndk hnl hfb he1 hr hls hp64 hLk hn hv h0 hk hoc hndin
    go_enter Tryz.func74, Tryz.ntmps74
    go_wp2_with fail
    refine wp_region_quiet (C := fun wx => Below w3.heap.size w3 wx) (by kernel_rfl) (by kernel_rfl) ((Below.refl _ _).drew) ?_
    simp only []
    refine q_value ?_ (by rfl) (fun wx hw => ?_) ?_
    rotate_left
    · go_simp
      with_reducible rfl
    simp only [Act.put, List.setIfInBounds_toArray, List.set_cons_zero, List.set_cons_succ]
    refine q_value ?_ (by rfl) (fun wx hw => ?_) ?_
    rotate_left
    · go_simp
      with_reducible rfl
    simp only [Act.put, List.setIfInBounds_toArray, List.set_cons_zero, List.set_cons_succ]
    refine q_value ?_ (by rfl) (fun wx hw => ?_) ?_
    rotate_left
    · go_simp
      with_reducible rfl
    simp only [Act.put, List.setIfInBounds_toArray, List.set_cons_zero, List.set_cons_succ]
    refine q_value (.slice (some ⟨go, 0, none⟩) n pc) (by rfl) (fun wx hw => ?_) ?_
    · have hc := ((Row.below H3.out.row hw (Row.lt H3.out.row)).cell 0).trans (show _ = some (Value.slice (some ⟨go, 0, none⟩) n pc) from rfl)
      go_simp
    simp only [Act.put, List.setIfInBounds_toArray, List.set_cons_zero, List.set_cons_succ]
    refine q_value ?_ (by rfl) (fun wx hw => ?_) ?_
    rotate_left
    · go_simp
      with_reducible rfl
    simp only [Act.put, List.setIfInBounds_toArray, List.set_cons_zero, List.set_cons_succ]
    refine q_value ?_ (by rfl) (fun wx hw => ?_) ?_
    rotate_left
    · go_simp
      with_reducible rfl
    simp only [Act.put, List.setIfInBounds_toArray, List.set_cons_zero, List.set_cons_succ]
    refine q_value ?_ (by rfl) (fun wx hw => ?_) ?_
    rotate_left
    · go_simp
      with_reducible rfl
    simp only [Act.put, List.setIfInBounds_toArray, List.set_cons_zero, List.set_cons_succ]
    refine q_value (.slice (some ⟨go, 0, none⟩) n pc) (by rfl) (fun wx hw => ?_) ?_
    · have hc := ((Row.below H3.out.row hw (Row.lt H3.out.row)).cell 0).trans (show _ = some (Value.slice (some ⟨go, 0, none⟩) n pc) from rfl)
      go_simp
    simp only [Act.put, List.setIfInBounds_toArray, List.set_cons_zero, List.set_cons_succ]
    refine q_value ?_ (by rfl) (fun wx hw => ?_) ?_
    rotate_left
    · go_simp
      with_reducible rfl
    simp only [Act.put, List.setIfInBounds_toArray, List.set_cons_zero, List.set_cons_succ]
    refine q_value (.int .i64 (k : Int)) (by rfl) (fun wx hw => ?_) ?_
    · go_simp
    simp only [Act.put, List.setIfInBounds_toArray, List.set_cons_zero, List.set_cons_succ]
    refine q_value (.pointer (some ⟨go, k * 3, none⟩)) (by rfl) (fun wx hw => ?_) ?_
    · go_simp
    simp only [Act.put, List.setIfInBounds_toArray, List.set_cons_zero, List.set_cons_succ]
    refine q_value ?_ (by rfl) (fun wx hw => ?_) ?_
    rotate_left
    · go_simp
      with_reducible rfl
    simp only [Act.put, List.setIfInBounds_toArray, List.set_cons_zero, List.set_cons_succ]
    refine wpQuiet_nil ?_
    intro wA hA
    try simp only [Exit.then]
    have HA : Hid (Below w3.heap.size w3 wA) := hA
    clear hA c0
    go_wp2_with fail
    refine wp_region_quiet (C := fun wx => Below w3.heap.size w3 wx) (by kernel_rfl) (by kernel_rfl) (HA.out.drew) ?_
    simp only []
    refine q_load 61 _ rfl (by rfl) wr.heap.size #[.string nm, .string rg] 61 _ rfl (fun wx hw => Row.below HR3.out hw (Row.lt HR3.out)) Tryz.underlying61 rfl infoNd ?_
    simp only [Act.put, List.setIfInBounds_toArray, List.set_cons_zero, List.set_cons_succ]
    refine q_value ?_ (by rfl) (fun wx hw => ?_) ?_
    rotate_left
    · go_simp
      with_reducible rfl
    simp only [Act.put, List.setIfInBounds_toArray, List.set_cons_zero, List.set_cons_succ]
    refine q_value ?_ (by rfl) (fun wx hw => ?_) ?_
    rotate_left
    · go_simp
      with_reducible rfl
    simp only [Act.put, List.setIfInBounds_toArray, List.set_cons_zero, List.set_cons_succ]
    refine q_value (.pointer (some ⟨go, k * 3 + 2, none⟩)) (by rfl) (fun wx hw => ?_) ?_
    · go_simp
    simp only [Act.put, List.setIfInBounds_toArray, List.set_cons_zero, List.set_cons_succ]
    refine q_value (.slice na nl nc) (by rfl) (fun wx hw => ?_) ?_
    · have hc := HOc.out wx (RdAt.next H3.out hw)
      go_simp
    simp only [Act.put, List.setIfInBounds_toArray, List.set_cons_zero, List.set_cons_succ]
    refine q_call (.int .i64 e1) (by rfl) 31 #[.agg #[.string nm, .string rg], .slice na nl nc] (fun w h => by go_simp) (fun wx hw => (HRN.out wx hw).mono fun e w' ⟨he, hb⟩ => ⟨he, hw.trans (hb.mono hw.size)⟩) ?_
    simp only [Act.put, List.setIfInBounds_toArray, List.set_cons_zero, List.set_cons_succ]
    refine q_value ?_ (by rfl) (fun wx hw => ?_) ?_
    rotate_left
    · go_simp
      with_reducible rfl
    simp only [Act.put, List.setIfInBounds_toArray, List.set_cons_zero, List.set_cons_succ]
    refine q_value ?_ (by rfl) (fun wx hw => ?_) ?_
    rotate_left
    · go_simp
      with_reducible rfl
    simp only [Act.put, List.setIfInBounds_toArray, List.set_cons_zero, List.set_cons_succ]
    refine q_value (.pointer (some ⟨go, k * 3 + 2, none⟩)) (by rfl) (fun wx hw => ?_) ?_
    · go_simp
    simp only [Act.put, List.setIfInBounds_toArray, List.set_cons_zero, List.set_cons_succ]
    refine q_value (.slice na nl nc) (by rfl) (fun wx hw => ?_) ?_
    · have hc := HOc.out wx (RdAt.next H3.out hw)
      go_simp
    simp only [Act.put, List.setIfInBounds_toArray, List.set_cons_zero, List.set_cons_succ]
    refine q_value ?_ (by rfl) (fun wx hw => ?_) ?_
    rotate_left
    · go_simp
      with_reducible rfl
    simp only [Act.put, List.setIfInBounds_toArray, List.set_cons_zero, List.set_cons_succ]
    refine q_value (.bool fb) (by rfl) (fun wx hw => ?_) ?_
    · go_simp
    simp only [Act.put, List.setIfInBounds_toArray, List.set_cons_zero, List.set_cons_succ]
    refine q_call (.int .i64 r) (by rfl) 105 #[.int .i64 e1, .bool fb] (fun w h => by go_simp) (fun wx hw => (HLE.out wx).mono fun e w' ⟨he, hb⟩ => ⟨he, by rw [hb]; exact hw⟩) ?_
    simp only [Act.put, List.setIfInBounds_toArray, List.set_cons_zero, List.set_cons_succ]
    refine q_value ?_ (by rfl) (fun wx hw => ?_) ?_
    rotate_left
    · go_simp
      with_reducible rfl
    simp only [Act.put, List.setIfInBounds_toArray, List.set_cons_zero, List.set_cons_succ]
    refine wpQuiet_nil ?_
    intro wB hB
    try simp only [Exit.then]
    have HB : Hid (Below w3.heap.size w3 wB) := hB
    clear hB hfi hfd hwk hkn b0
    by_cases hz : r = 0
    case neg =>
      have hzb := beqI hz
      have HQ : Hid (putNeed (D.map (·.1)) nm rg = (r, D.map (·.1))) := by
        show _ = _
        rw [HPn.out, if_pos hz]
      have HF := HRPo.out (.slice (some ⟨go, 0, none⟩) n pc) D wB (by rw [HQ.out]) (H3.out.next HB.out) (RdCh.of_below (HB3.out.trans (HB.out.mono HB3.out.size)))
      rw [HQ.out] at HF
      have HFF : Hid (RP (.returned (.int .i64 r)) wB) := HF
      clear HF hz
      go_wp2
      exact HFF.out
    case pos =>
      have HQ : Hid (putNeed (D.map (·.1)) nm rg = (0, (D.map (·.1)).set k ⟨p.nm, p.vr, p.nd ++ [⟨nm, rg⟩]⟩)) := by
        show _ = _
        rw [HPn.out, if_neg (fun h => h hz)]
      have HN64 : Hid (nl ≠ 64) := HZ.out hz
      subst hz
      obtain ⟨w5, hw5⟩ : ∃ x, x = wB.drew := ⟨_, rfl⟩
      have h5 : RdAt w R M D (.slice (some ⟨go, 0, none⟩) n pc) w5 := by rw [hw5]; exact (H3.out.next HB.out).next ((Below.refl _ _).drew)
      have hr5 : Row w5 wr.heap.size #[.string nm, .string rg] 61 := by rw [hw5]; exact (HR3.out.below HB.out HR3.out.lt).drew
      have hb5 : Below wr.heap.size wr w5 := by rw [hw5]; exact (HB3.out.trans (HB.out.mono HB3.out.size)).drew
      have H5 : Hid (RdAt w R M D (.slice (some ⟨go, 0, none⟩) n pc) w5) := h5
      have HK5 : Hid (Row w5 wr.heap.size #[.string nm, .string rg] 61) := hr5
      have HB5 : Hid (Below wr.heap.size wr w5) := hb5
      have HW5 : Hid (w5 = wB.drew) := hw5
      clear h5 hr5 hb5 hw5
      go_wp2_with fail
      refine wp_region_late [10] [(0, 0), (0, 1), (0, 2), (0, 3), (0, 4), (0, 5), (1, 6), (1, 7), (2, 8), (0, 9), (1, 10)] (fun wx => wx.cell? ⟨go, k * 3 + 2, none⟩ = some (.slice na nl nc) ∧ Row wx wr.heap.size #[.string nm, .string rg] 61) (by kernel_rfl) (by kernel_rfl) (by rw [← HW5.out]; exact ⟨HOc.out w5 H5.out, HK5.out⟩) ?_
      rw [← HW5.out]
      refine l_value (some 40) ?_ rfl rfl (by rfl) (fun wx hw => ?_) ?_
      rotate_left
      · go_simp
        with_reducible rfl
      simp only [Act.put, List.setIfInBounds_toArray, List.set_cons_zero, List.set_cons_succ]
      refine l_value (some 41) ?_ rfl rfl (by rfl) (fun wx hw => ?_) ?_
      rotate_left
      · go_simp
        with_reducible rfl
      simp only [Act.put, List.setIfInBounds_toArray, List.set_cons_zero, List.set_cons_succ]
      refine l_value (some 42) ?_ rfl rfl (by rfl) (fun wx hw => ?_) ?_
      rotate_left
      · go_simp
        with_reducible rfl
      simp only [Act.put, List.setIfInBounds_toArray, List.set_cons_zero, List.set_cons_succ]
      refine l_value (some 43) (.pointer (some ⟨go, k * 3 + 2, none⟩)) rfl rfl (by rfl) (fun wx hw => ?_) ?_
      · go_simp
      simp only [Act.put, List.setIfInBounds_toArray, List.set_cons_zero, List.set_cons_succ]
      refine l_value (some 44) (.slice na nl nc) rfl rfl (by rfl) (fun wx hw => ?_) ?_
      · have hc := hw.1
        go_simp
      simp only [Act.put, List.setIfInBounds_toArray, List.set_cons_zero, List.set_cons_succ]
      refine l_load_mid (some 45) 61 _ rfl rfl rfl (by rfl) wr.heap.size 0 rfl (encN ⟨nm, rg⟩) _ (fun wx hw j u hj => by rw [Nat.zero_add, Row.cell hw.2 j, ← hj]; exact List.getElem?_toArray) Tryz.underlying61 rfl infoNd ?_
      simp only [Act.put, List.setIfInBounds_toArray, List.set_cons_zero, List.set_cons_succ]
      have hone := one_nd nm rg w5
      obtain ⟨w6, hw6⟩ : ∃ x, x = w5.alloc (.cells #[.string nm, .string rg] 61) := ⟨_, rfl⟩
      have hb6 : Below w5.heap.size w5 w6 := by rw [hw6]; exact (Below.refl _ _).alloc (Nat.le_refl _) _
      have hnew : ∀ j u, (encN ⟨nm, rg⟩)[j]? = some u → w6.cell? ⟨w5.heap.size, 0 + j, none⟩ = some u := fun j u hj => by
        have hr : Row w6 w5.heap.size #[.string nm, .string rg] 61 := by rw [hw6]; exact Row.new _ _ _
        rw [Nat.zero_add, hr.cell j, ← hj]
        exact List.getElem?_toArray
      have H6 : Hid (RdAt w R M D (.slice (some ⟨go, 0, none⟩) n pc) w6) := H5.out.next hb6
      have hown6 : w6.ownsRow w.heap.size 61 2 (.slice na nl nc) nl (flatN p.nd) := by
        have h1 := H6.out.own.nds D[k] (List.getElem_mem hkD)
        rw [HNv.out, HNl.out, HP.out]
        exact h1
      have hlow6 : w.heap.size ≤ w6.heap.size := H6.out.own.old.size
      refine l_alone (some 46) (.slice (some ⟨w5.heap.size, 0, none⟩) 1 1) w6 rfl rfl (by rfl) (by rw [hw6]; go_simp) (fun _ => ⟨HOc.out w6 H6.out, HK5.out.below hb6 HK5.out.lt⟩) ?_
      simp only [Act.put, List.setIfInBounds_toArray, List.set_cons_zero, List.set_cons_succ]
      refine l_wp rfl (by rfl) ?_
      refine wp_append_any (some 47) rfl (.tmp 44) (.tmp 46) 42 61 (.agg zeroNd) 2 32 Tryz.underlying42 infoNdz rfl (by decide) rfl w.heap.size (.slice na nl nc) nl (flatN p.nd) rfl hown6 (some ⟨w5.heap.size, 0, none⟩) w5.heap.size 0 1 1 (encN ⟨nm, rg⟩) rfl rfl (fun _ => rfl) hnew (fun u hu => by simp at hu; rcases hu with rfl | rfl <;> rfl) (fun h => nomatch h) (by have := HNl.out; have := HP64.out; unfold maxLen; omega) (by have := HNl.out; have := HP64.out; omega) hlow6 ?_
      intro v8 w8 ho8 hg8 hd8
      have hg8' := hg8
      have hd8' := hd8
      rw [HNv.out] at hg8' hd8'
      have ho8' : w8.ownsRow w.heap.size 61 2 v8 (p.nd ++ [(⟨nm, rg⟩ : Ned)]).length (flatN (p.nd ++ [(⟨nm, rg⟩ : Ned)])) := by
        rw [List.length_append, flatN_app, ← HNl.out]
        exact ho8
      have h6n := H6.out
      rw [HN.out] at h6n
      obtain ⟨hfin, hch, hcr, hfr⟩ := RdAt.grow (nd := p.nd ++ [(⟨nm, rg⟩ : Ned)]) h6n hkD (by rw [List.length_append]; have := HNl.out; have := HP64.out; have := HN64.out; simp; omega) ho8' hg8' hd8'
      rw [← HN.out] at hfin
      rw [← HNv.out] at hcr
      have hch8 : RdCh R M wr (w8.setCell ⟨go, k * 3 + 2, none⟩ v8) := (RdCh.of_below (HB5.out.trans (hb6.mono HB5.out.size))).trans hch
      have HF := HRPo.out _ _ _ (by rw [HQ.out, List.map_set, HP.out]) hfin hch8
      rw [HQ.out] at HF
      have HFF : Hid (RP (.returned (.int .i64 0)) (w8.setCell ⟨go, k * 3 + 2, none⟩ v8)) := HF
      have HK8 : Hid (Row w8 wr.heap.size #[.string nm, .string rg] 61) := (hg8.block wr.heap.size (HK5.out.below hb6 HK5.out.lt).lt fun e => by
        have h1 := HH.out.own.nds D[k] (List.getElem_mem hkD)
        rw [HNv.out] at e
        have h := (own_block h1 _ e.symm).2
        omega).trans (HK5.out.below hb6 HK5.out.lt)
      obtain ⟨va, vc, rfl⟩ := slice_of ho8
      clear HF hfin hch8 ho8 ho8' hg8 hg8' hd8 hd8' hch h6n
      refine ⟨fun _ => ⟨hcr, HK8.out⟩, ?_⟩
      simp only [Act.put, List.setIfInBounds_toArray, List.set_cons_zero, List.set_cons_succ]
      refine f_value (some 48) ?_ rfl rfl (by rfl) (fun wx hw => ?_) ?_
      rotate_left
      · go_simp
        with_reducible rfl
      simp only [Act.put, List.setIfInBounds_toArray, List.set_cons_zero, List.set_cons_succ]
      refine l_value (some 49) (.pointer (some ⟨go, k * 3 + 2, none⟩)) rfl rfl (by rfl) (fun wx hw => ?_) ?_
      · go_simp
      simp only [Act.put, List.setIfInBounds_toArray, List.set_cons_zero, List.set_cons_succ]
      refine l_store (w8.setCell ⟨go, k * 3 + 2, none⟩ (.slice va (nl + 1) vc)) rfl rfl (by rfl) (by go_simp) (fun h => by cases h) ?_
      refine l_done ?_
      try simp only [Exit.then]
      go_wp2
      exact HFF.out
end Go.Proofs.YtkbhckjpmgkgjaaGreatDoor
namespace Go.Proofs.YtkbhckjpmgkgjaaGreatDoor
open Go.RowKit

theorem three_of {α : Type} {l : List α} (h : l.length = 3) : ∃ a b c, l = [a, b, c] := by
  cases l with
  | nil => simp at h
  | cons a l => cases l with
    | nil => simp at h
    | cons b l => cases l with
      | nil => simp at h
      | cons c l => cases l with
        | nil => exact ⟨a, b, c, rfl⟩
        | cons d l => simp at h
theorem saidE_not3 {st : List Pak} {ws : List By} (h : ws.length ≠ 3) : saidE st ws = (50, st) := by
  unfold saidE
  split
  · exact absurd rfl h
  · rfl
set_option maxRecDepth 40000 in
set_option maxHeartbeats 8000000 in
theorem line_ok {w wr : World} {R M : Nat} {D : List PV} {ov : Value} (s : ByteArray) (hs : s.size ≤ 65536) (H : RdAt w R M D ov wr) : Calls Tryz.prog 45 #[.pointer (some ⟨R, 0, none⟩), .string s] wr (RkPost w R M wr (lineE (D.map (·.1)) (vb s))) := by
  obtain ⟨RP, hRP⟩ : ∃ RP, RP = RkPost w R M wr (lineE (D.map (·.1)) (vb s)) := ⟨_, rfl⟩
  have HRPo : Hid (∀ ov' D' w', D'.map (·.1) = (lineE (D.map (·.1)) (vb s)).2 → RdAt w R M D' ov' w' → RdCh R M wr w' → RP (.returned (.int .i64 (lineE (D.map (·.1)) (vb s)).1)) w') := fun ov' D' w' h1 h2 h3 => by rw [hRP]; exact ⟨ov', D', rfl, h1, h2, h3⟩
  rw [← hRP]
  have HH : Hid (RdAt w R M D ov wr) := H
  have hcs := cutSuf_ok s 10 wr hs
  have hlv := vb_len s
  clear hRP H
  by_cases h10 : (vb s).getLast? = some 10
  case neg =>
    have HL : Hid (lineE (D.map (·.1)) (vb s) = (50, D.map (·.1))) := if_neg h10
    have HE : Hid (sufE s 10 = .returned (.tuple #[.string s, .bool false])) := if_neg h10
    have hsp := split_ok 32 s wr hs
    clear h10 hlv
    go_enter Tryz.func45, Tryz.ntmps45
    go_wp2_with fail
    refine hcs.mono ?_
    rintro e w1 ⟨he, hw1⟩
    rw [hw1, he, HE.out]
    clear hw1 he hcs
    go_wp2_with fail
    refine hsp.mono ?_
    rintro e w2 ⟨g, P, cp, rfl, hP, hc, hg, hg2, hb2, hcp⟩
    have HF : Hid (RP (.returned (.int .i64 50)) w2) := by
      have h := HRPo.out ov D w2 (by rw [HL.out]) (HH.out.next hb2) (RdCh.of_below hb2)
      rw [HL.out] at h
      exact h
    clear hsp hP hc hg hg2 hb2 hcp
    go_wp2
    exact HF.out
  case pos =>
    obtain ⟨t, ht⟩ : ∃ t, t = s.extract 0 (s.size - 1) := ⟨_, rfl⟩
    have htv : vb t = (vb s).dropLast := by
      rw [ht, vb_extract, List.drop_zero, List.dropLast_eq_take, hlv]
    have hts : t.size ≤ 65536 := by rw [ht, ByteArray.size_extract]; omega
    have HL : Hid (lineE (D.map (·.1)) (vb s) = saidE (D.map (·.1)) (cutAll 32 (vb t))) := by
      show _ = _
      rw [htv]
      exact if_pos h10
    have HE : Hid (sufE s 10 = .returned (.tuple #[.string t, .bool true])) := by
      show _ = _
      rw [ht]
      exact if_pos h10
    have hsp := split_ok 32 t wr hts
    have HTs : Hid ((vb t).length ≤ 65536) := by show _ ≤ _; rw [vb_len]; exact hts
    clear h10 hlv ht htv
    go_enter Tryz.func45, Tryz.ntmps45
    go_wp2_with fail
    refine hcs.mono ?_
    rintro e w1 ⟨he, hw1⟩
    rw [hw1, he, HE.out]
    clear hw1 he hcs
    go_wp2_with fail
    refine hsp.mono ?_
    rintro e w2 ⟨g, P, cp, rfl, hP, hc, hg, hg2, hb2, hcp⟩
    have HB2 : Hid (Below wr.heap.size wr w2) := hb2
    have H2 : Hid (RdAt w R M D ov w2) := HH.out.next hb2
    have HLP : Hid (lineE (D.map (·.1)) (vb s) = saidE (D.map (·.1)) (P.map vb)) := by show _ = _; rw [hP]; exact HL.out
    have HG2 : Hid (g < w2.heap.size) := hg2
    clear hsp hg hb2 hts
    by_cases h3 : P.length = 3
    case neg =>
      have HF : Hid (RP (.returned (.int .i64 50)) w2) := by
        have hS : lineE (D.map (·.1)) (vb s) = (50, D.map (·.1)) := by rw [HLP.out]; exact saidE_not3 (by rw [List.length_map]; exact h3)
        have h := HRPo.out ov D w2 (by rw [hS]) H2.out (RdCh.of_below HB2.out)
        rw [hS] at h
        exact h
      obtain ⟨q, hq⟩ : ∃ q, q = P.length := ⟨_, rfl⟩
      rw [← hq] at h3 ⊢
      have b3 : ((q : Int) == 3) = false := beqI (by omega)
      have b3' : ¬ (q : Int) = 3 := by omega
      clear hP hc hg2 hcp hq
      go_wp2
      exact HF.out
    case pos =>
      obtain ⟨a, nm, vr, rfl⟩ := three_of h3
      have c0 : w2.cell? ⟨g, 0, none⟩ = some (.string a) := hc 0 (by simp)
      have c1 : w2.cell? ⟨g, 1, none⟩ = some (.string nm) := hc 1 (by simp)
      have c2 : w2.cell? ⟨g, 2, none⟩ = some (.string vr) := hc 2 (by simp)
      obtain ⟨hw3, _⟩ := three_words (show cutAll 32 (vb t) = [vb a, vb nm, vb vr] from hP.symm)
      have hlen := congrArg List.length hw3
      simp only [List.length_append, List.length_cons] at hlen
      have hsz := HTs.out
      have hnm : nm.size ≤ 140737488355328 := by rw [← vb_len]; omega
      have hvr : vr.size ≤ 140737488355328 := by rw [← vb_len]; omega
      have HC0 : Hid (w2.cell? ⟨g, 0, none⟩ = some (.string a)) := c0
      have HC1 : Hid (w2.cell? ⟨g, 1, none⟩ = some (.string nm)) := c1
      have HC2 : Hid (w2.cell? ⟨g, 2, none⟩ = some (.string vr)) := c2
      have HK1 : Hid (∀ wx, Calls Tryz.prog 58 #[.string nm] wx fun e w' => e = .returned (.string nm) ∧ Below wx.heap.size wx w') := fun wx => clone_ok nm wx hnm
      have HK2 : Hid (∀ wx, Calls Tryz.prog 58 #[.string vr] wx fun e w' => e = .returned (.string vr) ∧ Below wx.heap.size wx w') := fun wx => clone_ok vr wx hvr
      have HS : Hid (lineE (D.map (·.1)) (vb s) = if vb a = wPack then putPack (D.map (·.1)) nm vr else if vb a = wNeed then putNeed (D.map (·.1)) nm vr else (50, D.map (·.1))) := by
        show _ = _
        rw [HLP.out]
        show saidE _ [vb a, vb nm, vb vr] = _
        unfold saidE
        simp only [tx_vb]
      have hcp3 : 3 ≤ cp := hcp
      have hcpi : (3 : Int) ≤ (cp : Int) := by omega
      clear hP hc hg2 hcp hw3 hlen hsz c0 c1 c2
      simp only [List.length_cons, List.length_nil, Nat.zero_add, Nat.reduceAdd]
      go_wp2_with fail
      refine wp_region_quiet (C := fun wx => Below w2.heap.size w2 wx) (by kernel_rfl) (by kernel_rfl) ((Below.refl _ _).drew) ?_
      simp only []
      refine q_value ?_ (by rfl) (fun wx hw => ?_) ?_
      rotate_left
      · go_simp
        with_reducible rfl
      simp only [Act.put, List.setIfInBounds_toArray, List.set_cons_zero, List.set_cons_succ]
      refine q_value (.pointer (some ⟨g, 1, none⟩)) (by rfl) (fun wx hw => ?_) ?_
      · go_simp
      simp only [Act.put, List.setIfInBounds_toArray, List.set_cons_zero, List.set_cons_succ]
      refine q_value (.string nm) (by rfl) (fun wx hw => ?_) ?_
      · have hc := (Below.cell (p := ⟨g, 1, none⟩) hw HG2.out).trans HC1.out
        go_simp
      simp only [Act.put, List.setIfInBounds_toArray, List.set_cons_zero, List.set_cons_succ]
      refine q_call (.string nm) (by rfl) 58 #[.string nm] (fun w h => by go_simp) (fun wx hw => (HK1.out wx).mono fun e w' ⟨he, hb⟩ => ⟨he, hw.trans (hb.mono hw.size)⟩) ?_
      simp only [Act.put, List.setIfInBounds_toArray, List.set_cons_zero, List.set_cons_succ]
      refine q_value ?_ (by rfl) (fun wx hw => ?_) ?_
      rotate_left
      · go_simp
        with_reducible rfl
      simp only [Act.put, List.setIfInBounds_toArray, List.set_cons_zero, List.set_cons_succ]
      refine q_value (.pointer (some ⟨g, 2, none⟩)) (by rfl) (fun wx hw => ?_) ?_
      · go_simp
      simp only [Act.put, List.setIfInBounds_toArray, List.set_cons_zero, List.set_cons_succ]
      refine q_value (.string vr) (by rfl) (fun wx hw => ?_) ?_
      · have hc := (Below.cell (p := ⟨g, 2, none⟩) hw HG2.out).trans HC2.out
        go_simp
      simp only [Act.put, List.setIfInBounds_toArray, List.set_cons_zero, List.set_cons_succ]
      refine q_call (.string vr) (by rfl) 58 #[.string vr] (fun w h => by go_simp) (fun wx hw => (HK2.out wx).mono fun e w' ⟨he, hb⟩ => ⟨he, hw.trans (hb.mono hw.size)⟩) ?_
      simp only [Act.put, List.setIfInBounds_toArray, List.set_cons_zero, List.set_cons_succ]
      refine q_value ?_ (by rfl) (fun wx hw => ?_) ?_
      rotate_left
      · go_simp
        with_reducible rfl
      simp only [Act.put, List.setIfInBounds_toArray, List.set_cons_zero, List.set_cons_succ]
      refine q_value ?_ (by rfl) (fun wx hw => ?_) ?_
      rotate_left
      · go_simp
        with_reducible rfl
      simp only [Act.put, List.setIfInBounds_toArray, List.set_cons_zero, List.set_cons_succ]
      refine wpQuiet_nil ?_
      intro wB hB
      try simp only [Exit.then]
      have HB : Hid (Below w2.heap.size w2 wB) := hB
      have HR : Hid (RdAt w R M D ov wB) := H2.out.next hB
      have hcB : wB.cell? ⟨g, 0, none⟩ = some (.string a) := (Below.cell (p := ⟨g, 0, none⟩) hB HG2.out).trans HC0.out
      clear hB
      by_cases hp : vb a = wPack
      case pos =>
        have ha : a = ⟨#[112, 97, 99, 107, 97, 103, 101]⟩ := vb_inj (hp.trans rfl)
        subst ha
        have HQ : Hid (lineE (D.map (·.1)) (vb s) = putPack (D.map (·.1)) nm vr) := HS.out.trans (if_pos hp)
        clear hp
        have hpk := pack_ok nm vr hnm hvr HR.out
        clear hnm hvr
        go_wp2_with fail
        refine hpk.mono ?_
        rintro e w9 ⟨ov', D', rfl, h1, h2, h3⟩
        have HF := HRPo.out ov' D' w9 (by rw [HQ.out]; exact h1) h2 ((RdCh.of_below (HB2.out.trans (HB.out.mono HB2.out.size))).trans h3)
        rw [HQ.out] at HF
        have HFF : Hid _ := HF
        obtain ⟨rr, hrr⟩ : ∃ rr, rr = (putPack (D.map (·.1)) nm vr).1 := ⟨_, rfl⟩
        rw [← hrr] at HFF ⊢
        clear HF h1 h2 h3 hpk hrr
        go_wp2
        exact HFF.out
      case neg =>
        obtain ⟨q1, q2⟩ := bytes_ne hp
        have q1' : ¬ a.toList = [112, 97, 99, 107, 97, 103, 101] := q1
        have q2' : (a.toList == [112, 97, 99, 107, 97, 103, 101]) = false := q2
        by_cases hn : vb a = wNeed
        case pos =>
          have ha : a = ⟨#[110, 101, 101, 100, 115]⟩ := vb_inj (hn.trans rfl)
          subst ha
          have HQ : Hid (lineE (D.map (·.1)) (vb s) = putNeed (D.map (·.1)) nm vr) := HS.out.trans ((if_neg hp).trans (if_pos hn))
          clear hp hn q1 q2 q1' q2'
          have hpk := need_ok nm vr hnm hvr HR.out
          clear hnm hvr
          go_wp2_with fail
          refine hpk.mono ?_
          rintro e w9 ⟨ov', D', rfl, h1, h2, h3⟩
          have HF := HRPo.out ov' D' w9 (by rw [HQ.out]; exact h1) h2 ((RdCh.of_below (HB2.out.trans (HB.out.mono HB2.out.size))).trans h3)
          rw [HQ.out] at HF
          have HFF : Hid _ := HF
          obtain ⟨rr, hrr⟩ : ∃ rr, rr = (putNeed (D.map (·.1)) nm vr).1 := ⟨_, rfl⟩
          rw [← hrr] at HFF ⊢
          clear HF h1 h2 h3 hpk hrr
          go_wp2
          exact HFF.out
        case neg =>
          obtain ⟨r1, r2⟩ := bytes_ne hn
          have r1' : ¬ a.toList = [110, 101, 101, 100, 115] := r1
          have r2' : (a.toList == [110, 101, 101, 100, 115]) = false := r2
          have HQ : Hid (lineE (D.map (·.1)) (vb s) = (50, D.map (·.1))) := HS.out.trans ((if_neg hp).trans (if_neg hn))
          have HF := HRPo.out ov D wB (by rw [HQ.out]) HR.out (RdCh.of_below (HB2.out.trans (HB.out.mono HB2.out.size)))
          rw [HQ.out] at HF
          have HFF : Hid _ := HF
          clear HF hp hn q1 q2 r1 r2 hnm hvr
          go_wp2
          exact HFF.out
end Go.Proofs.YtkbhckjpmgkgjaaGreatDoor
namespace Go.Proofs.YtkbhckjpmgkgjaaGreatDoor
open Go.RowKit
variable {F : Fence} {n : Nat} {P : Program}

/-- What a function that is ranged over tells: texts of which Px holds; between the rounds it changes the world by Ch alone. -/
def SeqOwn {α : Type} (F : Fence) (n : Nat) (P : Program) (g : Nat) (lb : Array Value) (encs : α → Array Value) (Px : α → Prop) (Ch Kp : World → World → Prop) (S Sp : List α → Prop) (N : Nat) (w : World) : Prop :=
  ∀ (l : Nat) (J Jx : List α → World → Prop) (W : World), Kp w W → (∀ s A B, Ch A B → J s A → J s B) → (∀ s A B, Ch A B → Jx s A → Jx s B) →
    (∀ pre x W1, Px x → J pre W1 → pre.length < N → YieldAt F (n - 1) P l (encs x) W1 fun e W' =>
      (e = .returned (.bool true) ∧ J (pre ++ [x]) W' ∧ Kp W1 W') ∨ (e = .returned (.bool false) ∧ Jx (pre ++ [x]) W')) →
    J [] W →
    CallsIn F n P g (#[.func (.yield l) #[] #[]] ++ lb) W fun e W' => (∃ v, e = .returned v) ∧ ((∃ xs, S xs ∧ J xs W') ∨ (∃ pre, Sp pre ∧ Jx pre W'))

theorem wpIn_rangeFunc_state {α : Type} {g : Operand} {ps : Array Tmp} {assign body : Code} {Q : Exit → Act → World → Prop} {a : Act} {w : World}
    (hro : F.round = none) (h1 : 1 ≤ n) {gf : Nat} {lb : Array Value} (hg : a.eval g = .func (.func gf) #[] lb) (hFg : F.fn gf) (eg : ∀ args w, (callFunc gf args).run P w = .ok (.enter gf args) w)
    {encs : α → Array Value} {Px : α → Prop} {Ch Kp : World → World → Prop} {S Sp : List α → Prop} {N : Nat} (hseq : SeqOwn F (n - 1) P gf lb encs Px Ch Kp S Sp N w)
    (hKt : ∀ {A B C : World}, Kp A B → Kp B C → Kp A C) (hKa : ∀ (W : World) (o : Obj), w.heap.size ≤ W.heap.size → Kp W (W.alloc o))
    (hKb : ∀ (W : World) (l : Nat) (o o' : Obj), w.heap.size ≤ l → W.heap[l]? = some o → o.isCells = false → Kp W (W.putObj l o'))
    (hCh : ∀ (A B : World) (k : Nat) (o : Obj), Ch A B → A.heap[k]? = some o → o.isCells = false → B.heap[k]? = some o) (hps : ∀ x, (encs x).size = ps.size)
    (I : List α → World → Prop) (Ix : Code → List α → World → Prop) (hI : OwnFrom w.heap.size I) (hIx : ∀ c, OwnFrom w.heap.size (Ix c)) (hIc : ∀ s A B, Ch A B → I s A → I s B) (hIxc : ∀ c s A B, Ch A B → Ix c s A → Ix c s B) (h0 : I [] w) (a₁ : α → Act)
    (hassign : ∀ (l : Nat) (x : α) (W : World) (K : Act → World → Prop), K (a₁ x) W →
      assign.wpIn (F.inRound l) (n - 1 - 1) P (Exit.then K (fun _ _ _ => False)) { tmps := (ps.zip (encs x)).foldl (fun t (p, v) => t.setIfInBounds p v) a.tmps, defers := [] } W)
    (hbody : ∀ (l : Nat) (pre : List α) (x : α) (W : World), Px x → I pre W → pre.length < N → body.wpIn (F.inRound l) (n - 1 - 1) P (ownPostG w.heap.size Kp I Ix (pre ++ [x]) W) (a₁ x) W)
    (hdone : ∀ (D : Nat) (xs : List α) (W : World), w.heap.size ≤ D → S xs → I xs W → W.heap[D]? = some (.deferred (some [])) → Q .normal { a with defers := { target := .collected D, args := #[] } :: a.defers } W)
    (hstop : ∀ (D : Nat) (c : Code) (pre : List α) (W : World), w.heap.size ≤ D → Sp pre → Ix c pre W → W.heap[D]? = some (.deferred (some [])) → c.wpIn F n P Q { a with defers := { target := .collected D, args := #[] } :: a.defers } W) :
    (Code.rangeFunc g ps assign body).wpIn F n P Q a w := by
  refine wpIn_rangeFunc fun fn hfn => ?_
  rw [hro]
  obtain ⟨rec, hrec⟩ : ∃ rec : LoopState → Option Code → Loop, rec = fun st pe => { state := st, pending := pe, fn, tmps := a.tmps, params := ps, assign, body, defers := w.heap.size } := ⟨_, rfl⟩
  obtain ⟨B, hB⟩ : ∃ B, B = w.heap.size := ⟨_, rfl⟩
  obtain ⟨W1, hW1⟩ : ∃ W1, (w.alloc (.deferred (some []))).alloc (.loop (rec .ready none)) = W1 := ⟨_, rfl⟩
  have hL1 : W1.heap[w.heap.size + 1]? = some (.loop (rec .ready none)) := by
    rw [← hW1]
    have := World.alloc_heap_new (w.alloc (.deferred (some []))) (.loop (rec .ready none))
    rwa [World.size_alloc] at this
  have hK1 : W1.heap[w.heap.size]? = some (.deferred (some [])) := by
    rw [← hW1]
    exact (Below.heap_alloc _ _ _ (by simp)).trans (World.alloc_heap_new w _)
  have hI1 : I [] W1 := by
    rw [← hW1]
    exact hI.alloc _ (hI.alloc _ h0)
  have hb1 : Kp w W1 := by
    rw [← hW1]
    exact hKt (hKa w _ (Nat.le_refl _)) (hKa _ _ (by simp))
  refine ⟨w.heap.size + 1, [{ target := .collected w.heap.size, args := #[] }], W1, { target := .fn (.func gf) lb, args := #[.func (.yield (w.heap.size + 1)) #[] #[]] }, W1, gf,
    #[.func (.yield (w.heap.size + 1)) #[] #[]] ++ lb, W1, ?_, ?_, ?_, ?_, fun _ => h1, ?_⟩
  · rw [← hW1, hrec]
    exact run_enterLoop_outer _ _ _ _ _
  · simp only [resolve, hg]
    simp [go_sem]
  · intro f' hf'
    simp [Target.leads] at hf'
    subst hf'
    exact hFg
  · simp [invoke, go_sem, eg]
  · refine (hseq (w.heap.size + 1)
      (fun pre W => I pre W ∧ W.heap[w.heap.size + 1]? = some (.loop (rec .ready none)) ∧ W.heap[w.heap.size]? = some (.deferred (some [])))
      (fun pre W => ∃ c, Ix c pre W ∧ W.heap[w.heap.size + 1]? = some (.loop (rec .done (some c))) ∧ W.heap[w.heap.size]? = some (.deferred (some [])))
      W1 hb1
      (fun s X Y hc hs => ⟨hIc s X Y hc hs.1, hCh X Y _ _ hc hs.2.1 rfl, hCh X Y _ _ hc hs.2.2 rfl⟩)
      (fun s X Y hc hs => by
        obtain ⟨c, h2, hl, hk⟩ := hs
        exact ⟨c, hIxc c s X Y hc h2, hCh X Y _ _ hc hl rfl, hCh X Y _ _ hc hk rfl⟩)
      ?_ ⟨hI1, hL1, hK1⟩).mono ?_
    · rintro pre x W hx ⟨hi, hl, hk⟩ hlen
      have hlt : w.heap.size + 1 < W.heap.size := (Array.getElem?_eq_some_iff.1 hl).1
      have hy := run_yield (P := P) (args := encs x) hl (by rw [hrec]; exact hps x)
      rw [hrec] at hy
      refine ⟨fn, _, assign, body, hy, roundIn_of_wpIn hfn (hassign _ x W _ ⟨_, run_beginRound hl (by rw [hrec]), ?_⟩)⟩
      have hl2 : (W.putObj (w.heap.size + 1) (.loop { rec .ready none with state := .busy })).heap[w.heap.size + 1]? = some (.loop { rec .ready none with state := .busy }) := World.putObj_heap_same hlt
      have hk2 : (W.putObj (w.heap.size + 1) (.loop { rec .ready none with state := .busy })).heap[w.heap.size]? = some (.deferred (some [])) := (World.putObj_heap_other (by omega)).trans hk
      have hw2 : Kp W (W.putObj (w.heap.size + 1) (.loop { rec .ready none with state := .busy })) := hKb _ _ _ _ (by omega) hl rfl
      refine wpIn_mono (hbody _ pre x _ hx (hI.putObj _ hi (by omega) hl rfl) hlen) ?_
      have fin : ∀ (jump : Option Code) (W3 : World), KeepsFrom w.heap.size (W.putObj (w.heap.size + 1) (.loop { rec .ready none with state := .busy })) W3 →
          (Instr.endRound (w.heap.size + 1) jump).run P W3 = .ok (.bool jump.isNone) (W3.putObj (w.heap.size + 1) (.loop (rec (if jump.isNone then .ready else .done) jump))) ∧
          W3.heap[w.heap.size + 1]? = some (.loop { rec .ready none with state := .busy }) ∧
          (W3.putObj (w.heap.size + 1) (.loop (rec (if jump.isNone then .ready else .done) jump))).heap[w.heap.size + 1]? = some (.loop (rec (if jump.isNone then .ready else .done) jump)) ∧
          (W3.putObj (w.heap.size + 1) (.loop (rec (if jump.isNone then .ready else .done) jump))).heap[w.heap.size]? = some (.deferred (some [])) := fun jump W3 hk3 => by
        have hl3 := hk3.same _ _ (by omega) hl2 rfl
        have := run_endRound (P := P) jump hl3
        rw [hrec] at this ⊢
        exact ⟨this, by rw [hrec] at hl3; exact hl3, World.putObj_heap_same (Array.getElem?_eq_some_iff.1 hl3).1, (World.putObj_heap_other (by omega)).trans (hk3.same _ _ (Nat.le_refl _) hk2 rfl)⟩
      rintro e a3 W3 hp
      cases e with
      | normal =>
        obtain ⟨hk3, hkp3, hi3⟩ := hp
        obtain ⟨hr, hl3, hl4, hk4⟩ := fin none W3 hk3
        exact ⟨_, _, hr, .inl ⟨rfl, ⟨hI.putObj _ hi3 (by omega) hl3 rfl, hl4, hk4⟩, hKt (hKt hw2 hkp3) (hKb _ _ _ _ (by omega) hl3 rfl)⟩⟩
      | ret =>
        obtain ⟨hk3, hi3⟩ := hp
        obtain ⟨hr, hl3, hl4, hk4⟩ := fin (some .ret) W3 hk3
        exact ⟨_, _, hr, .inr ⟨rfl, .ret, (hIx _).putObj _ hi3 (by omega) hl3 rfl, hl4, hk4⟩⟩
      | exit id =>
        obtain ⟨hk3, hi3⟩ := hp
        obtain ⟨hr, hl3, hl4, hk4⟩ := fin (some (.exit id)) W3 hk3
        exact ⟨_, _, hr, .inr ⟨rfl, .exit id, (hIx _).putObj _ hi3 (by omega) hl3 rfl, hl4, hk4⟩⟩
      | goto t =>
        obtain ⟨hk3, hi3⟩ := hp
        obtain ⟨hr, hl3, hl4, hk4⟩ := fin (some (.goto t)) W3 hk3
        exact ⟨_, _, hr, .inr ⟨rfl, .goto t, (hIx _).putObj _ hi3 (by omega) hl3 rfl, hl4, hk4⟩⟩
      | panic ch => exact hp.elim
      | outgrown => exact hp.elim
    · rintro e W2 ⟨⟨v, rfl⟩, (⟨xs, hS, hi, hl, hk⟩ | ⟨pre, hSp, c, hi, hl, hk⟩)⟩
      · exact ⟨none, _, by have := run_endLoop (P := P) hl (by rw [hrec]; simp); rw [hrec] at this; exact this, hdone _ xs _ (Nat.le_refl _) hS (hI.putObj _ hi (by omega) hl rfl) ((World.putObj_heap_other (by omega)).trans hk)⟩
      · exact ⟨some c, _, by have := run_endLoop (P := P) hl (by rw [hrec]; simp); rw [hrec] at this; exact this, hstop _ c pre _ (Nat.le_refl _) hSp ((hIx c).putObj _ hi (by omega) hl rfl) ((World.putObj_heap_other (by omega)).trans hk)⟩
end Go.Proofs.YtkbhckjpmgkgjaaGreatDoor
namespace Go.Proofs.YtkbhckjpmgkgjaaGreatDoor
open Go.RowKit
attribute [local go_sem] Oper.semAt_some

/-- The first line of a text, its end with it; what lies behind it. -/
def lineA (s : ByteArray) : ByteArray := if Lib.indexByte (vb s) 10 = -1 then s else s.extract 0 ((Lib.indexByte (vb s) 10).toNat + 1)
def lineZ (s : ByteArray) : ByteArray := if Lib.indexByte (vb s) 10 = -1 then ⟨#[]⟩ else s.extract ((Lib.indexByte (vb s) 10).toNat + 1) s.size
theorem lineA_le (s : ByteArray) : (lineA s).size ≤ s.size := by
  unfold lineA
  split
  · exact Nat.le_refl _
  · rw [ByteArray.size_extract]; omega
theorem lineZ_lt (s : ByteArray) (h : 0 < s.size) : (lineZ s).size < s.size := by
  unfold lineZ
  split
  · exact h
  · rw [ByteArray.size_extract]; omega
def linesF : Nat → ByteArray → List ByteArray
  | 0, _ => []
  | n + 1, s => if s.size = 0 then [] else lineA s :: linesF n (lineZ s)
def linesOf (s : ByteArray) : List ByteArray := linesF s.size s
theorem linesF_len : ∀ n s, (linesF n s).length ≤ n
  | 0, _ => Nat.le_refl _
  | n + 1, s => by
    unfold linesF
    split
    · exact Nat.zero_le _
    · exact Nat.succ_le_succ (linesF_len n _)
theorem linesF_nil (n : Nat) (s : ByteArray) (h : s.size = 0) : linesF n s = [] := by
  cases n with
  | zero => rfl
  | succ n => unfold linesF; rw [if_pos h]
theorem lines_map : ∀ (n : Nat) (s : ByteArray), (linesF n s).map vb = linesB n (vb s)
  | 0, _ => rfl
  | n + 1, s => by
    unfold linesF linesB
    by_cases h : s.size = 0
    · have hv : vb s = [] := List.eq_nil_of_length_eq_zero (by rw [vb_len]; exact h)
      rw [if_pos h, if_pos hv]
      rfl
    · have hv : vb s ≠ [] := fun e => h (by rw [← vb_len, e]; rfl)
      rw [if_neg h, if_neg hv]
      rcases index_cut (vb s) 10 with ⟨h1, h2⟩ | ⟨k, h1, h2, h3⟩
      · have hA : lineA s = s := by unfold lineA; rw [if_pos h1]
        have hZ : lineZ s = ⟨#[]⟩ := by unfold lineZ; rw [if_pos h1]
        rw [h2, hA, hZ, linesF_nil n ⟨#[]⟩ rfl]
        rfl
      · have hA : lineA s = s.extract 0 (k + 1) := by unfold lineA; rw [h1, if_neg (by omega)]; rfl
        have hZ : lineZ s = s.extract (k + 1) s.size := by unfold lineZ; rw [h1, if_neg (by omega)]; rfl
        rw [h3, hA, hZ, List.map_cons, lines_map n]
        have hl := vb_len s
        obtain ⟨b1, b2⟩ := cutAt_back h3
        have e1 : vb (s.extract 0 (k + 1)) = (vb s).take k ++ [10] := by
          rw [vb_extract, List.drop_zero, List.take_add_one]
          congr 1
          have h5 : (vb s)[k]? = some 10 := by
            rw [b1, List.getElem?_append_right (by rw [List.length_take]; omega), List.length_take, Nat.min_eq_left (by omega), Nat.sub_self]
            rfl
          rw [h5]
          rfl
        have e2 : vb (s.extract (k + 1) s.size) = (vb s).drop (k + 1) := by rw [vb_extract, List.take_of_length_le (by omega)]
        rw [e1, e2]
theorem lines_all (s : ByteArray) : (linesOf s).map vb = linesL (vb s) := by
  unfold linesOf linesL
  rw [lines_map, vb_len]
/-- What strings.Lines changes between two rounds. -/
def ChL (Bs : Nat) (A B : World) : Prop := ∃ v, B = A.setCell ⟨Bs, 0, none⟩ (.string v) ∨ B = A.drew.setCell ⟨Bs, 0, none⟩ (.string v)
/-- What the body must keep for it. -/
def KpL (Bs : Nat) (A B : World) : Prop := ∀ s : ByteArray, Row A Bs #[.string s] 9 → Row B Bs #[.string s] 9
theorem KpL.trans {Bs : Nat} {A B C : World} (h : KpL Bs A B) (k : KpL Bs B C) : KpL Bs A C := fun s hs => k s (h s hs)
theorem lines_ok (s : ByteArray) (w : World) : Calls Tryz.prog 44 #[.string s] w fun e w' => e = .returned (.func (.func 69) #[] #[.pointer (some ⟨w.heap.size, 0, none⟩)]) ∧ w' = w.alloc (.cells #[.string s] 9) := by
  go_enter Tryz.func44, Tryz.ntmps44
  go_wp2
  go_ret
  exact ⟨rfl, rfl⟩
theorem lineA_at (s : ByteArray) (n : Nat) (h : Lib.indexByte (vb s) 10 = (n : Int)) : lineA s = s.extract 0 (n + 1) ∧ lineZ s = s.extract (n + 1) s.size := by
  unfold lineA lineZ
  rw [h, if_neg (by omega), if_neg (by omega)]
  exact ⟨rfl, rfl⟩
theorem lineA_no (s : ByteArray) (h : Lib.indexByte (vb s) 10 = -1) : lineA s = s ∧ lineZ s = ⟨#[]⟩ := by
  unfold lineA lineZ
  rw [if_pos h, if_pos h]
  exact ⟨rfl, rfl⟩
set_option maxRecDepth 100000 in
set_option maxHeartbeats 4000000 in
theorem lines_stops (n : Nat) (hn : 1 ≤ n) (Bs : Nat) (s : ByteArray) (hs : s.size ≤ 65536) (w : World) (hB : Row w Bs #[.string s] 9) :
    SeqOwn Fence.wide n Tryz.prog 69 #[.pointer (some ⟨Bs, 0, none⟩)] (fun x : ByteArray => #[Value.string x]) (fun x => x.size ≤ 65536) (ChL Bs) (KpL Bs) (fun ys => ys = linesOf s) (fun pre => pre <+: linesOf s) s.size w := fun l J Jx W hW hJ hJx hY h0 => by
  have hB0 := hW s hB
  clear hW hB
  refine callsIn_of_wp Tryz.func69 rfl trivial ?_ rfl
  simp only [Tryz.ntmps69, List.size_toArray, List.length_cons, List.length_nil, Nat.reduceAdd, Nat.reduceSub, Array.replicate_succ, Array.replicate_zero, List.push_toArray, List.append_toArray, List.nil_append, List.cons_append]
  gi_wp2
  gi_loopw [] (fun wr => ∃ (pre : List ByteArray) (m : Nat) (r : ByteArray), Row wr Bs #[.string r] 9 ∧ J pre wr ∧ pre ++ linesF m r = linesOf s ∧ r.size ≤ m ∧ r.size ≤ s.size)
    (fun wr => match wr.cell? ⟨Bs, 0, none⟩ with | some (.string r) => r.size | _ => 0)
  case atStart => exact ⟨[], s.size, s, hB0, h0, rfl, Nat.le_refl _, Nat.le_refl _⟩
  case round =>
    obtain ⟨pre, m, r, hr, hJp, hcat, hm, hrs⟩ := hrel
    have hc : wr.cell? ⟨Bs, 0, none⟩ = some (.string r) := (hr.cell 0).trans rfl
    have hfz := hr.frozen 0
    by_cases hz : r.size = 0
    · have hle : ¬ (0 : Int) < (r.size : Int) := by omega
      gi_wp2
      go_end0
      rw [linesF_nil m r hz, List.append_nil] at hcat
      exact ⟨⟨_, rfl⟩, .inl (hcat ▸ hJp)⟩
    · have hlt : (0 : Int) < (r.size : Int) := by omega
      obtain ⟨m', rfl⟩ : ∃ m', m = m' + 1 := ⟨m - 1, by omega⟩
      rw [linesF, if_neg hz] at hcat
      have hpl : pre.length < s.size := by
        have h1 := congrArg List.length hcat
        have h2 := linesF_len s.size s
        rw [List.length_append, List.length_cons] at h1
        have h3 : (linesOf s).length ≤ s.size := h2
        omega
      have hAl := lineA_le r
      have hZl := lineZ_lt r (by omega)
      have HC : Hid ((pre ++ [lineA r]) ++ linesF m' (lineZ r) = linesOf s ∧ (lineZ r).size ≤ m' ∧ (lineZ r).size < r.size ∧ (lineA r).size ≤ r.size) := ⟨by rw [List.append_assoc]; exact hcat, by omega, hZl, hAl⟩
      have HI : Calls Tryz.prog 70 #[.string r, .int .u8 10] wr fun e w' => e = .returned (.int .i64 (Lib.indexByte (vb r) 10)) ∧ w' = wr := sIndexByte r 10 wr
      clear hcat hAl hZl
      rcases index_cut (vb r) 10 with ⟨hi, _⟩ | ⟨k, hi, hk, _⟩
      · rw [hi] at HI
        obtain ⟨eA, eZ⟩ := lineA_no r hi
        rw [eA, eZ] at HC
        clear hi eA eZ
        obtain ⟨W3, hW3⟩ : ∃ x, x = wr.setCell ⟨Bs, 0, none⟩ (.string ⟨#[]⟩) := ⟨_, rfl⟩
        have HR3 : Hid (Row W3 Bs #[.string ⟨#[]⟩] 9) := by
          show Row _ _ _ _
          rw [hW3]
          exact hr.setCell (i := 0) (.string ⟨#[]⟩)
        have hW3' := hW3.symm
        obtain ⟨fn, tmps, assign, body, hy, hR⟩ := hY pre r W3 (by omega) (hJ pre wr W3 ⟨_, .inl hW3⟩ hJp) hpl
        clear hW3
        gi_wp2_with (refine ⟨trivial, ?_⟩; gi_at_call 70; refine (callsIn_wide.2 HI).mono ?_; rintro e w1 ⟨rfl, rfl⟩; clear HI)
        refine hR.mono ?_
        rintro e W4 (⟨rfl, hJ4, hk4⟩ | ⟨rfl, hJx4⟩)
        · have hr4 := hk4 _ HR3.out
          have hc4 : W4.cell? ⟨Bs, 0, none⟩ = some (.string ⟨#[]⟩) := (Row.cell hr4 0).trans rfl
          have HCc : Hid _ := hc
          clear hc
          gi_wp2
          go_roundw
          case rel => exact ⟨pre ++ [r], m', ⟨#[]⟩, hr4, hJ4, HC.out.1, HC.out.2.1, Nat.zero_le _⟩
          case measure => have h5 := HC.out.2.2.1; have h6 := HCc.out; simp only [hc4, h6]; exact h5
        · gi_wp2
          refine bodyPost_ret (results_none rfl _ _ _) rfl ?_
          exact ⟨⟨_, rfl⟩, .inr ⟨pre ++ [r], ⟨_, HC.out.1⟩, hJx4⟩⟩
      · rw [hi] at HI
        obtain ⟨eA, eZ⟩ := lineA_at r k hi
        rw [eA, eZ] at HC
        rw [vb_len] at hk
        clear hi eA eZ
        have h2 : k + 1 ≤ r.size := by omega
        have hw1 : IntKind.i64.wrap ((k : Int) + 1) = (k : Int) + 1 := by rw [IntKind.wrap_i64]; omega
        have hnn : (0 : Int) ≤ (k : Int) := by omega
        obtain ⟨W3, hW3⟩ : ∃ x, x = wr.drew.setCell ⟨Bs, 0, none⟩ (.string (r.extract (k + 1) r.size)) := ⟨_, rfl⟩
        have HR3 : Hid (Row W3 Bs #[.string (r.extract (k + 1) r.size)] 9) := by
          show Row _ _ _ _
          rw [hW3]
          exact hr.drew.setCell (i := 0) (.string (r.extract (k + 1) r.size))
        obtain ⟨fn, tmps, assign, body, hy, hR⟩ := hY pre (r.extract 0 (k + 1)) W3 (by have := HC.out.2.2.2; omega) (hJ pre wr W3 ⟨_, .inr hW3⟩ hJp) hpl
        have HW3 : Hid _ := hW3
        clear hW3
        gi_wp2_with (refine ⟨trivial, ?_⟩; gi_at_call 70; refine (callsIn_wide.2 HI).mono ?_; rintro e w1 ⟨rfl, rfl⟩; clear HI)
        refine wpIn_wide.2 ?_
        refine wp_region_perm [(false, 0), (false, 1), (false, 2), (false, 3), (false, 4), (false, 5), (false, 6), (false, 7), (false, 8), (true, 9)] (fun wx => Row wx Bs #[.string r] 9) (by kernel_rfl) (by kernel_rfl) hr.drew ?_
        refine p_value (some 12) (.string r) rfl rfl (by rfl) (fun w hw => ?_) ?_
        · have hcw : w.cell? ⟨Bs, 0, none⟩ = some (.string r) := (Row.cell hw 0).trans rfl
          go_simp
        simp only [Act.put, List.setIfInBounds_toArray, List.set_cons_zero, List.set_cons_succ]
        refine p_move (some 13) _ rfl rfl rfl (by rfl) ?_
        simp only [Act.put, List.setIfInBounds_toArray, List.set_cons_zero, List.set_cons_succ]
        refine p_value (some 14) (.int .i64 ((k : Int) + 1)) rfl rfl (by rfl) (fun w hw => ?_) ?_
        · go_simp
        simp only [Act.put, List.setIfInBounds_toArray, List.set_cons_zero, List.set_cons_succ]
        refine p_value (some 15) (.string (r.extract 0 (k + 1))) rfl rfl (by rfl) (fun w hw => ?_) ?_
        · go_simp
          intro hx
          have := hx (by omega)
          omega
        simp only [Act.put, List.setIfInBounds_toArray, List.set_cons_zero, List.set_cons_succ]
        refine p_value (some 16) (.string r) rfl rfl (by rfl) (fun w hw => ?_) ?_
        · have hcw : w.cell? ⟨Bs, 0, none⟩ = some (.string r) := (Row.cell hw 0).trans rfl
          go_simp
        simp only [Act.put, List.setIfInBounds_toArray, List.set_cons_zero, List.set_cons_succ]
        refine p_move (some 17) _ rfl rfl rfl (by rfl) ?_
        simp only [Act.put, List.setIfInBounds_toArray, List.set_cons_zero, List.set_cons_succ]
        refine p_value (some 18) (.int .i64 ((k : Int) + 1)) rfl rfl (by rfl) (fun w hw => ?_) ?_
        · go_simp
        simp only [Act.put, List.setIfInBounds_toArray, List.set_cons_zero, List.set_cons_succ]
        refine p_value (some 19) (.string (r.extract (k + 1) r.size)) rfl rfl (by rfl) (fun w hw => ?_) ?_
        · go_simp
          intro hx
          have := hx (by omega)
          omega
        simp only [Act.put, List.setIfInBounds_toArray, List.set_cons_zero, List.set_cons_succ]
        refine p_value (some 3) (.string (r.extract 0 (k + 1))) rfl rfl (by rfl) (fun w hw => ?_) ?_
        · go_simp
        simp only [Act.put, List.setIfInBounds_toArray, List.set_cons_zero, List.set_cons_succ]
        have hcd : w1.drew.cell? ⟨Bs, 0, none⟩ = some (.string r) := (Row.cell hr.drew 0).trans rfl
        have hfd := Row.frozen hr.drew 0
        refine p_store (w1.drew.setCell ⟨Bs, 0, none⟩ (.string (r.extract (k + 1) r.size))) rfl rfl (by rfl) (by go_simp) (fun h => absurd rfl h) ?_
        refine p_done ?_
        try simp only [Exit.then]
        rw [← HW3.out]
        clear hcd hfd
        gi_wp2
        refine hR.mono ?_
        rintro e W4 (⟨rfl, hJ4, hk4⟩ | ⟨rfl, hJx4⟩)
        · have hr4 := hk4 _ HR3.out
          have hc4 : W4.cell? ⟨Bs, 0, none⟩ = some (.string (r.extract (k + 1) r.size)) := (Row.cell hr4 0).trans rfl
          have HCc : Hid _ := hc
          clear hc
          gi_wp2
          go_roundw
          case rel => exact ⟨pre ++ [r.extract 0 (k + 1)], m', r.extract (k + 1) r.size, hr4, hJ4, HC.out.1, HC.out.2.1, by have := HC.out.2.2.1; omega⟩
          case measure => have h5 := HC.out.2.2.1; have h6 := HCc.out; simp only [hc4, h6]; exact h5
        · gi_wp2
          refine bodyPost_ret (results_none rfl _ _ _) rfl ?_
          exact ⟨⟨_, rfl⟩, .inr ⟨pre ++ [r.extract 0 (k + 1)], ⟨_, HC.out.1⟩, hJx4⟩⟩

theorem lt_of_some {A : World} {k : Nat} {o : Obj} (h : A.heap[k]? = some o) : k < A.heap.size := (Array.getElem?_eq_some_iff.1 h).1
theorem ChL.oth {Bs : Nat} {A B : World} (h : ChL Bs A B) (k : Nat) (o : Obj) (hk : A.heap[k]? = some o) (ho : o.isCells = false) : B.heap[k]? = some o := by
  have key : ∀ (X : World) (v : Value), X.heap[k]? = some o → (X.setCell ⟨Bs, 0, none⟩ v).heap[k]? = some o := fun X v hx => by
    unfold World.setCell
    simp only [Array.getElem?_modify, hx]
    split
    · cases o with
      | cells c e f => cases ho
      | _ => rfl
    · rfl
  obtain ⟨v, rfl | rfl⟩ := h
  · exact key A _ hk
  · exact key A.drew _ hk
theorem KpL.alloc {Bs : Nat} (W : World) (o : Obj) : KpL Bs W (W.alloc o) := fun _ h => h.alloc o
theorem KpL.put {Bs : Nat} (W : World) (l : Nat) (o o' : Obj) (h : W.heap[l]? = some o) (hc : o.isCells = false) : KpL Bs W (W.putObj l o') := fun s hs => by
  have hs' : W.heap[Bs]? = some (.cells #[.string s] 9 (0, 0)) := hs
  have hne : l ≠ Bs := fun e => by
    subst e
    rw [hs'] at h
    cases h
    cases hc
  show (W.putObj l o').heap[Bs]? = _
  rw [World.putObj_heap_other (by omega)]
  exact hs'
theorem Row.put {W : World} {D k : Nat} {C : Array Value} {t : TypeId} {o o' : Obj} (h : Row W k C t) (hD : W.heap[D]? = some o) (ho : o.isCells = false) : Row (W.putObj D o') k C t := by
  have h' : W.heap[k]? = some (.cells C t (0, 0)) := h
  have hne : D ≠ k := fun e => by
    subst e
    rw [h'] at hD
    cases hD
    cases ho
  show (W.putObj D o').heap[k]? = _
  rw [World.putObj_heap_other (by omega)]
  exact h'
theorem below_put {w W : World} {D : Nat} {o' : Obj} (h : Below w.heap.size w W) (hD : w.heap.size ≤ D) : Below w.heap.size w (W.putObj D o') := h.trans ⟨rfl, rfl, rfl, by simp [World.putObj], fun k hk => World.putObj_heap_other (by omega)⟩
end Go.Proofs.YtkbhckjpmgkgjaaGreatDoor
namespace Go.Proofs.YtkbhckjpmgkgjaaGreatDoor
open Go.RowKit
attribute [local go_sem] Oper.semAt_some

/-- What holds after these lines: what is read of them. -/
def RunTo (pre : List ByteArray) (st : List Pak) : Prop := ∀ rest, runL [] 0 (pre.map vb ++ rest) = runL st pre.length rest
theorem RunTo.more {pre : List ByteArray} {st st' : List Pak} {x : ByteArray} (h : RunTo pre st) (hx : lineE st (vb x) = (0, st')) : RunTo (pre ++ [x]) st' := fun rest => by
  rw [List.map_append, List.append_assoc, h]
  show runL st pre.length (vb x :: rest) = _
  rw [run_cons hx, List.length_append]
  rfl
theorem RunTo.stop {pre : List ByteArray} {st : List Pak} {x : ByteArray} (h : RunTo pre st) (hx : (lineE st (vb x)).1 ≠ 0) (rest : List By) : runL [] 0 ((pre ++ [x]).map vb ++ rest) = ([], pre.length, (lineE st (vb x)).1) := by
  rw [List.map_append, List.append_assoc, h]
  show runL st pre.length (vb x :: rest) = _
  rw [runL, if_pos hx]
/-- What Read tells. -/
def RdRes (w : World) (l : By) (e : Ending) (w' : World) : Prop :=
  ((parseI l).2.2 = 0 ∧ ∃ ov D, e = .returned (.tuple #[ov, .nilIface]) ∧ D.map (·.1) = (parseI l).1 ∧ OwR w w' D ov) ∨ ((parseI l).2.2 ≠ 0 ∧ ∃ k, e = .returned (.tuple #[.slice none 0 0, .iface 54 (.pointer (some ⟨k, 0, none⟩))]) ∧ Row w' k #[.int .i64 (parseI l).2.1, .int .i64 (parseI l).2.2] 58 ∧ Below w.heap.size w w')

theorem results_rd (tmps : Array Value) (w : World) (g k : Nat) (pa : Option Addr) (n c : Nat) (e : Value) (hp : tmps.getD 2 undef = .pointer (some ⟨g, 0, none⟩)) (hg : w.cell? ⟨g, 0, none⟩ = some (.slice pa n c)) (hq : tmps.getD 3 undef = .pointer (some ⟨k, 0, none⟩)) (hk : w.cell? ⟨k, 0, none⟩ = some e) :
    (results Tryz.f25 tmps).run Tryz.prog w = .ok (.tuple #[.slice pa n c, e]) w := by
  have hp' : tmps[2]?.getD undef = .pointer (some ⟨g, 0, none⟩) := by simpa using hp
  have hq' : tmps[3]?.getD undef = .pointer (some ⟨k, 0, none⟩) := by simpa using hq
  have l1 : (loadVar 22 ⟨g, 0, none⟩).run Tryz.prog w = .ok (.slice pa n c) w := by
    have hu := Tryz.underlying22
    go_simp
  have l2 : (loadVar 51 ⟨k, 0, none⟩).run Tryz.prog w = .ok e w := by
    have hu := Tryz.underlying51
    go_simp
  simp [results, hp', hq', asAddr, l1, l2, Result.andThen]
/-- A cell of another type is set. -/
theorem RdAt.setOther {w wr : World} {R M k : Nat} {D : List PV} {ov : Value} {C : Array Value} {t : TypeId} (h : RdAt w R M D ov wr) (hk : Row wr k C t) (hR : t ≠ 85) (hP : t ≠ 44) (hN : t ≠ 61) (hw : w.heap.size ≤ k) (i : Nat) (v : Value) : RdAt w R M D ov (wr.setCell ⟨k, i, none⟩ v) := by
  have ne : ∀ {j : Nat} {C' : Array Value} {t' : TypeId}, wr.heap[j]? = some (.cells C' t' (0, 0)) → t ≠ t' → j ≠ k := fun {j C' t'} hj ht e => by
    rw [e, hk] at hj
    simp only [Option.some.injEq, Obj.cells.injEq] at hj
    exact ht hj.2.1
  have keep : ∀ {t' : TypeId} {s n : Nat} {x : Value} {xs : List Value}, t ≠ t' → wr.ownsRow w.heap.size t' s x n xs → (wr.setCell ⟨k, i, none⟩ v).ownsRow w.heap.size t' s x n xs := fun {t' s n x xs} ht hv => own_same hv fun j hj => Below.heap_setCell _ _ _ _ (by
    obtain ⟨C', hC⟩ := ownsRow_row hv j hj
    exact ne hC ht)
  exact ⟨(Below.heap_setCell _ _ _ _ (ne h.row hR)).trans h.row, h.rel.keep (Below.heap_setCell _ _ _ _ (fun e => rel_block h.rel hk e.symm)), ⟨keep hP h.own.own, fun d hd => keep hN (h.own.nds d hd), h.own.sep, h.own.old.trans (below_set hw _ _)⟩, h.rb, h.mb, h.len, h.nds⟩
/-- What stays where only what is no cell changes. -/
theorem row_same {W W' : World} {row : Option Nat} {b k : Nat} {C : Array Value} {t : TypeId} (hg : W.grownBy W' row) (hr : ∀ r, row = some r → b ≤ r ∧ ∃ o : Obj, W.heap[r]? = some o ∧ o.isCells = false) (h : W.heap[k]? = some (.cells C t (0, 0))) : W'.heap[k]? = W.heap[k]? :=
  hg.block k (lt_of_some h) fun e => by
    obtain ⟨o, h1, h2⟩ := (hr k e.symm).2
    rw [h] at h1
    cases h1
    cases h2
theorem RdAt.far {w A B : World} {R M b : Nat} {D : List PV} {ov : Value} {row : Option Nat} (h : RdAt w R M D ov A) (hg : A.grownBy B row) (hr : ∀ r, row = some r → b ≤ r ∧ ∃ o : Obj, A.heap[r]? = some o ∧ o.isCells = false) (hM : M < b) (hw : w.heap.size ≤ b) : RdAt w R M D ov B := by
  have keep : ∀ {t' : TypeId} {s n : Nat} {x : Value} {xs : List Value}, A.ownsRow w.heap.size t' s x n xs → B.ownsRow w.heap.size t' s x n xs := fun {t' s n x xs} hv => own_same hv fun j hj => by
    obtain ⟨C', hC⟩ := ownsRow_row hv j hj
    exact row_same hg hr hC
  have hold : Below w.heap.size w B := h.own.old.trans ⟨hg.os, hg.tape, hg.output, hg.size, fun k hk => hg.block k (Nat.lt_of_lt_of_le hk h.own.old.size) fun e => by have := (hr k e.symm).1; omega⟩
  exact ⟨(row_same hg hr h.row).trans h.row, h.rel.keep (hg.block M h.rel.lt fun e => by have := (hr M e.symm).1; omega), ⟨keep h.own.own, fun d hd => keep (h.own.nds d hd), h.own.sep, hold⟩, h.rb, h.mb, h.len, h.nds⟩
/-- What holds in the loop: wb is the world ahead of it; c, n and Bs are the blocks of the reader's pointer, of the number and of what is left of the text. -/
structure LI (w wb : World) (R M c n Bs : Nat) (pre : List ByteArray) (W : World) : Prop where
  rd : ∃ D ov, RdAt w R M D ov W ∧ RunTo pre (D.map (·.1))
  size : wb.heap.size ≤ W.heap.size
  r0 : Row W w.heap.size #[.slice none 0 0] 22
  r1 : Row W (w.heap.size + 1) #[.nilIface] 51
  rc : Row W c #[.pointer (some ⟨R, 0, none⟩)] 83
  rn : Row W n #[.int .i64 pre.length] 3
  bs : ∃ r, Row W Bs #[.string r] 9
structure LX (w wb : World) (pre : List ByteArray) (W : World) : Prop where
  rd : ∃ (e : Int) (k f : Nat), e ≠ 0 ∧ (∀ rest, runL [] 0 (pre.map vb ++ rest) = ([], k, e)) ∧ Row W (w.heap.size + 1) #[.iface 54 (.pointer (some ⟨f, 0, none⟩))] 51 ∧ Row W f #[.int .i64 k, .int .i64 e] 58 ∧ wb.heap.size ≤ f
  old : Below w.heap.size w W
  size : wb.heap.size ≤ W.heap.size
  r0 : Row W w.heap.size #[.slice none 0 0] 22
theorem LI.own {w wb : World} {R M c n Bs : Nat} (hM : M < wb.heap.size) (hw : w.heap.size ≤ wb.heap.size) : OwnFrom wb.heap.size (LI w wb R M c n Bs) := by
  rintro pre A B row ⟨⟨D, ov, h1, h2⟩, h3, h4, h5, h6, h7, ⟨r, h8⟩⟩ hg hr
  exact ⟨⟨D, ov, h1.far hg hr hM hw, h2⟩, Nat.le_trans h3 hg.size, (row_same hg hr h4).trans h4, (row_same hg hr h5).trans h5, (row_same hg hr h6).trans h6, (row_same hg hr h7).trans h7, ⟨r, (row_same hg hr h8).trans h8⟩⟩
theorem row_oth {W : World} {k b : Nat} {C C' : Array Value} {t t' : TypeId} (h : Row W k C t) (hb : Row W b C' t') (ht : t ≠ t') (v : Value) : Row (W.setCell ⟨b, 0, none⟩ v) k C t := (Below.heap_setCell _ _ _ _ (by
  show k ≠ b
  intro e
  subst e
  have h1 := h.symm.trans hb
  simp only [Option.some.injEq, Obj.cells.injEq] at h1
  exact ht h1.2.1)).trans h
theorem LI.set {w wb : World} {R M c n Bs : Nat} (hBw : w.heap.size ≤ Bs) {pre : List ByteArray} {W : World} (h : LI w wb R M c n Bs pre W) (v : ByteArray) : LI w wb R M c n Bs pre (W.setCell ⟨Bs, 0, none⟩ (.string v)) := by
  obtain ⟨⟨D, ov, h1, h2⟩, h3, h4, h5, h6, h7, ⟨r, h8⟩⟩ := h
  exact ⟨⟨D, ov, h1.setOther h8 (by decide) (by decide) (by decide) hBw 0 _, h2⟩, by simpa using h3, row_oth h4 h8 (by decide) _, row_oth h5 h8 (by decide) _, row_oth h6 h8 (by decide) _, row_oth h7 h8 (by decide) _, ⟨v, h8.setCell (i := 0) (.string v)⟩⟩
theorem LI.drew {w wb : World} {R M c n Bs : Nat} {pre : List ByteArray} {W : World} (h : LI w wb R M c n Bs pre W) : LI w wb R M c n Bs pre W.drew := by
  obtain ⟨⟨D, ov, h1, h2⟩, h3, h4, h5, h6, h7, ⟨r, h8⟩⟩ := h
  exact ⟨⟨D, ov, h1.next ((Below.refl _ _).drew), h2⟩, h3, h4.drew, h5.drew, h6.drew, h7.drew, ⟨r, h8.drew⟩⟩
theorem LI.ch {w wb : World} {R M c n Bs : Nat} (hBw : w.heap.size ≤ Bs) {pre : List ByteArray} {A B : World} (hc : ChL Bs A B) (h : LI w wb R M c n Bs pre A) : LI w wb R M c n Bs pre B := by
  obtain ⟨x, rfl | rfl⟩ := hc
  · exact h.set hBw x
  · exact h.drew.set hBw x
theorem LX.own {w wb : World} (hw : w.heap.size ≤ wb.heap.size) : OwnFrom wb.heap.size (LX w wb) := by
  rintro pre A B row ⟨⟨e, k, f, h1, h2, h3, h4, h5⟩, h6, h7, h8⟩ hg hr
  exact ⟨⟨e, k, f, h1, h2, (row_same hg hr h3).trans h3, (row_same hg hr h4).trans h4, h5⟩, h6.trans ⟨hg.os, hg.tape, hg.output, hg.size, fun k hk => hg.block k (Nat.lt_of_lt_of_le hk h6.size) fun e => by have := (hr k e.symm).1; omega⟩, Nat.le_trans h7 hg.size, (row_same hg hr h8).trans h8⟩
theorem LX.ch {w wb : World} {Bs : Nat} (hB : w.heap.size + 1 < Bs) (hB2 : Bs < wb.heap.size) {pre : List ByteArray} {A B : World} (hc : ChL Bs A B) (h : LX w wb pre A) : LX w wb pre B := by
  have key : ∀ (X : World) (v : Value), LX w wb pre X → LX w wb pre (X.setCell ⟨Bs, 0, none⟩ v) := fun X v hx => by
    obtain ⟨⟨e, k, f, h1, h2, h3, h4, h5⟩, h6, h7, h8⟩ := hx
    exact ⟨⟨e, k, f, h1, h2, h3.setCell_other (by omega) _, h4.setCell_other (by omega) _, h5⟩, h6.trans (below_set (by omega) _ _), by simpa using h7, h8.setCell_other (by omega) _⟩
  obtain ⟨x, rfl | rfl⟩ := hc
  · exact key A _ h
  · obtain ⟨⟨e, k, f, h1, h2, h3, h4, h5⟩, h6, h7, h8⟩ := h
    exact key A.drew _ ⟨⟨e, k, f, h1, h2, h3.drew, h4.drew, h5⟩, h6.drew, h7, h8.drew⟩
theorem drew_heap (A : World) : A.drew.heap = A.heap := rfl
/-- The world behind a fault. -/
def faultW (w w9 : World) (k er : Int) : World := (((w9.setCell ⟨w.heap.size, 0, none⟩ (.slice none 0 0)).setCell ⟨w.heap.size + 1, 0, none⟩ (.iface 54 (.pointer (some ⟨w9.heap.size, 0, none⟩)))).alloc (.cells #[.int .i64 k, .int .i64 er] 58)).drew
theorem LX.make {w w6 w9 : World} {k : Nat} {er : Int} {pre : List ByteArray} (q0 : Row w9 w.heap.size #[.slice none 0 0] 22) (q1 : Row w9 (w.heap.size + 1) #[.nilIface] 51) (hold : Below w.heap.size w w9) (hsz : w6.heap.size ≤ w9.heap.size) (her : er ≠ 0) (hrun : ∀ rest, runL [] 0 (pre.map vb ++ rest) = ([], k, er)) : LX w w6 pre (faultW w w9 k er) := by
  have a0 : Row (w9.setCell ⟨w.heap.size, 0, none⟩ (.slice none 0 0)) w.heap.size #[.slice none 0 0] 22 := q0.setCell (i := 0) (.slice none 0 0)
  have a1 : Row (w9.setCell ⟨w.heap.size, 0, none⟩ (.slice none 0 0)) (w.heap.size + 1) #[.nilIface] 51 := q1.setCell_other (by omega) _
  have b0 : Row ((w9.setCell ⟨w.heap.size, 0, none⟩ (.slice none 0 0)).setCell ⟨w.heap.size + 1, 0, none⟩ (.iface 54 (.pointer (some ⟨w9.heap.size, 0, none⟩)))) w.heap.size #[.slice none 0 0] 22 := a0.setCell_other (by omega) _
  have b1 : Row ((w9.setCell ⟨w.heap.size, 0, none⟩ (.slice none 0 0)).setCell ⟨w.heap.size + 1, 0, none⟩ (.iface 54 (.pointer (some ⟨w9.heap.size, 0, none⟩)))) (w.heap.size + 1) #[.iface 54 (.pointer (some ⟨w9.heap.size, 0, none⟩))] 51 := a1.setCell (i := 0) _
  have bb : Below w.heap.size w ((w9.setCell ⟨w.heap.size, 0, none⟩ (.slice none 0 0)).setCell ⟨w.heap.size + 1, 0, none⟩ (.iface 54 (.pointer (some ⟨w9.heap.size, 0, none⟩)))) := (hold.trans (below_set (Nat.le_refl _) _ _)).trans (below_set (by omega) _ _)
  obtain ⟨X, hX⟩ : ∃ X, X = (w9.setCell ⟨w.heap.size, 0, none⟩ (.slice none 0 0)).setCell ⟨w.heap.size + 1, 0, none⟩ (.iface 54 (.pointer (some ⟨w9.heap.size, 0, none⟩))) := ⟨_, rfl⟩
  have hXs : X.heap.size = w9.heap.size := by rw [hX]; simp
  unfold faultW
  rw [← hX] at b0 b1 bb ⊢
  have hf : Row (X.alloc (.cells #[.int .i64 k, .int .i64 er] 58)) w9.heap.size #[.int .i64 k, .int .i64 er] 58 := by
    have h := Row.new X #[.int .i64 k, .int .i64 er] 58
    rw [hXs] at h
    exact h
  refine ⟨⟨er, k, w9.heap.size, her, hrun, (b1.alloc _).drew, hf.drew, hsz⟩, (bb.alloc bb.size _).drew, ?_, (b0.alloc _).drew⟩
  show w6.heap.size ≤ (X.alloc _).heap.size
  rw [World.size_alloc, hXs]
  omega
theorem fault_keeps {w W w9 : World} {R M b : Nat} {k er : Int} (h : RdCh R M W w9) (hR : R < b) (hM : M < b) (hw : w.heap.size + 1 < b) : KeepsFrom b W (faultW w w9 k er) := by
  have hXs : ((w9.setCell ⟨w.heap.size, 0, none⟩ (.slice none 0 0)).setCell ⟨w.heap.size + 1, 0, none⟩ (.iface 54 (.pointer (some ⟨w9.heap.size, 0, none⟩)))).heap.size = w9.heap.size := by simp
  refine ⟨?_, fun j o hj ho hc => ?_⟩
  · show W.heap.size ≤ (World.alloc _ _).heap.size
    rw [World.size_alloc, hXs]
    have := h.size
    omega
  · have h9 : w9.heap[j]? = some o := h.blk j o ho (by omega) (by omega) (fun C e => by rw [e] at hc; cases hc) (fun C e => by rw [e] at hc; cases hc)
    have hlt := lt_of_some h9
    show (World.alloc _ _).heap[j]? = _
    refine (Below.heap_alloc _ _ _ (by rw [hXs]; exact hlt)).trans ?_
    exact (heap_setCell_other _ ⟨w.heap.size + 1, 0, none⟩ j _ (by show j ≠ w.heap.size + 1; omega)).trans ((heap_setCell_other _ ⟨w.heap.size, 0, none⟩ j _ (by show j ≠ w.heap.size; omega)).trans h9)
theorem linesF_le : ∀ n s, ∀ x ∈ linesF n s, x.size ≤ s.size
  | 0, _, _, h => by cases h
  | n + 1, s, x, h => by
    unfold linesF at h
    split at h
    · cases h
    · rcases List.mem_cons.1 h with rfl | h
      · exact lineA_le s
      · have := linesF_le n _ x h
        have := lineZ_lt s (by omega)
        omega
set_option maxRecDepth 100000 in
set_option maxHeartbeats 8000000 in
theorem read_ok (s : ByteArray) (w : World) (hs : s.size ≤ 140737488355328) : Calls Tryz.prog 25 #[.string s] w (RdRes w (vb s)) := by
  refine (callsIn_wide (n := 5)).1 ?_
  have hlv := vb_len s
  by_cases hb : 65536 < s.size
  case pos =>
    have HP : Hid (parseI (vb s) = ([], 0, 3)) := by
      show _ = _
      unfold parseI
      rw [if_pos (by rw [hlv]; exact hb)]
    have hbi : (65536 : Int) < (s.size : Int) := by omega
    clear hlv
    refine callsIn_of_wp_marks Tryz.func25 rfl trivial ?_ rfl
    simp only [Tryz.ntmps25, List.size_toArray, List.length_cons, List.length_nil, Nat.reduceAdd, Nat.reduceSub, Array.replicate_succ, Array.replicate_zero, List.push_toArray, List.append_toArray, List.nil_append, List.cons_append]
    gi_wp2
    have hr2 : Row ((w.alloc (.cells #[.slice none 0 0] 22)).alloc (.cells #[.iface 54 (.pointer (some ⟨w.heap.size + 1 + 1, 0, none⟩))] 51)) w.heap.size #[.slice none 0 0] 22 := (Row.new w _ _).alloc _
    have hr3 : Row ((w.alloc (.cells #[.slice none 0 0] 22)).alloc (.cells #[.iface 54 (.pointer (some ⟨w.heap.size + 1 + 1, 0, none⟩))] 51)) (w.heap.size + 1) #[.iface 54 (.pointer (some ⟨w.heap.size + 1 + 1, 0, none⟩))] 51 := by
      have h := Row.new (w.alloc (.cells #[.slice none 0 0] 22)) #[.iface 54 (.pointer (some ⟨w.heap.size + 1 + 1, 0, none⟩))] 51
      rw [World.size_alloc] at h
      exact h
    have hr4 : Row (((w.alloc (.cells #[.slice none 0 0] 22)).alloc (.cells #[.iface 54 (.pointer (some ⟨w.heap.size + 1 + 1, 0, none⟩))] 51)).alloc (.cells #[.int .i64 0, .int .i64 3] 58)) (w.heap.size + 1 + 1) #[.int .i64 0, .int .i64 3] 58 := by
      have h := Row.new ((w.alloc (.cells #[.slice none 0 0] 22)).alloc (.cells #[.iface 54 (.pointer (some ⟨w.heap.size + 1 + 1, 0, none⟩))] 51)) #[.int .i64 0, .int .i64 3] 58
      rw [World.size_alloc, World.size_alloc] at h
      exact h
    refine ⟨_, results_rd _ _ w.heap.size (w.heap.size + 1) none 0 0 (.iface 54 (.pointer (some ⟨w.heap.size + 1 + 1, 0, none⟩))) rfl (((hr2.alloc _).cell 0).trans rfl) rfl (((hr3.alloc _).cell 0).trans rfl), ?_⟩
    refine .inr ⟨by rw [HP.out]; decide, _, rfl, by rw [HP.out]; exact hr4, (((Below.refl _ _).alloc (Nat.le_refl _) _).alloc (by simp) _).alloc (by simp; omega) _⟩
  case neg =>
    have hbi : ¬ (65536 : Int) < (s.size : Int) := by omega
    have hs6 : s.size ≤ 65536 := by omega
    have HP : Hid (parseI (vb s) = runL [] 0 ((linesOf s).map vb)) := by
      show _ = _
      unfold parseI
      rw [if_neg (by rw [hlv]; exact hb), lines_all]
    obtain ⟨wA, hwA⟩ : ∃ x, x = (w.alloc (.cells #[.slice none 0 0] 22)).alloc (.cells #[.nilIface] 51) := ⟨_, rfl⟩
    obtain ⟨w2, hw2⟩ : ∃ x, x = wA.alloc (.map #[] 0) := ⟨_, rfl⟩
    obtain ⟨w3, hw3⟩ : ∃ x, x = w2.alloc (.cells #[.slice none 0 0, .map (some wA.heap.size)] 85) := ⟨_, rfl⟩
    obtain ⟨w4, hw4⟩ : ∃ x, x = w3.alloc (.cells #[.pointer (some ⟨w2.heap.size, 0, none⟩)] 83) := ⟨_, rfl⟩
    obtain ⟨w5, hw5⟩ : ∃ x, x = w4.alloc (.cells #[.int .i64 0] 3) := ⟨_, rfl⟩
    obtain ⟨w6, hw6⟩ : ∃ x, x = w5.alloc (.cells #[.string s] 9) := ⟨_, rfl⟩
    have hl := lines_ok s w5
    rw [← hw6] at hl
    have e0 := run_makeMap_plain (P := Tryz.prog) wA 64
    rw [← hw2] at e0
    have hwA' := hwA.symm
    have hw3' := hw3.symm
    have hw4' := hw4.symm
    have sA : wA.heap.size = w.heap.size + 2 := by rw [hwA]; simp
    have s2 : w2.heap.size = w.heap.size + 3 := by rw [hw2]; simp; omega
    have s3 : w3.heap.size = w.heap.size + 4 := by rw [hw3]; simp; omega
    have s4 : w4.heap.size = w.heap.size + 5 := by rw [hw4]; simp; omega
    have s5 : w5.heap.size = w.heap.size + 6 := by rw [hw5]; simp; omega
    have s6 : w6.heap.size = w.heap.size + 7 := by rw [hw6]; simp; omega
    have b0A : Below w.heap.size w wA := by rw [hwA]; exact ((Below.refl _ _).alloc (Nat.le_refl _) _).alloc (by simp) _
    have b56 : Below w5.heap.size w5 w6 := by rw [hw6]; exact (Below.refl _ _).alloc (Nat.le_refl _) _
    have b46 : Below w4.heap.size w4 w6 := by rw [hw6, hw5]; exact ((Below.refl _ _).alloc (Nat.le_refl _) _).alloc (by simp) _
    have b36 : Below w3.heap.size w3 w6 := (show Below w3.heap.size w3 w4 by rw [hw4]; exact (Below.refl _ _).alloc (Nat.le_refl _) _).trans (b46.mono (by omega))
    have b26 : Below w2.heap.size w2 w6 := (show Below w2.heap.size w2 w3 by rw [hw3]; exact (Below.refl _ _).alloc (Nat.le_refl _) _).trans (b36.mono (by omega))
    have bA6 : Below wA.heap.size wA w6 := (show Below wA.heap.size wA w2 by rw [hw2]; exact (Below.refl _ _).alloc (Nat.le_refl _) _).trans (b26.mono (by omega))
    have b06 : Below w.heap.size w w6 := b0A.trans (bA6.mono (by omega))
    have rA0 : Row wA w.heap.size #[.slice none 0 0] 22 := by rw [hwA]; exact (Row.new w _ _).alloc _
    have rA1 : Row wA (w.heap.size + 1) #[.nilIface] 51 := by
      rw [hwA]
      have h := Row.new (w.alloc (.cells #[.slice none 0 0] 22)) #[.nilIface] 51
      rw [World.size_alloc] at h
      exact h
    have hM2 : RelAt w2 wA.heap.size [] := by rw [hw2]; exact rel_new wA
    have hR3 : Row w3 w2.heap.size #[.slice none 0 0, .map (some wA.heap.size)] 85 := by rw [hw3]; exact Row.new _ _ _
    have hR4 : Row w4 w3.heap.size #[.pointer (some ⟨w2.heap.size, 0, none⟩)] 83 := by rw [hw4]; exact Row.new _ _ _
    have hR5 : Row w5 w4.heap.size #[.int .i64 0] 3 := by rw [hw5]; exact Row.new _ _ _
    have hBs : Row w6 w5.heap.size #[.string s] 9 := by rw [hw6]; exact Row.new _ _ _
    have hLI : LI w w6 w2.heap.size wA.heap.size w3.heap.size w4.heap.size w5.heap.size [] w6 :=
      ⟨⟨[], .slice none 0 0, ⟨hR3.below b36 hR3.lt, hM2.next b26, ⟨World.ownsRow_nil _ _ _ _, (fun d h => by cases h), List.Pairwise.nil, b06⟩, by omega, by omega, Nat.zero_le _, fun d h => by cases h⟩, fun rest => rfl⟩, Nat.le_refl _, rA0.below bA6 rA0.lt, rA1.below bA6 rA1.lt, hR4.below b46 hR4.lt, hR5.below b56 hR5.lt, ⟨s, hBs⟩⟩
    have hst := lines_stops 4 (by omega) w5.heap.size s (by omega) w6 hBs
    have HLI : Hid (LI w w6 w2.heap.size wA.heap.size w3.heap.size w4.heap.size w5.heap.size [] w6) := hLI
    have HB6 : Hid (Below w.heap.size w w6) := b06
    have HS : Hid (wA.heap.size = w.heap.size + 2 ∧ w2.heap.size = w.heap.size + 3 ∧ w3.heap.size = w.heap.size + 4 ∧ w4.heap.size = w.heap.size + 5 ∧ w5.heap.size = w.heap.size + 6 ∧ w6.heap.size = w.heap.size + 7) := ⟨sA, s2, s3, s4, s5, s6⟩
    have hl' : Calls Tryz.prog 44 #[.string s] (w4.alloc (.cells #[.int .i64 0] 3)) fun e w' => e = .returned (.func (.func 69) #[] #[.pointer (some ⟨w5.heap.size, 0, none⟩)]) ∧ w' = w6 := by rw [← hw5]; exact hl
    clear hlv b0A b56 b46 b36 b26 bA6 b06 rA0 rA1 hM2 hR3 hR4 hR5 hBs hLI hw2 hwA hw3 hw4 hw5 hw6 hl sA s2 s3 s4 s5 s6
    refine callsIn_of_wp_marks Tryz.func25 rfl trivial ?_ rfl
    simp only [Tryz.ntmps25, List.size_toArray, List.length_cons, List.length_nil, Nat.reduceAdd, Nat.reduceSub, Array.replicate_succ, Array.replicate_zero, List.push_toArray, List.append_toArray, List.nil_append, List.cons_append]
    gi_wp2_with (refine ⟨trivial, ?_⟩; gi_at_call 44; refine (callsIn_wide.2 hl').mono ?_; rintro e wx ⟨rfl, hwx⟩; rw [hwx]; clear hl' hwx)
    obtain ⟨kM, kR, kc, kn, kB, s6⟩ := HS.out
    clear e0 hwA' hw3' hw4'
    generalize w2.heap.size = R at HLI kR ⊢
    generalize wA.heap.size = M at HLI kM ⊢
    generalize w3.heap.size = c at HLI kc ⊢
    generalize w4.heap.size = nb at HLI kn ⊢
    generalize w5.heap.size = Bs at HLI kB hst ⊢
    refine wpIn_rangeFunc_state rfl (by omega) (gf := 69) (lb := #[.pointer (some ⟨Bs, 0, none⟩)]) rfl trivial (enters_of Tryz.func69 (by kernel_rfl) rfl)
      hst KpL.trans (fun W o _ => KpL.alloc W o) (fun W l o o' _ h1 h2 => KpL.put W l o o' h1 h2) (fun A B k o hc h1 h2 => hc.oth k o h1 h2) (fun _ => rfl)
      (LI w w6 R M c nb Bs) (fun c pre W => c = Code.ret ∧ LX w w6 pre W) (LI.own (by omega) (by omega)) (fun c pre A B row h hg hr => ⟨h.1, LX.own (by omega) pre A B row h.2 hg hr⟩) (fun pre A B hc h => h.ch (by omega) hc) (fun c pre A B hc h => ⟨h.1, h.2.ch (by omega) (by omega) hc⟩) HLI.out
      (fun x => { tmps := #[.string s, undef, .pointer (some ⟨w.heap.size, 0, none⟩), .pointer (some ⟨w.heap.size + 1, 0, none⟩), .pointer (some ⟨c, 0, none⟩), .pointer (some ⟨nb, 0, none⟩), .string x, undef, .string s, .int .i64 s.size, .bool false, undef, undef, undef, .map (some M), .agg #[.slice none 0 0, .map (some M)], .pointer (some ⟨R, 0, none⟩), .string s, .func (.func 69) #[] #[.pointer (some ⟨Bs, 0, none⟩)], .string x, undef, undef, undef, undef, undef, undef, undef, undef, undef, undef, undef, undef, undef, undef, undef, undef], defers := [] }) ?assign ?body ?done ?stop
    case assign =>
      clear kM kR kc kn kB s6
      intro l x W K hK
      gi_wp2
      exact hK
    case body =>
      rintro l pre x W hx hI hlen
      obtain ⟨⟨D, ov, h1, h2⟩, h3, h4, h5, h6, h7, ⟨rb, h8⟩⟩ := hI
      have HK : Hid (M = w.heap.size + 2 ∧ R = w.heap.size + 3 ∧ c = w.heap.size + 4 ∧ nb = w.heap.size + 5 ∧ Bs = w.heap.size + 6 ∧ w6.heap.size = w.heap.size + 7) := ⟨kM, kR, kc, kn, kB, s6⟩
      clear kM kR kc kn kB s6
      have hln := line_ok x hx h1
      have c4 : W.cell? ⟨c, 0, none⟩ = some (.pointer (some ⟨R, 0, none⟩)) := (h6.cell 0).trans rfl
      have hpl : pre.length ≤ 65536 := by omega
      have HW : Hid (RdAt w R M D ov W ∧ RunTo pre (D.map (·.1)) ∧ w6.heap.size ≤ W.heap.size ∧ Row W w.heap.size #[.slice none 0 0] 22 ∧ Row W (w.heap.size + 1) #[.nilIface] 51 ∧ Row W c #[.pointer (some ⟨R, 0, none⟩)] 83 ∧ Row W nb #[.int .i64 pre.length] 3 ∧ Row W Bs #[.string rb] 9) := ⟨h1, h2, h3, h4, h5, h6, h7, h8⟩
      obtain ⟨er, her⟩ : ∃ er, er = (lineE (D.map (·.1)) (vb x)).1 := ⟨_, rfl⟩
      have HEr : Hid (er = (lineE (D.map (·.1)) (vb x)).1) := her
      obtain ⟨st', hst'⟩ : ∃ st', st' = (lineE (D.map (·.1)) (vb x)).2 := ⟨_, rfl⟩
      have HSt : Hid (st' = (lineE (D.map (·.1)) (vb x)).2) := hst'
      have HLn : Hid (Calls Tryz.prog 45 #[.pointer (some ⟨R, 0, none⟩), .string x] W fun e w' => ∃ ov' D', e = .returned (.int .i64 er) ∧ D'.map (·.1) = st' ∧ RdAt w R M D' ov' w' ∧ RdCh R M W w') := by
        rw [her, hst']
        exact hln
      clear hln h1 h2 h3 h4 h5 h6 h7 h8 her hst'
      have hln := HLn.out
      by_cases hz : er = 0
      · have hw1 : IntKind.i64.wrap ((pre.length : Int) + 1) = ((pre.length + 1 : Nat) : Int) := by rw [IntKind.wrap_i64]; omega
        subst hz
        gi_wp2_with (refine ⟨trivial, ?_⟩; gi_at_call 45; refine (CallsIn.inRound l (callsIn_wide.2 hln)).mono ?_; rintro e w9 ⟨ov', D', rfl, g1, g2, g3⟩; obtain ⟨i1, i2, i3, i4, i5, i6, i7, i8⟩ := HW.out; obtain ⟨kM, kR, kc, kn, kB, s6⟩ := HK.out; have q0 : Row w9 w.heap.size #[.slice none 0 0] 22 := g3.row i4 (by omega) (by omega) (by decide) (by decide); have q1 : Row w9 (w.heap.size + 1) #[.nilIface] 51 := g3.row i5 (by omega) (by omega) (by decide) (by decide); have qc : Row w9 c #[.pointer (some ⟨R, 0, none⟩)] 83 := g3.row i6 (by omega) (by omega) (by decide) (by decide); have qn : Row w9 nb #[.int .i64 pre.length] 3 := g3.row i7 (by omega) (by omega) (by decide) (by decide); have qb : Row w9 Bs #[.string rb] 9 := g3.row i8 (by omega) (by omega) (by decide) (by decide); have HQ : Hid (D'.map (·.1) = st' ∧ RdAt w R M D' ov' w9 ∧ RdCh R M W w9 ∧ Row w9 w.heap.size #[.slice none 0 0] 22 ∧ Row w9 (w.heap.size + 1) #[.nilIface] 51 ∧ Row w9 c #[.pointer (some ⟨R, 0, none⟩)] 83 ∧ Row w9 nb #[.int .i64 pre.length] 3 ∧ Row w9 Bs #[.string rb] 9) := ⟨g1, g2, g3, q0, q1, qc, qn, qb⟩; have c5 : w9.cell? ⟨nb, 0, none⟩ = some (.int .i64 pre.length) := (qn.cell 0).trans rfl; have f5 := qn.frozen 0; clear g1 g2 g3 q0 q1 qc qn qb i1 i2 i3 i4 i5 i6 i7 i8 kM kR kc kn kB s6 c4 hln)
        obtain ⟨g1, g2, g3, q0, q1, qc, qn, qb⟩ := HQ.out
        obtain ⟨i1, i2, i3, i4, i5, i6, i7, i8⟩ := HW.out
        obtain ⟨kM, kR, kc, kn, kB, s6⟩ := HK.out
        have hE : lineE (D.map (·.1)) (vb x) = (0, D'.map (·.1)) := by rw [g1, HSt.out]; exact Prod.ext HEr.out.symm rfl
        refine ⟨⟨?_, ?_⟩, ?_, ?_⟩
        · have := g3.size
          simpa using this
        · intro k o hk ho hc
          refine (Below.heap_setCell _ _ _ _ (by show k ≠ nb; omega)).trans (g3.blk k o ho (by omega) (by omega) (fun C e => ?_) (fun C e => ?_))
          · rw [e] at hc; cases hc
          · rw [e] at hc; cases hc
        · intro r hr
          exact row_oth (g3.row hr (by omega) (by omega) (by decide) (by decide)) qn (by decide) _
        · refine ⟨⟨D', ov', g2.setOther qn (by decide) (by decide) (by decide) (by omega) 0 _, i2.more hE⟩, ?_, row_oth q0 qn (by decide) _, row_oth q1 qn (by decide) _, row_oth qc qn (by decide) _, ?_, ⟨rb, row_oth qb qn (by decide) _⟩⟩
          · have := g3.size
            simp
            omega
          · have h := qn.setCell (i := 0) (.int .i64 ((pre.length + 1 : Nat) : Int))
            rw [List.length_append]
            exact h
      · have hzb := beqI hz
        gi_wp2_with (refine ⟨trivial, ?_⟩; gi_at_call 45; refine (CallsIn.inRound l (callsIn_wide.2 hln)).mono ?_; rintro e w9 ⟨ov', D', rfl, g1, g2, g3⟩; obtain ⟨i1, i2, i3, i4, i5, i6, i7, i8⟩ := HW.out; obtain ⟨kM, kR, kc, kn, kB, s6⟩ := HK.out; have q0 : Row w9 w.heap.size #[.slice none 0 0] 22 := g3.row i4 (by omega) (by omega) (by decide) (by decide); have q1 : Row w9 (w.heap.size + 1) #[.nilIface] 51 := g3.row i5 (by omega) (by omega) (by decide) (by decide); have qn : Row w9 nb #[.int .i64 pre.length] 3 := g3.row i7 (by omega) (by omega) (by decide) (by decide); have HQ : Hid (RdAt w R M D' ov' w9 ∧ RdCh R M W w9 ∧ Row w9 w.heap.size #[.slice none 0 0] 22 ∧ Row w9 (w.heap.size + 1) #[.nilIface] 51 ∧ Row w9 nb #[.int .i64 pre.length] 3) := ⟨g2, g3, q0, q1, qn⟩; clear g1 g2 g3 q0 q1 qn i1 i2 i3 i4 i5 i6 i7 i8 kM kR kc kn kB s6 c4 hln)
        obtain ⟨g2, g3, q0, q1, qn⟩ := HQ.out
        obtain ⟨kM, kR, kc, kn, kB, s6⟩ := HK.out
        have c5 : w9.cell? ⟨nb, 0, none⟩ = some (.int .i64 pre.length) := (qn.cell 0).trans rfl
        have ca : w9.cell? ⟨w.heap.size, 0, none⟩ = some (.slice none 0 0) := (q0.cell 0).trans rfl
        have fa := q0.frozen 0
        have cb : w9.cell? ⟨w.heap.size + 1, 0, none⟩ = some .nilIface := (q1.cell 0).trans rfl
        have fb := q1.frozen 0
        have l1 : nb < w9.heap.size := qn.lt
        have l2 : w.heap.size + 1 < w9.heap.size := q1.lt
        have l3 : w.heap.size < w9.heap.size := q0.lt
        have n1 : nb ≠ w.heap.size := by omega
        have n2 : nb ≠ w.heap.size + 1 := by omega
        have n3 : w9.heap.size ≠ nb := by omega
        have n4 : w9.heap.size ≠ w.heap.size := by omega
        have n5 : w9.heap.size ≠ w.heap.size + 1 := by omega
        have HLX : Hid (LX w w6 (pre ++ [x]) (faultW w w9 (pre.length : Nat) er)) := LX.make q0 q1 g2.own.old (Nat.le_trans HW.out.2.2.1 g3.size) hz (fun rest => by rw [RunTo.stop HW.out.2.1 (by rw [← HEr.out]; exact hz), HEr.out])
        have HKp : Hid (KeepsFrom w6.heap.size W (faultW w w9 (pre.length : Nat) er)) := fault_keeps g3 (by omega) (by omega) (by omega)
        clear g2 g3 q0 q1 qn kM kR kc kn kB s6
        gi_region
        all_goals (gi_wp2; exact ⟨HKp.out, rfl, HLX.out⟩)
    case done =>
      rintro D' ys W hD' rfl hI hKd
      obtain ⟨⟨D, ov, h1, h2⟩, h3, h4, h5, h6, h7, ⟨rb, h8⟩⟩ := hI
      have HQ : Hid (parseI (vb s) = (D.map (·.1), 0, 0)) := by
        show _ = _
        have h := h2 []
        rw [List.append_nil] at h
        rw [HP.out, h]
        rfl
      obtain ⟨pa, pc, rfl⟩ := slice_of h1.own.own
      obtain ⟨n, hn⟩ : ∃ n, n = D.length := ⟨_, rfl⟩
      rw [← hn] at h1
      have c4 : W.cell? ⟨c, 0, none⟩ = some (.pointer (some ⟨R, 0, none⟩)) := (h6.cell 0).trans rfl
      have cr : W.cell? ⟨R, 0, none⟩ = some (.slice pa n pc) := (h1.row.cell 0).trans rfl
      have ca : W.cell? ⟨w.heap.size, 0, none⟩ = some (.slice none 0 0) := (h4.cell 0).trans rfl
      have fa := h4.frozen 0
      have h51 : Row (W.setCell ⟨w.heap.size, 0, none⟩ (.slice pa n pc)) (w.heap.size + 1) #[.nilIface] 51 := h5.setCell_other (by omega) _
      have cb : (W.setCell ⟨w.heap.size, 0, none⟩ (.slice pa n pc)).cell? ⟨w.heap.size + 1, 0, none⟩ = some .nilIface := (h51.cell 0).trans rfl
      have fb := h51.frozen 0
      have h41 : Row ((W.setCell ⟨w.heap.size, 0, none⟩ (.slice pa n pc)).setCell ⟨w.heap.size + 1, 0, none⟩ .nilIface) w.heap.size #[.slice pa n pc] 22 := (h4.setCell (i := 0) (.slice pa n pc)).setCell_other (by omega) _
      have h52 : Row ((W.setCell ⟨w.heap.size, 0, none⟩ (.slice pa n pc)).setCell ⟨w.heap.size + 1, 0, none⟩ .nilIface) (w.heap.size + 1) #[.nilIface] 51 := h51.setCell (i := 0) .nilIface
      have hrd : RdAt w R M D (.slice pa n pc) ((W.setCell ⟨w.heap.size, 0, none⟩ (.slice pa n pc)).setCell ⟨w.heap.size + 1, 0, none⟩ .nilIface) := (h1.setOther h4 (by decide) (by decide) (by decide) (Nat.le_refl _) 0 _).setOther h51 (by decide) (by decide) (by decide) (by omega) 0 _
      have hKd2 : ((W.setCell ⟨w.heap.size, 0, none⟩ (.slice pa n pc)).setCell ⟨w.heap.size + 1, 0, none⟩ .nilIface).heap[D']? = some (.deferred (some [])) := (heap_setCell_other _ ⟨w.heap.size + 1, 0, none⟩ D' _ (by show D' ≠ w.heap.size + 1; omega)).trans ((heap_setCell_other _ ⟨w.heap.size, 0, none⟩ D' _ (by show D' ≠ w.heap.size; omega)).trans hKd)
      have hgr : ((W.setCell ⟨w.heap.size, 0, none⟩ (.slice pa n pc)).setCell ⟨w.heap.size + 1, 0, none⟩ .nilIface).grownBy (((W.setCell ⟨w.heap.size, 0, none⟩ (.slice pa n pc)).setCell ⟨w.heap.size + 1, 0, none⟩ .nilIface).putObj D' (.deferred none)) (some D') := ⟨rfl, rfl, rfl, by simp [World.putObj], fun k _ hne => World.putObj_heap_other (fun e => hne (by rw [e]))⟩
      have HRd : Hid (RdAt w R M D (.slice pa n pc) (((W.setCell ⟨w.heap.size, 0, none⟩ (.slice pa n pc)).setCell ⟨w.heap.size + 1, 0, none⟩ .nilIface).putObj D' (.deferred none))) := hrd.far (b := w6.heap.size) hgr (fun r hr => by
        obtain rfl := Option.some.inj hr
        exact ⟨hD', _, hKd2, rfl⟩) (by omega) (by omega)
      have HC1 : Hid ((((W.setCell ⟨w.heap.size, 0, none⟩ (.slice pa n pc)).setCell ⟨w.heap.size + 1, 0, none⟩ .nilIface).putObj D' (.deferred none)).cell? ⟨w.heap.size, 0, none⟩ = some (.slice pa n pc)) := ((h41.put hKd2 rfl).cell 0).trans rfl
      have HC2 : Hid ((((W.setCell ⟨w.heap.size, 0, none⟩ (.slice pa n pc)).setCell ⟨w.heap.size + 1, 0, none⟩ .nilIface).putObj D' (.deferred none)).cell? ⟨w.heap.size + 1, 0, none⟩ = some .nilIface) := ((h52.put hKd2 rfl).cell 0).trans rfl
      have HKd : Hid (((W.setCell ⟨w.heap.size, 0, none⟩ (.slice pa n pc)).setCell ⟨w.heap.size + 1, 0, none⟩ .nilIface).heap[D']? = some (.deferred (some []))) := hKd2
      clear h1 h2 h3 h4 h5 h6 h7 h8 h51 h41 h52 hrd hKd2 hgr kM kR kc kn kB s6 hn
      gi_wp2
      refine ⟨by simp, .inl ⟨_, _, rfl, run_takeDeferred HKd.out, ?_⟩⟩
      exact ⟨_, results_rd _ _ w.heap.size (w.heap.size + 1) pa n pc .nilIface rfl HC1.out rfl HC2.out, .inl ⟨by rw [HQ.out], .slice pa n pc, D, rfl, by rw [HQ.out], HRd.out.own⟩⟩
    case stop =>
      rintro D' c' pre W hD' hp' ⟨rfl, hX⟩ hKd
      obtain ⟨⟨e, k, f, h1, h2, h3, h4, h5⟩, h6, h7, h8⟩ := hX
      obtain ⟨rest, hrest⟩ := hp'
      have HQ : Hid (parseI (vb s) = ([], k, e)) := by
        show _ = _
        rw [HP.out, ← hrest, List.map_append]
        exact h2 _
      gi_wp2
      refine ⟨by simp, .inl ⟨_, _, rfl, run_takeDeferred hKd, ?_⟩⟩
      exact ⟨_, results_rd _ _ w.heap.size (w.heap.size + 1) none 0 0 (.iface 54 (.pointer (some ⟨f, 0, none⟩))) rfl (((h8.put hKd rfl).cell 0).trans rfl) rfl (((h3.put hKd rfl).cell 0).trans rfl), .inr ⟨by rw [HQ.out]; exact h1, f, rfl, by rw [HQ.out]; exact h4.put hKd rfl, below_put h6 (by omega)⟩⟩
end Go.Proofs.YtkbhckjpmgkgjaaGreatDoor
namespace Go.Proofs.YtkbhckjpmgkgjaaGreatDoor
open Go.RowKit Go.Extern.Stop Go.Stop Go.Extern
namespace AsK

theorem as_nil (t : Value) (w : World) :
    Calls Tryz.prog 26 #[.nilIface, t] w fun e w' => e = .returned (.bool false) ∧ w' = w := by
  go_enter Tryz.func26, Tryz.ntmps26
  go_wp2
  go_ret
  exact ⟨rfl, rfl⟩

theorem valueOfPP (t : Addr) (w : World) : (ReflectliteValue.unpack (.iface 56 (.pointer (some t)))).run Tryz.prog w = .ok (.agg #[.pointer (some ⟨7, 56, none⟩), .pointer (some ⟨w.heap.size, 0, none⟩), .int .u64 150]) (w.alloc (.cells #[.pointer (some t)] 56)) := by kernel_rfl
theorem valueOfP (t : Addr) (w : World) : (ReflectliteValue.unpack (.iface 54 (.pointer (some t)))).run Tryz.prog w = .ok (.agg #[.pointer (some ⟨7, 54, none⟩), .pointer (some ⟨w.heap.size, 0, none⟩), .int .u64 150]) (w.alloc (.cells #[.pointer (some t)] 54)) := by kernel_rfl
theorem typePP (a : Addr) (w : World) : (ReflectliteValue.methodAny (ReflectliteValue.valueError "reflectlite.Value.Type" 0) (fun t _ _ _ => ReflectliteType.toType t) #[.agg #[.pointer (some ⟨7, 56, none⟩), .pointer (some a), .int .u64 150]]).run Tryz.prog w = .ok (.iface 142 (.agg #[.pointer (some ⟨7, 56, none⟩)])) w := by kernel_rfl
theorem methodElem (h : Value) (w : World) : (Go.method 395 142 (.agg #[h]) "Elem").run Tryz.prog w = .ok (212, .agg #[h]) w := by kernel_rfl
theorem methodImplements (h : Value) (w : World) : (Go.method 395 142 (.agg #[h]) "Implements").run Tryz.prog w = .ok (213, .agg #[h]) w := by kernel_rfl
theorem methodAssignableTo (h : Value) (w : World) : (Go.method 395 142 (.agg #[h]) "AssignableTo").run Tryz.prog w = .ok (210, .agg #[h]) w := by kernel_rfl
theorem methodKind (h : Value) (w : World) : (Go.method 395 142 (.agg #[h]) "Kind").run Tryz.prog w = .ok (200, h) w := by kernel_rfl
theorem kindPP  (w : World) : ((ReflectliteType.abiMethod fun t => (fun a : Nat => Value.int IntKind.u8 (a : Int)) <$> Rtype.kind t) #[.pointer (some ⟨7, 56, none⟩)]).run Tryz.prog w = .ok (.int .u8 22) w := by kernel_rfl
theorem kindP  (w : World) : ((ReflectliteType.abiMethod fun t => (fun a : Nat => Value.int IntKind.u8 (a : Int)) <$> Rtype.kind t) #[.pointer (some ⟨7, 54, none⟩)]).run Tryz.prog w = .ok (.int .u8 22) w := by kernel_rfl
theorem partsPP (a : Addr) (w : World) : (ReflectliteValue.parts (.agg #[.pointer (some ⟨7, 56, none⟩), .pointer (some a), .int .u64 150])).run Tryz.prog w = .ok (some (56, a, 150)) w := by kernel_rfl
theorem partsP (a : Addr) (w : World) : (ReflectliteValue.parts (.agg #[.pointer (some ⟨7, 54, none⟩), .pointer (some a), .int .u64 150])).run Tryz.prog w = .ok (some (54, a, 150)) w := by kernel_rfl
theorem partsPa (a : Addr) (w : World) : (ReflectliteValue.parts (.agg #[.pointer (some ⟨7, 54, none⟩), .pointer (some a), .int .u64 406])).run Tryz.prog w = .ok (some (54, a, 406)) w := by kernel_rfl
theorem elemT  (w : World) : (ReflectliteType.method ReflectliteType.elem #[.agg #[.pointer (some ⟨7, 56, none⟩)]]).run Tryz.prog w = .ok (.iface 142 (.agg #[.pointer (some ⟨7, 54, none⟩)])) w := by kernel_rfl
theorem implementsP  (w : World) : (ReflectliteType.relation "Implements" ReflectliteType.implements_ #[.agg #[.pointer (some ⟨7, 54, none⟩)], .iface 142 (.agg #[.pointer (some ⟨7, 51, none⟩)])]).run Tryz.prog w = .ok (.bool true) w := by kernel_rfl
theorem assignableP  (w : World) : (ReflectliteType.relation "AssignableTo" ReflectliteType.assignableTo #[.agg #[.pointer (some ⟨7, 54, none⟩)], .iface 142 (.agg #[.pointer (some ⟨7, 54, none⟩)])]).run Tryz.prog w = .ok (.bool true) w := by kernel_rfl
theorem typeOfP (v : Value) (w : World) : (ReflectliteType.typeOf #[.iface 54 v]).run Tryz.prog w = .ok (.iface 142 (.agg #[.pointer (some ⟨7, 54, none⟩)])) w := by kernel_rfl
theorem elemOfPP  (w : World) : (Rtype.elem? 56).run Tryz.prog w = .ok (some 54) w := by kernel_rfl
theorem mkP (p : Addr) (w : World) : (ReflectliteValue.mk 54 p ReflectliteValue.flagAddr).run Tryz.prog w = .ok (.agg #[.pointer (some ⟨7, 54, none⟩), .pointer (some p), .int .u64 406]) w := by kernel_rfl
theorem directP  (w : World) : (Rtype.directlyAssignable 54 54).run Tryz.prog w = .ok (true) w := by kernel_rfl

/-- A call's first step, told. -/
theorem run_step {α β : Type} {m : Sem β} (x : Sem α) (f : α → Sem β) (hm : m = x >>= f) (v : α) (w w' : World) (hx : x.run Tryz.prog w = .ok v w') : m.run Tryz.prog w = (f v).run Tryz.prog w' := by
  subst hm
  rw [Sem.run_bind, hx, Result.andThen_ok]
theorem isNilPP (a p : Addr) (W : World) (ha : W.cell? a = some (.pointer (some p))) :
    (ReflectliteValue.method (ReflectliteValue.valueError "reflectlite.Value.IsNil" 0) ReflectliteValue.isNil #[.agg #[.pointer (some ⟨7, 56, none⟩), .pointer (some a), .int .u64 150]]).run Tryz.prog W = .ok (.bool false) W := by
  refine (run_step _ _ rfl _ W W (partsPP a W)).trans ?_
  simp [ReflectliteValue.isNil, loadVar, isAgg, underlying, Tryz.underlying56, ha, Result.andThen]
theorem elemPP (a p : Addr) (W : World) (ha : W.cell? a = some (.pointer (some p))) :
    (ReflectliteValue.method (ReflectliteValue.valueError "reflectlite.Value.Elem" 0) ReflectliteValue.elem #[.agg #[.pointer (some ⟨7, 56, none⟩), .pointer (some a), .int .u64 150]]).run Tryz.prog W = .ok (.agg #[.pointer (some ⟨7, 54, none⟩), .pointer (some p), .int .u64 406]) W := by
  refine (run_step _ _ rfl _ W W (partsPP a W)).trans ?_
  simp [ReflectliteValue.elem, loadVar, isAgg, underlying, Tryz.underlying56, ha, Result.andThen, elemOfPP, mkP]
theorem setP (ta b e : Addr) (old : Value) (W : World) (hb : W.cell? b = some (.pointer (some e))) (ht : W.cell? ta = some old) (hf : W.frozen? ta = false) :
    (ReflectliteValue.set #[.agg #[.pointer (some ⟨7, 54, none⟩), .pointer (some ta), .int .u64 406], .agg #[.pointer (some ⟨7, 54, none⟩), .pointer (some b), .int .u64 150]]).run Tryz.prog W = .ok (.tuple #[]) (W.setCell ta (.pointer (some e))) := by
  refine (run_step _ _ rfl _ W W (partsPa ta W)).trans ?_
  refine (run_step _ _ rfl _ W W (partsP b W)).trans ?_
  simp [ReflectliteValue.flagAddr, loadVar, isAgg, underlying, Tryz.underlying54, hb, Result.andThen, directP, storeVar, Value.cells, storeCells, Addr.add]
  rw [run_store Tryz.prog W ta _ _ (by rfl)]
  simp [ht, hf]


set_option maxRecDepth 20000 in
set_option maxHeartbeats 4000000 in
theorem as_hit (e t : Addr) (old : Value) (w : World) (hg : w.cell? ⟨0, 0, none⟩ = some (.iface 142 (.agg #[.pointer (some ⟨7, 51, none⟩)]))) (ht0 : w.cell? t = some old) (hf0 : w.frozen? t = false) :
    Calls Tryz.prog 26 #[.iface 54 (.pointer (some e)), .iface 56 (.pointer (some t))] w fun ev w' => ev = .returned (.bool true) ∧ w' = ((((w.alloc (.cells #[.pointer (some t)] 56)).alloc (.cells #[.pointer (some ⟨7, 56, none⟩), .pointer (some ⟨w.heap.size, 0, none⟩), .int .u64 150] 93)).alloc (.cells #[.pointer (some ⟨7, 56, none⟩), .pointer (some ⟨w.heap.size, 0, none⟩), .int .u64 150] 93)).alloc (.cells #[.pointer (some e)] 54)).setCell t (.pointer (some e)) := by
  have x0 := @run_callFunc_extern Tryz.prog 46 _ (fun args => ReflectliteValue.unpack (args.getD 0 (.tuple #[]))) Tryz.func46 (by kernel_rfl) (by kernel_rfl) (by kernel_rfl) (by kernel_rfl)
  have x1 := @run_callFunc_extern Tryz.prog 47 _ (ReflectliteValue.methodAny (ReflectliteValue.valueError "reflectlite.Value.Type" 0) (fun t _ _ _ => ReflectliteType.toType t)) Tryz.func47 (by kernel_rfl) (by kernel_rfl) (by kernel_rfl) (by kernel_rfl)
  have x2 := @run_callFunc_extern Tryz.prog 48 _ (ReflectliteValue.method (ReflectliteValue.valueError "reflectlite.Value.IsNil" 0) ReflectliteValue.isNil) Tryz.func48 (by kernel_rfl) (by kernel_rfl) (by kernel_rfl) (by kernel_rfl)
  have x3 := @run_callFunc_extern Tryz.prog 200 _ (ReflectliteType.abiMethod fun t => do pure (.int .u8 (← Rtype.kind t))) Tryz.func200 (by kernel_rfl) (by kernel_rfl) (by kernel_rfl) (by kernel_rfl)
  have x4 := @run_callFunc_extern Tryz.prog 212 _ (ReflectliteType.method ReflectliteType.elem) Tryz.func212 (by kernel_rfl) (by kernel_rfl) (by kernel_rfl) (by kernel_rfl)
  have x5 := @run_callFunc_extern Tryz.prog 213 _ (ReflectliteType.relation "Implements" ReflectliteType.implements_) Tryz.func213 (by kernel_rfl) (by kernel_rfl) (by kernel_rfl) (by kernel_rfl)
  have x6 := @run_callFunc_extern Tryz.prog 75 _ ReflectliteType.typeOf Tryz.func75 (by kernel_rfl) (by kernel_rfl) (by kernel_rfl) (by kernel_rfl)
  have x7 := @run_callFunc_extern Tryz.prog 210 _ (ReflectliteType.relation "AssignableTo" ReflectliteType.assignableTo) Tryz.func210 (by kernel_rfl) (by kernel_rfl) (by kernel_rfl) (by kernel_rfl)
  have x8 := @run_callFunc_extern Tryz.prog 76 _ (ReflectliteValue.method (ReflectliteValue.valueError "reflectlite.Value.Elem" 0) ReflectliteValue.elem) Tryz.func76 (by kernel_rfl) (by kernel_rfl) (by kernel_rfl) (by kernel_rfl)
  have x9 := @run_callFunc_extern Tryz.prog 77 _ ReflectliteValue.set Tryz.func77 (by kernel_rfl) (by kernel_rfl) (by kernel_rfl) (by kernel_rfl)
  have y0 := valueOfPP
  have y1 := valueOfP
  have y2 := typePP
  have y3 := methodElem
  have y4 := methodImplements
  have y5 := methodAssignableTo
  have y6 := methodKind
  have y7 := kindPP
  have y8 := kindP
  have y9 := elemT
  have y10 := implementsP
  have y11 := assignableP
  have y12 := typeOfP
  have n8 := isNilPP ⟨w.heap.size, 0, none⟩ t ((w.alloc (.cells #[.pointer (some t)] 56)).alloc (.cells #[.pointer (some ⟨7, 56, none⟩), .pointer (some ⟨w.heap.size, 0, none⟩), .int .u64 150] 93)) (by simp)
  have hlt : 0 < w.heap.size := World.block_lt_of_cell? w ⟨0, 0, none⟩ hg
  have htl : t.block < w.heap.size := World.block_lt_of_cell? w t ht0
  have hg2 : ((w.alloc (.cells #[.pointer (some t)] 56)).alloc (.cells #[.pointer (some ⟨7, 56, none⟩), .pointer (some ⟨w.heap.size, 0, none⟩), .int .u64 150] 93)).cell? ⟨0, 0, none⟩ = some (.iface 142 (.agg #[.pointer (some ⟨7, 51, none⟩)])) := by
    rw [World.cell?_alloc_lt _ _ ⟨0, 0, none⟩ (by simp <;> omega), World.cell?_alloc_lt _ _ ⟨0, 0, none⟩ hlt]; exact hg
  have el := elemPP ⟨w.heap.size, 0, none⟩ t (((w.alloc (.cells #[.pointer (some t)] 56)).alloc (.cells #[.pointer (some ⟨7, 56, none⟩), .pointer (some ⟨w.heap.size, 0, none⟩), .int .u64 150] 93)).alloc (.cells #[.pointer (some ⟨7, 56, none⟩), .pointer (some ⟨w.heap.size, 0, none⟩), .int .u64 150] 93)) (by rw [World.cell?_alloc_lt _ _ ⟨w.heap.size, 0, none⟩ (by simp; omega)]; simp)
  have st := setP t ⟨w.heap.size + 1 + 1 + 1, 0, none⟩ e old ((((w.alloc (.cells #[.pointer (some t)] 56)).alloc (.cells #[.pointer (some ⟨7, 56, none⟩), .pointer (some ⟨w.heap.size, 0, none⟩), .int .u64 150] 93)).alloc (.cells #[.pointer (some ⟨7, 56, none⟩), .pointer (some ⟨w.heap.size, 0, none⟩), .int .u64 150] 93)).alloc (.cells #[.pointer (some e)] 54))
    (by rw [World.cell?_alloc_at _ _ _ _ (by simp)]; rfl)
    (by rw [World.cell?_alloc_lt _ _ t (by simp; omega), World.cell?_alloc_lt _ _ t (by simp; omega), World.cell?_alloc_lt _ _ t (by simp; omega), World.cell?_alloc_lt _ _ t htl]; exact ht0)
    (by rw [World.frozen?_alloc_old _ _ t (by simp; omega), World.frozen?_alloc_old _ _ t (by simp; omega), World.frozen?_alloc_old _ _ t (by simp; omega), World.frozen?_alloc_old _ _ t (Nat.ne_of_lt htl)]; exact hf0)
  go_enter Tryz.func26, Tryz.ntmps26
  go_wp2
  refine wp_loop_rounds 1 ?_
  rw [rounds_succ]
  go_wp2
  go_ret
  exact ⟨rfl, rfl⟩
end AsK
end Go.Proofs.YtkbhckjpmgkgjaaGreatDoor
namespace Go.Proofs.YtkbhckjpmgkgjaaGreatDoor
open Go.RowKit

def GH (w : World) : Prop := w.cell? ⟨0, 0, none⟩ = some (.iface 142 (.agg #[.pointer (some ⟨7, 51, none⟩)]))
theorem GH.below {w w' : World} (h : GH w) (hb : Below w.heap.size w w') : GH w' := (hb.cell (World.block_lt_of_cell? _ _ h)).trans h
/-- What Parse tells. -/
def PaRes (w : World) (l : By) (e : Ending) (w' : World) : Prop :=
  ((parseI l).2.2 = 0 ∧ ∃ ov D, e = .returned (.tuple #[ov, .int .i64 0, .int .i64 0]) ∧ D.map (·.1) = (parseI l).1 ∧ OwR w w' D ov) ∨ ((parseI l).2.2 ≠ 0 ∧ e = .returned (.tuple #[.slice none 0 0, .int .i64 (parseI l).2.1, .int .i64 (parseI l).2.2]) ∧ Below w.heap.size w w')
set_option maxRecDepth 40000 in
set_option maxHeartbeats 8000000 in
theorem indexParse_ok (s : ByteArray) (w : World) (hs : s.size ≤ 140737488355328) (hG : GH w) : Calls Tryz.prog 7 #[.string s] w (PaRes w (vb s)) := by
  have hrd := read_ok s w hs
  have HG : Hid (GH w) := hG
  obtain ⟨at', hat⟩ : ∃ at', at' = (parseI (vb s)).2.1 := ⟨_, rfl⟩
  obtain ⟨er, her⟩ : ∃ er, er = (parseI (vb s)).2.2 := ⟨_, rfl⟩
  obtain ⟨RP, hRP⟩ : ∃ RP, RP = PaRes w (vb s) := ⟨_, rfl⟩
  have HRP1 : Hid (∀ ov D w', er = 0 → D.map (·.1) = (parseI (vb s)).1 → OwR w w' D ov → RP (.returned (.tuple #[ov, .int .i64 0, .int .i64 0])) w') := fun ov D w' h1 h2 h3 => by rw [hRP]; exact .inl ⟨her ▸ h1, ov, D, rfl, h2, h3⟩
  have HRP2 : Hid (∀ w', er ≠ 0 → Below w.heap.size w w' → RP (.returned (.tuple #[.slice none 0 0, .int .i64 at', .int .i64 er])) w') := fun w' h1 h2 => by rw [hRP]; exact .inr ⟨her ▸ h1, by rw [hat, her], h2⟩
  unfold RdRes at hrd
  rw [← hat, ← her] at hrd
  rw [← hRP]
  clear hRP hat her hG
  go_enter Tryz.func7, Tryz.ntmps7
  go_wp2_with fail
  refine hrd.mono ?_
  rintro e w1 (⟨h0, ov, D, rfl, hD, hO⟩ | ⟨h0, k, rfl, hk, hb⟩)
  · obtain ⟨w2, hw2⟩ : ∃ x, x = w1.alloc (.cells #[.pointer none] 54) := ⟨_, rfl⟩
    have hw2' := hw2.symm
    have hO2 : OwR w w2 D ov := hO.next (by rw [hw2]; exact (Below.refl _ _).alloc (Nat.le_refl _) _)
    have HF : Hid (RP (.returned (.tuple #[ov, .int .i64 0, .int .i64 0])) w2) := HRP1.out ov D w2 h0 hD hO2
    have has := AsK.as_nil (.iface 56 (.pointer (some ⟨w1.heap.size, 0, none⟩))) w2
    obtain ⟨pa, pc, rfl⟩ := slice_of hO.own
    clear hrd hO hO2 hw2 hD h0
    go_wp2_with (go_at_call 26; refine has.mono ?_; rintro e w3 ⟨rfl, hw3⟩; rw [hw3]; clear hw3 has)
    go_ret3
    exact HF.out
  · obtain ⟨w2, hw2⟩ : ∃ x, x = w1.alloc (.cells #[.pointer none] 54) := ⟨_, rfl⟩
    have hw2' := hw2.symm
    have hb2 : Below w1.heap.size w1 w2 := by rw [hw2]; exact (Below.refl _ _).alloc (Nat.le_refl _) _
    have hr2 : Row w2 w1.heap.size #[.pointer none] 54 := by rw [hw2]; exact Row.new _ _ _
    have hb02 : Below w.heap.size w w2 := hb.trans (hb2.mono hb.size)
    have hg2 := HG.out.below hb02
    have hk2 : Row w2 k #[.int .i64 at', .int .i64 er] 58 := hk.below hb2 hk.lt
    have has := AsK.as_hit ⟨k, 0, none⟩ ⟨w1.heap.size, 0, none⟩ (.pointer none) w2 hg2 ((hr2.cell 0).trans rfl) (hr2.frozen 0)
    have hkw : k ≠ w1.heap.size := Nat.ne_of_lt hk.lt
    have hw1s : w.heap.size ≤ w1.heap.size := hb.size
    have HB02 : Hid (Below w.heap.size w w2) := hb02
    have HR2 : Hid (Row w2 w1.heap.size #[.pointer none] 54) := hr2
    have HK2 : Hid (Row w2 k #[.int .i64 at', .int .i64 er] 58) := hk2
    have H0 : Hid (er ≠ 0) := h0
    clear hrd hw2 hb2 hr2 hb02 hg2 hk2 hk hb h0
    go_wp2_with (go_at_call 26; refine has.mono ?_; rintro e w9 ⟨rfl, hw9⟩; have HX : Hid (∃ X, Below w2.heap.size w2 X ∧ w9 = X.setCell ⟨w1.heap.size, 0, none⟩ (.pointer (some ⟨k, 0, none⟩))) := ⟨_, (((((Below.refl _ _).alloc (Nat.le_refl _) _).alloc (by simp) _).alloc (by simp; omega) _).alloc (by simp; omega) _), hw9⟩; clear hw9 has)
    obtain ⟨X, hX1, hX2⟩ := HX.out
    have hrx : Row X w1.heap.size #[.pointer none] 54 := HR2.out.below hX1 HR2.out.lt
    have hkx : Row X k #[.int .i64 at', .int .i64 er] 58 := HK2.out.below hX1 HK2.out.lt
    have hr9 : Row (X.setCell ⟨w1.heap.size, 0, none⟩ (.pointer (some ⟨k, 0, none⟩))) w1.heap.size #[.pointer (some ⟨k, 0, none⟩)] 54 := hrx.setCell (i := 0) _
    have hk9 : Row (X.setCell ⟨w1.heap.size, 0, none⟩ (.pointer (some ⟨k, 0, none⟩))) k #[.int .i64 at', .int .i64 er] 58 := hkx.setCell_other hkw _
    have hb9 : Below w.heap.size w (X.setCell ⟨w1.heap.size, 0, none⟩ (.pointer (some ⟨k, 0, none⟩))) := (HB02.out.trans (hX1.mono HB02.out.size)).trans (below_set hw1s _ _)
    rw [← hX2] at hr9 hk9 hb9
    have ct : w9.cell? ⟨w1.heap.size, 0, none⟩ = some (.pointer (some ⟨k, 0, none⟩)) := (hr9.cell 0).trans rfl
    have ck0 : w9.cell? ⟨k, 0, none⟩ = some (.int .i64 at') := (hk9.cell 0).trans rfl
    have ck1 : w9.cell? ⟨k, 1, none⟩ = some (.int .i64 er) := (hk9.cell 1).trans rfl
    have HB9 : Hid (Below w.heap.size w w9) := hb9
    clear hX1 hX2 hrx hkx hr9 hk9 hb9 hw2'
    go_quiet (fail)
    generalize hwq : w9.drewN _ = wB at *
    have HB : Hid (RP (.returned (.tuple #[.slice none 0 0, .int .i64 at', .int .i64 er])) wB) := HRP2.out wB H0.out (by rw [← hwq]; exact HB9.out.trans ⟨rfl, rfl, rfl, Nat.le_refl _, fun _ _ => rfl⟩)
    clear hwq
    go_wp2
    go_ret3
    exact HB.out
end Go.Proofs.YtkbhckjpmgkgjaaGreatDoor
