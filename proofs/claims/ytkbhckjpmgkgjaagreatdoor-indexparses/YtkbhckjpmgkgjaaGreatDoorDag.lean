/- Statements that draw their order: what only reads is taken first; of the rest every order is gone through. -/
import Derived.Test.YtkbhckjpmgkgjaaGreatDoorPermA
namespace Go.Proofs.YtkbhckjpmgkgjaaGreatDoor
open Go.RowKit
section
variable {P : Program} {ops : Array Oper} {md : Region.Mode} {S : World → Prop}

def permR (md : Region.Mode) (ops : Array Oper) (last : Array Bool) : List (Bool × Nat) → Array Bool → Bool
  | [], listed => decide (listed = last)
  | (true, _) :: _, _ => false
  | (false, k) :: fs, listed => (Region.ready md ops listed).contains k && Region.free md ops listed k && permR md ops last fs (listed.setIfInBounds k true)

theorem wpAnyH_permR {Q : Act → World → Prop} (hs : Region.noSelect ops = true) (last : Array Bool) (n : Nat) : ∀ (fs : List (Bool × Nat)) (listed : Array Bool) (a : Act) (w : World),
    permR md ops last fs listed = true → S w → wpPermA P ops S (fun a w => wpAnyH P md ops (Only Q) S n last a w) fs a w → wpAnyH P md ops (Only Q) S (fs.length + n) listed a w
  | [], listed, a, w, hB, _, h => by
    have e : listed = last := by simpa [permR] using hB
    subst e
    have h' : wpAnyH P md ops (Only Q) S n listed a w := h
    simpa using h'
  | (true, k) :: fs, listed, a, w, hB, hS, h => by simp [permR] at hB
  | (false, k) :: fs, listed, a, w, hB, hS, h => by
    simp only [permR, Bool.and_eq_true] at hB
    obtain ⟨o, h0, v, hy, h'⟩ := h
    have := wpAnyH_take (fuel := fs.length + n) h0 hs hB.1.2 hB.1.1 (fun _ _ _ h => h.elim) hy hS (wpAnyH_permR hs last n fs _ _ w hB.2 hS h')
    rw [List.length_cons, Nat.add_right_comm]
    exact this

/-- Reads first, in the order that is told; then the rest, whichever comes up. -/
theorem wp_region_dag {id : Nat} {Q : Exit → Act → World → Prop} {a : Act} {w : World} {l : List Oper} (fs : List (Bool × Nat)) (last : Array Bool) (n : Nat) (S : World → Prop) (hm : P.follows .mixedOrders = true)
    (hB : (Region.noSelect l.toArray && (decide (fs.length + n = l.length) && permR .any l.toArray last fs (Array.replicate l.length false))) = true) (hS : S w.drew)
    (h : wpPermA P l.toArray S (fun a w => wpAnyH P .any l.toArray (Only (Q .normal)) S n last a w) fs a w.drew) : (Code.region id l.toArray true).wp P Q a w := by
  simp only [Bool.and_eq_true, decide_eq_true_eq] at hB
  refine wp_region_any hm ?_
  have h1 := wpAnyH_permR (md := .any) (Q := Q .normal) hB.1 last n fs _ a w.drew hB.2.2 hS h
  have h2 := wpAny_monoQ (Q' := Q) (fun e a w h => by cases e <;> first | exact h | exact h.elim) _ _ _ _ (wpAny_of_held _ _ _ _ h1)
  rw [hB.2.1] at h2
  simpa using h2

/-- One operation of those that may come up. -/
def DOp (P : Program) (md : Region.Mode) (ops : Array Oper) (Q : Act → World → Prop) (S : World → Prop) (fuel : Nat) (listed : Array Bool) (i : Nat) (a : Act) (w : World) : Prop :=
  ∃ o, ops[i]? = some o ∧ Region.wanted o (yielded ops a.tmps) = true ∧ o.wp P a w (fun a' w' => S w' ∧ wpAnyH P md ops (Only Q) S fuel (listed.setIfInBounds i true) a' w') (fun _ _ _ => False)
variable {Q : Act → World → Prop} {a : Act} {w : World} {o : Oper} {i j k fuel : Nat} {listed : Array Bool}
theorem DOp.op (h : DOp P md ops Q S fuel listed i a w) : wpOp P ops (Only Q) i (fun a' w' => S w' ∧ wpAnyH P md ops (Only Q) S fuel (listed.setIfInBounds i true) a' w') a w := by
  obtain ⟨o, h0, hw, hwp⟩ := h
  unfold wpOp
  simp only [h0, hw, if_true]
  exact .inl (wp_monoQ (fun _ _ _ h => h.elim) hwp)
theorem d_one (hr : Region.ready md ops listed = [i]) (h : DOp P md ops Q S fuel listed i a w) : wpAnyH P md ops (Only Q) S (fuel + 1) listed a w :=
  wpAnyH_all hr (by simp) fun x hx => by
    obtain rfl : x = i := by simpa using hx
    exact h.op
theorem d_two (hr : Region.ready md ops listed = [i, j]) (h : DOp P md ops Q S fuel listed i a w) (h2 : DOp P md ops Q S fuel listed j a w) : wpAnyH P md ops (Only Q) S (fuel + 1) listed a w :=
  wpAnyH_all hr (by simp) fun x hx => by
    rcases (by simpa using hx : x = i ∨ x = j) with rfl | rfl
    · exact h.op
    · exact h2.op
theorem d_three (hr : Region.ready md ops listed = [i, j, k]) (h : DOp P md ops Q S fuel listed i a w) (h2 : DOp P md ops Q S fuel listed j a w) (h3 : DOp P md ops Q S fuel listed k a w) : wpAnyH P md ops (Only Q) S (fuel + 1) listed a w :=
  wpAnyH_all hr (by simp) fun x hx => by
    rcases (by simpa using hx : x = i ∨ x = j ∨ x = k) with rfl | rfl | rfl
    · exact h.op
    · exact h2.op
    · exact h3.op
theorem d_done (hr : Region.ready md ops listed = []) (h : Q a w) : wpAnyH P md ops (Only Q) S 0 listed a w := ⟨hr, h⟩
theorem d_alone (d : Option Tmp) (v : Value) (w' : World) (hi : ops[i]? = some o) (hd : o.dst = d) (hw : Region.wanted o (yielded ops a.tmps) = true) (h : (execOp a.eval o).run P w = .ok (.value v) w') (hS : S w')
    (k : wpAnyH P md ops (Only Q) S fuel (listed.setIfInBounds i true) (a.put d v) w') : DOp P md ops Q S fuel listed i a w := by
  refine ⟨o, hi, hw, ?_⟩
  unfold Oper.wp
  rw [h]
  subst hd
  exact ⟨hS, k⟩
theorem d_wp (hi : ops[i]? = some o) (hw : Region.wanted o (yielded ops a.tmps) = true) (h : o.wp P a w (fun a' w' => S w' ∧ wpAnyH P md ops (Only Q) S fuel (listed.setIfInBounds i true) a' w') (fun _ _ _ => False)) : DOp P md ops Q S fuel listed i a w := ⟨o, hi, hw, h⟩
end
end Go.Proofs.YtkbhckjpmgkgjaaGreatDoor
