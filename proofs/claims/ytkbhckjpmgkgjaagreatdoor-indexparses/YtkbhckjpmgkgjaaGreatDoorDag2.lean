/- My own work: statements that draw their order: reads and operations that stand alone first, in the order that is told; then the rest, whichever comes up. -/
import Derived.Test.YtkbhckjpmgkgjaaGreatDoorDag
namespace Go.Proofs.YtkbhckjpmgkgjaaGreatDoor
open Go.RowKit
section
variable {P : Program} {ops : Array Oper} {md : Region.Mode} {S : World → Prop}
def permT (md : Region.Mode) (ops : Array Oper) (last : Array Bool) : List (Bool × Nat) → Array Bool → Bool
  | [], listed => decide (listed = last)
  | (true, k) :: fs, listed => decide (Region.ready md ops listed = [k]) && permT md ops last fs (listed.setIfInBounds k true)
  | (false, k) :: fs, listed => (Region.ready md ops listed).contains k && Region.free md ops listed k && permT md ops last fs (listed.setIfInBounds k true)
theorem wpAnyH_permT {Q : Act → World → Prop} (hs : Region.noSelect ops = true) (last : Array Bool) (n : Nat) : ∀ (fs : List (Bool × Nat)) (listed : Array Bool) (a : Act) (w : World),
    permT md ops last fs listed = true → S w → wpPermA P ops S (fun a w => S w → wpAnyH P md ops (Only Q) S n last a w) fs a w → wpAnyH P md ops (Only Q) S (fs.length + n) listed a w
  | [], listed, a, w, hB, hS, h => by
    have e : listed = last := by simpa [permT] using hB
    subst e
    have h' : S w → wpAnyH P md ops (Only Q) S n listed a w := h
    simpa using h' hS
  | (true, k) :: fs, listed, a, w, hB, hS, h => by
    simp only [permT, Bool.and_eq_true, decide_eq_true_eq] at hB
    obtain ⟨o, h0, hw, hwp⟩ := h
    rw [List.length_cons, Nat.add_right_comm]
    refine wpAnyH_all hB.1 (by simp) fun i hi => ?_
    have hik : i = k := by simpa using hi
    subst hik
    unfold wpOp
    simp only [h0, hw, if_true]
    refine .inl (wp_monoQ (fun _ _ _ h => h.elim) (Oper.wp_mono (fun a' w' h' => ?_) hwp))
    exact ⟨h'.1, wpAnyH_permT hs last n fs _ a' w' hB.2 h'.1 h'.2⟩
  | (false, k) :: fs, listed, a, w, hB, hS, h => by
    simp only [permT, Bool.and_eq_true] at hB
    obtain ⟨o, h0, v, hy, h'⟩ := h
    have := wpAnyH_take (fuel := fs.length + n) h0 hs hB.1.2 hB.1.1 (fun _ _ _ h => h.elim) hy hS (wpAnyH_permT hs last n fs _ _ w hB.2 hS h')
    rw [List.length_cons, Nat.add_right_comm]
    exact this
theorem wp_region_dag2 {id : Nat} {Q : Exit → Act → World → Prop} {a : Act} {w : World} {l : List Oper} (fs : List (Bool × Nat)) (last : Array Bool) (n : Nat) (S : World → Prop) (hm : P.follows .mixedOrders = true)
    (hB : (Region.noSelect l.toArray && (decide (fs.length + n = l.length) && permT .any l.toArray last fs (Array.replicate l.length false))) = true) (hS : S w.drew)
    (h : wpPermA P l.toArray S (fun a w => S w → wpAnyH P .any l.toArray (Only (Q .normal)) S n last a w) fs a w.drew) : (Code.region id l.toArray true).wp P Q a w := by
  simp only [Bool.and_eq_true, decide_eq_true_eq] at hB
  refine wp_region_any hm ?_
  have h1 := wpAnyH_permT (md := .any) (Q := Q .normal) hB.1 last n fs _ a w.drew hB.2.2 hS h
  have h2 := wpAny_monoQ (Q' := Q) (fun e a w h => by cases e <;> first | exact h | exact h.elim) _ _ _ _ (wpAny_of_held _ _ _ _ h1)
  rw [hB.2.1] at h2
  simpa using h2
variable {Q : Act → World → Prop} {a : Act} {w : World} {o : Oper} {i fuel : Nat} {listed : Array Bool}
theorem d_call (d : Option Tmp) (hi : ops[i]? = some o) (hd : o.dst = d) (hw : Region.wanted o (yielded ops a.tmps) = true) (f : FuncId) (args : Array Value) (h : (execOp a.eval o).run P w = .ok (.enter f args) w)
    (hc : Calls P f args w fun e w' => ∃ v, e = .returned v ∧ S w' ∧ wpAnyH P md ops (Only Q) S fuel (listed.setIfInBounds i true) (a.put d v) w') : DOp P md ops Q S fuel listed i a w := by
  refine ⟨o, hi, hw, ?_⟩
  unfold Oper.wp
  rw [h]
  simp only [Oper.upon]
  refine hc.mono ?_
  rintro e w' ⟨v, rfl, h1, h2⟩
  subst hd
  exact ⟨h1, h2⟩
/-- The rest in one order. -/
theorem d_rest (fs : List (Bool × Nat)) (hB : (Region.noSelect ops && (decide (fs.length = fuel) && permA md ops fs listed)) = true) (hS : S w) (h : wpPermA P ops S Q fs a w) : wpAnyH P md ops (Only Q) S fuel listed a w := by
  simp only [Bool.and_eq_true, decide_eq_true_eq] at hB
  have := wpAnyH_permA (md := md) (Q := Q) hB.1 fs listed a w hB.2.2 hS h
  rw [hB.2.1] at this
  exact this
end
end Go.Proofs.YtkbhckjpmgkgjaaGreatDoor
