/- My own work: sets that no call made: And, Or, Not, Same, Empty, Text, Has. -/
import Derived.Test.YtkbhckjpmgkgjaaGreatDoorSP2
import Derived.Test.YtkbhckjpmgkgjaaGreatDoorV11
namespace Go.Proofs.YtkbhckjpmgkgjaaGreatDoor
open Go.RowKit

/-- A set that is nil, or that no call made. -/
def NoSet (w : World) (p : Value) (B : Nat) : Prop := p = .pointer none ∨ ∃ (g : Nat) (v : Value), p = .pointer (some ⟨g, 0, none⟩) ∧ g < B ∧ Row w g #[.bool false, v] 213
theorem NoSet.keep {w w' : World} {p : Value} {B : Nat} (h : NoSet w p B) (hb : Below B w w') : NoSet w' p B := by
  rcases h with rfl | ⟨g, v, h1, h2, h3⟩
  · exact Or.inl rfl
  · exact Or.inr ⟨g, v, h1, h2, h3.below hb h2⟩
/-- What isMade tells. -/
def Made (b : Bool) (w : World) (p : Value) : Prop := Calls Tryz.prog 130 #[p] w fun e w' => e = .returned (.bool b) ∧ w' = w
theorem NoSet.made {w : World} {p : Value} {B : Nat} (h : NoSet w p B) : Made false w p := by
  rcases h with rfl | ⟨g, v, rfl, _, h3⟩
  · exact isMade_nil w
  · exact isMade_at w g false v h3
theorem SetAt.made {w : World} {p : Value} {L : List Cut} {B : Nat} (h : SetAt w p L B) : Made true w p := isMade_sp h
set_option maxHeartbeats 800000 in
theorem together_no1 {w : World} {p : Value} (q f : Value) (h : Made false w p) : Calls Tryz.prog 113 #[p, q, f] w fun e w' => e = .returned (.pointer none) ∧ w' = w := by
  unfold Made at h
  go_enter Tryz.func113, Tryz.ntmps113
  go_wp2_with (go_at_call 130; refine h.mono ?_; rintro e w1 ⟨rfl, hw1⟩; rw [hw1]; clear hw1)
  go_ret
  exact ⟨rfl, rfl⟩
set_option maxHeartbeats 800000 in
theorem together_no2 {w : World} {p q : Value} (f : Value) (h : Made true w p) (k : Made false w q) : Calls Tryz.prog 113 #[p, q, f] w fun e w' => e = .returned (.pointer none) ∧ w' = w := by
  unfold Made at h k
  go_enter Tryz.func113, Tryz.ntmps113
  go_wp2_with fail
  refine h.mono ?_
  rintro e w1 ⟨rfl, hw1⟩
  rw [hw1]
  clear hw1 h
  go_wp2_with fail
  refine k.mono ?_
  rintro e w1 ⟨rfl, hw1⟩
  rw [hw1]
  clear hw1 k
  go_wp2
  go_ret
  exact ⟨rfl, rfl⟩
abbrev fnAnd : Value := .func (.func 146) #[] #[]
abbrev fnOr : Value := .func (.func 114) #[] #[]
set_option maxHeartbeats 400000 in
theorem and_by {w : World} {p q : Value} {S : Value → World → Prop} (h : Calls Tryz.prog 113 #[p, q, fnAnd] w fun e w' => ∃ v, e = .returned v ∧ S v w') : Calls Tryz.prog 112 #[p, q] w fun e w' => ∃ v, e = .returned v ∧ S v w' := by
  go_enter Tryz.func112, Tryz.ntmps112
  go_wp2_with fail
  refine h.mono ?_
  rintro e w1 ⟨v, rfl, h1⟩
  clear h
  go_wp2
  go_ret
  exact ⟨v, rfl, h1⟩
set_option maxHeartbeats 400000 in
theorem or_by {w : World} {p q : Value} {S : Value → World → Prop} (h : Calls Tryz.prog 113 #[p, q, fnOr] w fun e w' => ∃ v, e = .returned v ∧ S v w') : Calls Tryz.prog 88 #[p, q] w fun e w' => ∃ v, e = .returned v ∧ S v w' := by
  go_enter Tryz.func88, Tryz.ntmps88
  go_wp2_with fail
  refine h.mono ?_
  rintro e w1 ⟨v, rfl, h1⟩
  clear h
  go_wp2
  go_ret
  exact ⟨v, rfl, h1⟩
theorem nil_of {w : World} {f : FuncId} {args : Array Value} (h : Calls Tryz.prog f args w fun e w' => e = .returned (.pointer none) ∧ w' = w) : Calls Tryz.prog f args w fun e w' => ∃ v, e = .returned v ∧ (v = .pointer none ∧ w' = w) := h.mono fun _ _ h => ⟨_, h.1, rfl, h.2⟩
/-- No set. -/
abbrev NilAt (w : World) (e : Ending) (w' : World) : Prop := e = .returned (.pointer none) ∧ w' = w
theorem nil_to {w : World} : ∀ e w', (∃ v, e = Ending.returned v ∧ (v = .pointer none ∧ w' = w)) → NilAt w e w' := fun _ _ ⟨_, h1, h2, h3⟩ => ⟨by rw [h1, h2], h3⟩
theorem and_no1 {w : World} {p : Value} (q : Value) (h : Made false w p) : Calls Tryz.prog 112 #[p, q] w (NilAt w) := (and_by (nil_of (together_no1 q fnAnd h))).mono nil_to
theorem and_no2 {w : World} {p q : Value} (h : Made true w p) (k : Made false w q) : Calls Tryz.prog 112 #[p, q] w (NilAt w) := (and_by (nil_of (together_no2 fnAnd h k))).mono nil_to
theorem or_no1 {w : World} {p : Value} (q : Value) (h : Made false w p) : Calls Tryz.prog 88 #[p, q] w (NilAt w) := (or_by (nil_of (together_no1 q fnOr h))).mono nil_to
theorem or_no2 {w : World} {p q : Value} (h : Made true w p) (k : Made false w q) : Calls Tryz.prog 88 #[p, q] w (NilAt w) := (or_by (nil_of (together_no2 fnOr h k))).mono nil_to
end Go.Proofs.YtkbhckjpmgkgjaaGreatDoor
