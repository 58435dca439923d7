/- My own work: sets that no call made: And, Or, Not, Same, Empty, Text, Has. -/
import Derived.Test.YtdhmlcelofnkgaaDoorSP2
import Derived.Test.YtdhmlcelofnkgaaDoorV11
namespace Go.Proofs.YtdhmlcelofnkgaaDoor
open Go.RowKit

/-- A set that is nil, or that no call made. -/
def NoSet (w : World) (p : Value) (B : Nat) : Prop := p = .pointer none ∨ ∃ (g : Nat) (v : Value), p = .pointer (some ⟨g, 0, none⟩) ∧ g < B ∧ Row w g #[.bool false, v] 59
theorem NoSet.keep {w w' : World} {p : Value} {B : Nat} (h : NoSet w p B) (hb : Below B w w') : NoSet w' p B := by
  rcases h with rfl | ⟨g, v, h1, h2, h3⟩
  · exact Or.inl rfl
  · exact Or.inr ⟨g, v, h1, h2, h3.below hb h2⟩
/-- What isMade tells. -/
def Made (b : Bool) (w : World) (p : Value) : Prop := Calls Tryd.prog 20 #[p] w fun e w' => e = .returned (.bool b) ∧ w' = w
theorem NoSet.made {w : World} {p : Value} {B : Nat} (h : NoSet w p B) : Made false w p := by
  rcases h with rfl | ⟨g, v, rfl, _, h3⟩
  · exact isMade_nil w
  · exact isMade_at w g false v h3
theorem SetAt.made {w : World} {p : Value} {L : List Cut} {B : Nat} (h : SetAt w p L B) : Made true w p := isMade_sp h
set_option maxHeartbeats 800000 in
theorem together_no1 {w : World} {p : Value} (q f : Value) (h : Made false w p) : Calls Tryd.prog 31 #[p, q, f] w fun e w' => e = .returned (.pointer none) ∧ w' = w := by
  unfold Made at h
  go_enter Tryd.func31, Tryd.ntmps31
  go_wp2_with (go_at_call 20; refine h.mono ?_; rintro e w1 ⟨rfl, hw1⟩; rw [hw1]; clear hw1)
  go_ret
  exact ⟨rfl, rfl⟩
set_option maxHeartbeats 800000 in
theorem together_no2 {w : World} {p q : Value} (f : Value) (h : Made true w p) (k : Made false w q) : Calls Tryd.prog 31 #[p, q, f] w fun e w' => e = .returned (.pointer none) ∧ w' = w := by
  unfold Made at h k
  go_enter Tryd.func31, Tryd.ntmps31
  go_wp2_with fail
  refine h.mono ?_
  rintro e w1 ⟨rfl, hw1⟩
  rw [hw1]
  clear hw1 h
  go_wp2_with fail
  refine k.mono ?_
  rintro e w1 ⟨rfl, hw1⟩
  rw [hw1]
  clear hw1 k
  go_wp2
  go_ret
  exact ⟨rfl, rfl⟩
abbrev fnAnd : Value := .func (.func 49) #[] #[]
abbrev fnOr : Value := .func (.func 32) #[] #[]
set_option maxHeartbeats 400000 in
theorem and_by {w : World} {p q : Value} {S : Value → World → Prop} (h : Calls Tryd.prog 31 #[p, q, fnAnd] w fun e w' => ∃ v, e = .returned v ∧ S v w') : Calls Tryd.prog 30 #[p, q] w fun e w' => ∃ v, e = .returned v ∧ S v w' := by
  go_enter Tryd.func30, Tryd.ntmps30
  go_wp2_with fail
  refine h.mono ?_
  rintro e w1 ⟨v, rfl, h1⟩
  clear h
  go_wp2
  go_ret
  exact ⟨v, rfl, h1⟩
set_option maxHeartbeats 400000 in
theorem or_by {w : World} {p q : Value} {S : Value → World → Prop} (h : Calls Tryd.prog 31 #[p, q, fnOr] w fun e w' => ∃ v, e = .returned v ∧ S v w') : Calls Tryd.prog 16 #[p, q] w fun e w' => ∃ v, e = .returned v ∧ S v w' := by
  go_enter Tryd.func16, Tryd.ntmps16
  go_wp2_with fail
  refine h.mono ?_
  rintro e w1 ⟨v, rfl, h1⟩
  clear h
  go_wp2
  go_ret
  exact ⟨v, rfl, h1⟩
theorem nil_of {w : World} {f : FuncId} {args : Array Value} (h : Calls Tryd.prog f args w fun e w' => e = .returned (.pointer none) ∧ w' = w) : Calls Tryd.prog f args w fun e w' => ∃ v, e = .returned v ∧ (v = .pointer none ∧ w' = w) := h.mono fun _ _ h => ⟨_, h.1, rfl, h.2⟩
/-- No set. -/
abbrev NilAt (w : World) (e : Ending) (w' : World) : Prop := e = .returned (.pointer none) ∧ w' = w
theorem nil_to {w : World} : ∀ e w', (∃ v, e = Ending.returned v ∧ (v = .pointer none ∧ w' = w)) → NilAt w e w' := fun _ _ ⟨_, h1, h2, h3⟩ => ⟨by rw [h1, h2], h3⟩
theorem and_no1 {w : World} {p : Value} (q : Value) (h : Made false w p) : Calls Tryd.prog 30 #[p, q] w (NilAt w) := (and_by (nil_of (together_no1 q fnAnd h))).mono nil_to
theorem and_no2 {w : World} {p q : Value} (h : Made true w p) (k : Made false w q) : Calls Tryd.prog 30 #[p, q] w (NilAt w) := (and_by (nil_of (together_no2 fnAnd h k))).mono nil_to
theorem or_no1 {w : World} {p : Value} (q : Value) (h : Made false w p) : Calls Tryd.prog 16 #[p, q] w (NilAt w) := (or_by (nil_of (together_no1 q fnOr h))).mono nil_to
theorem or_no2 {w : World} {p q : Value} (h : Made true w p) (k : Made false w q) : Calls Tryd.prog 16 #[p, q] w (NilAt w) := (or_by (nil_of (together_no2 fnOr h k))).mono nil_to
set_option maxHeartbeats 800000 in
theorem same_no1 {w : World} {p q : Value} (b : Bool) (h : Made false w p) (k : Made b w q) : Calls Tryd.prog 13 #[p, q] w fun e w' => e = .returned (.bool (!b)) ∧ w' = w := by
  unfold Made at h k
  have h' := h
  go_enter Tryd.func13, Tryd.ntmps13
  go_wp2_with fail
  refine h.mono ?_
  rintro e w1 ⟨rfl, hw1⟩
  rw [hw1]
  clear hw1 h
  go_wp2_with fail
  refine h'.mono ?_
  rintro e w1 ⟨rfl, hw1⟩
  rw [hw1]
  clear hw1 h'
  go_wp2_with fail
  refine k.mono ?_
  rintro e w1 ⟨rfl, hw1⟩
  rw [hw1]
  clear hw1 k
  go_wp2
  go_ret
  exact ⟨by cases b <;> rfl, rfl⟩
set_option maxHeartbeats 800000 in
theorem same_no2 {w : World} {p q : Value} (h : Made true w p) (k : Made false w q) : Calls Tryd.prog 13 #[p, q] w fun e w' => e = .returned (.bool false) ∧ w' = w := by
  unfold Made at h k
  have h' := h
  have k' := k
  go_enter Tryd.func13, Tryd.ntmps13
  go_wp2_with fail
  refine h.mono ?_
  rintro e w1 ⟨rfl, hw1⟩
  rw [hw1]
  clear hw1 h
  go_wp2_with fail
  refine k.mono ?_
  rintro e w1 ⟨rfl, hw1⟩
  rw [hw1]
  clear hw1 k
  go_wp2_with fail
  refine h'.mono ?_
  rintro e w1 ⟨rfl, hw1⟩
  rw [hw1]
  clear hw1 h'
  go_wp2_with fail
  refine k'.mono ?_
  rintro e w1 ⟨rfl, hw1⟩
  rw [hw1]
  clear hw1 k'
  go_wp2
  go_ret
  exact ⟨rfl, rfl⟩
set_option maxHeartbeats 800000 in
theorem empty_no {w : World} {p : Value} (h : Made false w p) : Calls Tryd.prog 24 #[p] w fun e w' => e = .returned (.bool true) ∧ w' = w := by
  unfold Made at h
  go_enter Tryd.func24, Tryd.ntmps24
  go_wp2_with fail
  refine h.mono ?_
  rintro e w1 ⟨rfl, hw1⟩
  rw [hw1]
  clear hw1 h
  go_wp2
  go_ret
  exact ⟨rfl, rfl⟩
set_option maxHeartbeats 800000 in
theorem text_no {w : World} {p : Value} (h : Made false w p) : Calls Tryd.prog 11 #[p] w fun e w' => e = .returned (.string ⟨#[]⟩) ∧ w' = w := by
  unfold Made at h
  go_enter Tryd.func11, Tryd.ntmps11
  go_wp2_with fail
  refine h.mono ?_
  rintro e w1 ⟨rfl, hw1⟩
  rw [hw1]
  clear hw1 h
  go_wp2
  go_ret
  exact ⟨rfl, rfl⟩
set_option maxHeartbeats 800000 in
theorem empty_set {w : World} {p : Value} {L : List Cut} {B : Nat} (h : SetAt w p L B) (hl : L.length < 9223372036854775807) : Calls Tryd.prog 24 #[p] w fun e w' => e = .returned (.bool (decide (L.length = 0))) ∧ w' = w := by
  have k : Made true w p := h.made
  unfold Made at k
  obtain ⟨g, v, rfl, h2, h3, h4⟩ := h.ex
  obtain ⟨a, g2, off, cap, rfl, _⟩ := h4.ex
  have hc : w.cell? ⟨g, 1, none⟩ = some (.slice a L.length cap) := (h3.cell 1).trans rfl
  obtain ⟨n, hn⟩ : ∃ n, n = L.length := ⟨_, rfl⟩
  rw [← hn] at hc hl ⊢
  clear hn h4 h3 h2 h
  by_cases h0 : n = 0
  · subst h0
    go_enter Tryd.func24, Tryd.ntmps24
    go_wp2_with fail
    refine k.mono ?_
    rintro e w1 ⟨rfl, hw1⟩
    rw [hw1]
    clear hw1 k
    go_wp2
    go_ret
    exact ⟨rfl, rfl⟩
  · have h1 : ¬ (n : Int) = 0 := by omega
    have h1' := beqI h1
    have HD : Hid (decide (n = 0) = false) := decide_eq_false h0
    go_enter Tryd.func24, Tryd.ntmps24
    go_wp2_with fail
    refine k.mono ?_
    rintro e w1 ⟨rfl, hw1⟩
    rw [hw1]
    clear hw1 k
    go_wp2
    go_ret
    exact ⟨by rw [HD.out]; rfl, rfl⟩
end Go.Proofs.YtdhmlcelofnkgaaDoor
