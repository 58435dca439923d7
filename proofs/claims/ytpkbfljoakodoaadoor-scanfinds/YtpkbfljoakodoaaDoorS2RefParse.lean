/- The walk of the document's own Parse; and Parse beside it, whatever the text. -/
import Derived.Test.YtpkbfljoakodoaaDoorMB
import Derived.Test.YtpkbfljoakodoaaDoorS2RefDecode
import Derived.Test.YtpkbfljoakodoaaDoorS2Plain
import Derived.Test.YtpkbfljoakodoaaDoorS2Texts
namespace Go.Proofs.YtpkbfljoakodoaaDoor.S2
set_option maxRecDepth 20000
open Go.RowKit Math

/-- The first k bytes of f, and zeros. -/
def upto (f : Nat → Int) (k : Nat) : Nat → Int := fun i => if i < k then f i else 0

/-- The first place where something does not hold, or none. -/
theorem first_bad (P : Nat → Prop) (n : Nat) : (∀ k, k < n → P k) ∨ ∃ m, m < n ∧ (∀ k, k < m → P k) ∧ ¬ P m := by
  induction n with
  | zero => exact .inl (fun k hk => absurd hk (by omega))
  | succ n ih =>
    rcases ih with h | ⟨m, h1, h2, h3⟩
    · by_cases hp : P n
      · exact .inl (fun k hk => by
          by_cases e : k = n
          · subst e; exact hp
          · exact h k (by omega))
      · exact .inr ⟨n, by omega, h, hp⟩
    · exact .inr ⟨m, by omega, h2, h3⟩

theorem choose_signs (s : ByteArray) (m : Nat) (h : ∀ k, k < m → ∃ v, v < 32 ∧ ∀ hk : k < s.size, sg v = (s[k].toNat : Int)) : ∃ vs : Nat → Nat, (∀ k, vs k < 32) ∧ ∀ k, (hk : k < s.size) → k < m → sg (vs k) = (s[k].toNat : Int) := by
  refine ⟨fun k => if hk : k < m then Classical.choose (h k hk) else 0, fun k => ?_, fun k hks hk => ?_⟩
  · by_cases hk : k < m
    · simp only [hk, dite_true]; exact (Classical.choose_spec (h k hk)).1
    · simp only [hk, dite_false]; decide
  · simp only [hk, dite_true]
    exact (Classical.choose_spec (h k hk)).2 hks

end Go.Proofs.YtpkbfljoakodoaaDoor.S2
