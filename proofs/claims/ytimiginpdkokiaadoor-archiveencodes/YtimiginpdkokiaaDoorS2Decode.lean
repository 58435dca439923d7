/- The walk of bits.Decode: the bytes of signs of five bits, or ErrForm. -/
import Derived.Test.YtimiginpdkokiaaDoorS2Encode
namespace Go.Proofs.YtimiginpdkokiaaDoor.S2
set_option maxRecDepth 20000
open Go.RowKit Math

theorem ownsRow_base {w : World} {B B' e size n : Nat} {v : Value} {xs : List Value} (h : w.ownsRow B e size v n xs) (hB : B' ≤ B) : w.ownsRow B' e size v n xs := by
  obtain ⟨h1, h2 | ⟨g, cap, cur, e1, e2, e3⟩⟩ := h
  · exact ⟨h1, .inl h2⟩
  · exact ⟨h1, .inr ⟨g, cap, cur, e1, by omega, e3⟩⟩

/-- The bytes of the text's first k signs, told as numbers. -/
def rowV (vs : Nat → Nat) (k : Nat) : Nat → Value := fun j => .int .u8 (if j < k then (vs j : Int) else 0)

theorem rowV_step (vs : Nat → Nat) (k j : Nat) : (if j = k then Value.int .u8 (vs k) else rowV vs k j) = rowV vs (k + 1) j := by
  unfold rowV
  by_cases e : j = k
  · subst e; rw [if_pos rfl, if_pos (by omega)]
  · rw [if_neg e]
    by_cases h : j < k
    · rw [if_pos h, if_pos (by omega)]
    · rw [if_neg h, if_neg (by omega)]

end Go.Proofs.YtimiginpdkokiaaDoor.S2
