/- The walk of bits.Encode: the bytes' bits as signs of five bits. -/
import Derived.Test.YtimiginpdkokiaaDoorS2Signs
import Derived.Laws.BytesArg
namespace Go.Proofs.YtimiginpdkokiaaDoor.S2
set_option maxRecDepth 20000
open Go.RowKit Math

theorem conv_own (w : World) (B : Nat) (v : Value) (N : Nat) (xs : List Int) (h : w.ownsRow B 5 1 v N (xs.map (Value.int .u8))) :
    (convert 22 9 v).run Tryd.prog w = .ok (.string (strOfNums xs)) w := by
  have hl : xs.length = N := by simpa using h.1
  obtain ⟨_, ⟨rfl, rfl⟩ | ⟨g, cap, cur, rfl, _⟩⟩ := id h
  · have : xs = [] := List.length_eq_zero_iff.1 hl
    subst this
    exact run_convert_bytes_nil (P := Tryd.prog) w 22 5 Tryd.underlying22 Tryd.underlying5 0 0 9 Tryd.underlying9
  · refine run_convert_bytes_arg (P := Tryd.prog) w 22 5 Tryd.underlying22 Tryd.underlying5 g 0 N cap xs hl (fun i hi => ?_) 9 Tryd.underlying9
    rw [Nat.zero_add, h.cellAt i (by omega)]
    have hi' : i < xs.length := by omega
    simp [List.getD, hi']

theorem val5 (g : Nat → Int) (hg : ∀ k, 0 ≤ g k ∧ g k ≤ 1) (k : Nat) : ∃ x : Nat, val g k 5 = x ∧ x < 32 := by
  have h := val_bd g hg k 5
  exact ⟨(val g k 5).toNat, by omega, by omega⟩

end Go.Proofs.YtimiginpdkokiaaDoor.S2
