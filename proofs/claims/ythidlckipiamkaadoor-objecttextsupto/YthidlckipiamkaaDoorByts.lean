/- My own work: bytes that lie in a row, rows that are owned. -/
import Derived.Test.YthidlckipiamkaaDoorBase
import Derived.Test.YthidlckipiamkaaDoorLate
namespace Go.Proofs.YthidlckipiamkaaDoor
open Go.RowKit
def byts (f : Nat → Int) (n : Nat) : List Value := (List.range n).map fun i => Value.int .u8 (f i)
theorem byts_at (f : Nat → Int) (n i : Nat) (h : i < n) : (byts f n)[i]? = some (.int .u8 (f i)) := by simp [byts, h]
theorem byts_one (f : Nat → Int) (n : Nat) : ∀ u ∈ byts f n, u.oneCell' = true := by
  intro u hu
  simp only [byts, List.mem_map] at hu
  obtain ⟨i, _, rfl⟩ := hu
  rfl
theorem ownsRow_keep {w w' : World} {B n s : Nat} {e : TypeId} {v : Value} {xs : List Value} (h : w.ownsRow B e s v n xs) (hb : ∀ g, v.ownBlock = some g → g < w.heap.size → w'.heap[g]? = w.heap[g]?) : w'.ownsRow B e s v n xs := by
  obtain ⟨h1, h2 | ⟨g, cap, cur, e1, e2, e3, e4⟩⟩ := h
  · exact ⟨h1, .inl h2⟩
  · refine ⟨h1, .inr ⟨g, cap, cur, e1, e2, ?_, e4⟩⟩
    obtain ⟨hlt, _⟩ := Array.getElem?_eq_some_iff.1 e3
    exact (hb g (by rw [e1]; rfl) hlt).trans e3
theorem own_grown {B : Nat} {w wr w1 : World} {e : TypeId} {s : Nat} {v : Value} {n : Nat} {xs : List Value} (hown : wr.ownsRow B e s v n xs) (hb : Below B w wr) (hB : B ≤ wr.heap.size) (hgrow : wr.grownBy w1 v.ownBlock) : Below B w w1 := by
  refine hb.grown hgrow hB (fun r hr => ?_)
  obtain ⟨_, ⟨rfl, _⟩ | ⟨g', cap, cur, rfl, hle, _⟩⟩ := hown
  · cases hr
  · simp [Value.ownBlock] at hr; omega
theorem ownsRow_lt {w : World} {base n s : Nat} {e : TypeId} {v : Value} {xs : List Value} (h : w.ownsRow base e s v n xs) : ∀ k, v.ownBlock = some k → k < w.heap.size ∧ base ≤ k ∧ ∃ cur, Row w k cur e := fun k hk => by
  obtain ⟨_, ⟨rfl, _⟩ | ⟨g', c', cur, rfl, h2, e3, _⟩⟩ := h
  · cases hk
  · simp [Value.ownBlock] at hk
    subst hk
    exact ⟨Row.lt e3, h2, cur, e3⟩
end Go.Proofs.YthidlckipiamkaaDoor
