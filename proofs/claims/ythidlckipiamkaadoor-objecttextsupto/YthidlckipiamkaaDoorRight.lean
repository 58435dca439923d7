/- The walks of rightEach, census and Right: what is wrong with a node and all beneath it. -/
import Derived.Test.YthidlckipiamkaaDoorEach
namespace Go.Proofs.YthidlckipiamkaaDoor
open Go.RowKit

theorem NodeAt.one {w : World} {n : Nd} {C : Array Value} (h : NodeAt w n C) : C.all (fun x => x.oneCell') = true := by
  cases h
  exact nodeV_one _ _ _ _ _ _ _ _ _ _ _
mutual
/-- What is wrong with the first node that is wrong by itself. -/
def eachE : Nd → Int | .mk k e d ns ks => if aloneE (.mk k e d ns ks) ≠ 0 then aloneE (.mk k e d ns ks) else eachL ks
def eachL : List Nd → Int | [] => 0 | k :: ks => if eachE k ≠ 0 then eachE k else eachL ks
end
mutual
/-- The nodes counted, and whether they are few enough and not too deep. -/
def cen : Nd → Nat → Nat → Nat × Bool | .mk _ _ _ _ ks, c, l => if 1024 < c + 1 ∨ 32 < l then (c + 1, false) else cenL ks (c + 1) (l + 1)
def cenL : List Nd → Nat → Nat → Nat × Bool | [], c, _ => (c, true) | k :: ks, c, l => if (cen k c l).2 = true then cenL ks (cen k c l).1 l else ((cen k c l).1, false)
end
theorem eachL_next (ks : List Nd) (i : Nat) (hi : i < ks.length) : eachL (ks.drop i) = if eachE ks[i] ≠ 0 then eachE ks[i] else eachL (ks.drop (i + 1)) := by
  rw [List.drop_eq_getElem_cons hi]
  conv => lhs; unfold eachL
theorem cenL_next (ks : List Nd) (c l i : Nat) (hi : i < ks.length) : cenL (ks.drop i) c l = if (cen ks[i] c l).2 = true then cenL (ks.drop (i + 1)) (cen ks[i] c l).1 l else ((cen ks[i] c l).1, false) := by
  rw [List.drop_eq_getElem_cons hi]
  conv => lhs; unfold cenL
mutual
theorem cen_bd : ∀ (n : Nd) (c l : Nat), c ≤ 1024 → (cen n c l).1 ≤ 1025 ∧ ((cen n c l).2 = true → (cen n c l).1 ≤ 1024)
  | .mk _ _ _ _ ks, c, l, h => by
    unfold cen
    split
    · exact ⟨by simp only; omega, fun h => by simp at h⟩
    · exact cenL_bd ks (c + 1) (l + 1) (by omega)
theorem cenL_bd : ∀ (ks : List Nd) (c l : Nat), c ≤ 1024 → (cenL ks c l).1 ≤ 1025 ∧ ((cenL ks c l).2 = true → (cenL ks c l).1 ≤ 1024)
  | [], c, l, h => by unfold cenL; exact ⟨by simp only; omega, fun _ => h⟩
  | k :: ks, c, l, h => by
    unfold cenL
    have h1 := cen_bd k c l h
    split
    · rename_i h2
      exact cenL_bd ks _ l (h1.2 h2)
    · exact ⟨h1.1, fun h => by simp at h⟩
end
mutual
theorem cen_iff : ∀ (n : Nd) (c l : Nat), 1 ≤ l → ((cen n c l).2 = true ↔ l + n.height ≤ 33 ∧ c + n.count ≤ 1024) ∧ ((cen n c l).2 = true → (cen n c l).1 = c + n.count)
  | .mk _ _ _ _ ks, c, l, hl => by
    unfold cen
    simp only [Nd.height, Nd.count]
    split
    · rename_i h
      refine ⟨⟨fun h => by simp at h, fun h2 => ?_⟩, fun h => by simp at h⟩
      rcases h with h | h <;> omega
    · rename_i h
      have := cenL_iff ks (c + 1) (l + 1) (by omega)
      refine ⟨this.1.trans ⟨fun h2 => ⟨?_, by omega⟩, fun h2 => ⟨?_, by omega⟩⟩, fun h2 => by rw [this.2 h2]; omega⟩
      · rcases h2.1 with h3 | h3
        · subst h3
          simp only [Nd.heightL]
          omega
        · omega
      · exact .inr (by omega)
theorem cenL_iff : ∀ (ks : List Nd) (c l : Nat), 1 ≤ l → ((cenL ks c l).2 = true ↔ (ks = [] ∨ l + Nd.heightL ks ≤ 33) ∧ c + Nd.countL ks ≤ max c 1024) ∧ ((cenL ks c l).2 = true → (cenL ks c l).1 = c + Nd.countL ks)
  | [], c, l, hl => by
    unfold cenL
    simp only [Nd.countL]
    simp
    omega
  | k :: ks, c, l, hl => by
    unfold cenL
    have h1 := cen_iff k c l hl
    have hp := k.count_pos
    simp only [Nd.countL, Nd.heightL]
    split
    · rename_i h2
      have h3 := cenL_iff ks (cen k c l).1 l hl
      have h4 := h1.2 h2
      have h5 := h1.1.1 h2
      rw [h4] at h3 ⊢
      refine ⟨h3.1.trans ⟨fun h6 => ⟨.inr ?_, by omega⟩, fun h6 => ⟨?_, by omega⟩⟩, fun h6 => by rw [h3.2 h6]; omega⟩
      · rcases h6.1 with h7 | h7
        · subst h7
          simp only [Nd.heightL]
          omega
        · omega
      · rcases h6.1 with h7 | h7
        · cases h7
        · exact .inr (by omega)
    · rename_i h2
      refine ⟨⟨fun h => by simp at h, fun h3 => ?_⟩, fun h => by simp at h⟩
      exfalso
      apply h2
      rw [h1.1]
      rcases h3.1 with h4 | h4
      · cases h4
      · omega
end

end Go.Proofs.YthidlckipiamkaaDoor
