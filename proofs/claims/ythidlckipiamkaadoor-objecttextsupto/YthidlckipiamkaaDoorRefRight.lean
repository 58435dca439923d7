/- The walks of the document's size and Right. -/
import Derived.Test.YthidlckipiamkaaDoorOne
namespace Go.Proofs.YthidlckipiamkaaDoor
open Go.RowKit

mutual
/-- The document's count, and whether the nodes are few enough and not too deep. -/
def siz : Nd → Nat → Nat × Bool | .mk _ _ _ _ ks, d => if 32 < d then (0, false) else sizL ks (d + 1) 1
def sizL : List Nd → Nat → Nat → Nat × Bool | [], _, c => (c, true) | k :: ks, d, c => if (siz k d).2 = false ∨ 1024 < c + (siz k d).1 then (c + (siz k d).1, false) else sizL ks d (c + (siz k d).1)
end
theorem sizL_next (ks : List Nd) (d c i : Nat) (hi : i < ks.length) : sizL (ks.drop i) d c = if (siz ks[i] d).2 = false ∨ 1024 < c + (siz ks[i] d).1 then (c + (siz ks[i] d).1, false) else sizL (ks.drop (i + 1)) d (c + (siz ks[i] d).1) := by
  rw [List.drop_eq_getElem_cons hi]
  conv => lhs; unfold sizL
mutual
theorem siz_bd : ∀ (n : Nd) (d : Nat), (siz n d).1 ≤ 1024 + 1024 * (33 - d) ∧ ((siz n d).2 = true → (siz n d).1 ≤ 1024)
  | .mk _ _ _ _ ks, d => by
    unfold siz
    split
    · exact ⟨by simp, fun h => by simp at h⟩
    · have := sizL_bd ks (d + 1) 1 (by omega)
      exact ⟨by omega, this.2⟩
theorem sizL_bd : ∀ (ks : List Nd) (d c : Nat), c ≤ 1024 → (sizL ks d c).1 ≤ 2048 + 1024 * (33 - d) ∧ ((sizL ks d c).2 = true → (sizL ks d c).1 ≤ 1024)
  | [], d, c, h => by unfold sizL; exact ⟨by simp only; omega, fun _ => h⟩
  | k :: ks, d, c, h => by
    unfold sizL
    have h1 := siz_bd k d
    split
    · exact ⟨by simp only; omega, fun h => by simp at h⟩
    · exact sizL_bd ks d _ (by omega)
end
mutual
theorem siz_iff : ∀ (n : Nd) (d : Nat), 1 ≤ d → ((siz n d).2 = true ↔ d + n.height ≤ 33 ∧ n.count ≤ 1024) ∧ ((siz n d).2 = true → (siz n d).1 = n.count)
  | .mk _ _ _ _ ks, d, hd => by
    unfold siz
    simp only [Nd.height, Nd.count]
    split
    · refine ⟨⟨fun h => by simp at h, fun h2 => ?_⟩, fun h => by simp at h⟩
      omega
    · have := sizL_iff ks (d + 1) 1 (by omega) (by omega)
      refine ⟨this.1.trans ⟨fun h2 => ⟨?_, by omega⟩, fun h2 => ⟨.inr (by omega), by omega⟩⟩, fun h2 => by rw [this.2 h2]⟩
      rcases h2.1 with h3 | h3
      · subst h3
        simp only [Nd.heightL]
        omega
      · omega
theorem sizL_iff : ∀ (ks : List Nd) (d c : Nat), 1 ≤ d → c ≤ 1024 → ((sizL ks d c).2 = true ↔ (ks = [] ∨ d + Nd.heightL ks ≤ 33) ∧ c + Nd.countL ks ≤ 1024) ∧ ((sizL ks d c).2 = true → (sizL ks d c).1 = c + Nd.countL ks)
  | [], d, c, hd, hc => by
    unfold sizL
    simp only [Nd.countL]
    simp
    omega
  | k :: ks, d, c, hd, hc => by
    unfold sizL
    have h1 := siz_iff k d hd
    have hp := k.count_pos
    simp only [Nd.countL, Nd.heightL]
    split
    · rename_i h2
      refine ⟨⟨fun h => by simp at h, fun h3 => ?_⟩, fun h => by simp at h⟩
      exfalso
      have h4 : (siz k d).2 = true := by
        rw [h1.1]
        rcases h3.1 with h4 | h4
        · cases h4
        · omega
      rcases h2 with h2 | h2
      · rw [h4] at h2; cases h2
      · rw [h1.2 h4] at h2; omega
    · rename_i h2
      have h3 : (siz k d).2 = true := by
        cases hx : (siz k d).2 with
        | true => rfl
        | false => exact absurd (.inl hx) h2
      have h4 := h1.2 h3
      have h5 := h1.1.1 h3
      have h6 := sizL_iff ks d (c + (siz k d).1) hd (by omega)
      rw [h4] at h6 ⊢
      refine ⟨h6.1.trans ⟨fun h7 => ⟨.inr ?_, by omega⟩, fun h7 => ⟨?_, by omega⟩⟩, fun h7 => by rw [h6.2 h7]; omega⟩
      · rcases h7.1 with h8 | h8
        · subst h8
          simp only [Nd.heightL]
          omega
        · omega
      · rcases h7.1 with h8 | h8
        · cases h8
        · exact .inr (by omega)
end
/-- Both counts tell the same. -/
theorem cen_siz (n : Nd) : (cen n 0 1).2 = (siz n 1).2 := by
  have h1 := (cen_iff n 0 1 (by omega)).1
  have h2 := (siz_iff n 1 (by omega)).1
  cases hx : (cen n 0 1).2 with
  | true => rw [hx] at h1; exact (h2.2 (by have := h1.1 rfl; omega)).symm
  | false =>
    rw [hx] at h1
    cases hy : (siz n 1).2 with
    | false => rfl
    | true =>
      rw [hy] at h2
      have := h2.1 rfl
      exact absurd (h1.2 (by omega)) (by simp)

end Go.Proofs.YthidlckipiamkaaDoor
