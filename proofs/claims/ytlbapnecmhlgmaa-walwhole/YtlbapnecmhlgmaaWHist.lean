/- The states that are sure, and what each power loss leaves. -/
import Derived.Test.YtlbapnecmhlgmaaWMath
namespace Go.Proofs.Ytlbapnecmhlgmaa
open Go.RowKit

theorem ev_ok12 (D : Dk) (h : ∀ e ∈ D.E, e.ok D.s) (i : Nat) (hi : i < D.E.length) : (D.ev i).ok D.s := by
  apply h
  unfold Dk.ev
  rw [List.getD_eq_getElem?_getD, List.getElem?_eq_getElem hi]
  exact List.getElem_mem hi
theorem aft_congr (F : Nat → Int) (E E' : Nat → Ev) (sf klen : Nat) (kf : Nat → Bool) : ∀ n, (∀ i, i < n → E i = E' i) → afterF F E sf klen kf n = afterF F E' sf klen kf n
  | 0, _ => rfl
  | n + 1, h => by rw [afterF, afterF, h n (by omega), aft_congr F E E' sf klen kf n (fun i hi => h i (by omega))]
abbrev lossF (D : Dk) (cut klen : Nat) (kf : Nat → Bool) : Nat → Int := afterF D.F D.ev (safeN D.ev cut) klen kf cut
/-- The history of a disk with a journal. -/
structure Hs (D : Dk) (sts : List ByteArray) (ends : List Nat) : Prop where
  s12 : D.s = 12
  len : ends.length = sts.length
  pos : 0 < sts.length
  lastE : ends.getD (sts.length - 1) 0 = D.E.length
  lastS : sts.getD (sts.length - 1) ⟨#[]⟩ = shN D.B 8
  first : ends.getD 0 0 = 0
  bound : ∀ k, ends.getD k 0 ≤ D.E.length
  now : D.B = redoAll D.F D.ev D.E.length
  hdr : ∀ j, j < 256 → D.B (0 * 256 + j) = 0
  fl : D.E.length = 0 ∨ (D.ev (D.E.length - 1)).isFl = true
  loss : ∀ cut, cut ≤ D.E.length → ∀ k, k < sts.length → ends.getD k 0 ≤ cut → (k + 1 < sts.length → cut < ends.getD (k + 1) 0) → ∀ klen kf, Rec (sts.getD k ⟨#[]⟩) (lossF D cut klen kf) ∨ (k + 1 < sts.length ∧ Rec (sts.getD (k + 1) ⟨#[]⟩) (lossF D cut klen kf))
theorem getD_snoc_old {α : Type} (l : List α) (x d : α) (k : Nat) (h : k < l.length) : (l ++ [x]).getD k d = l.getD k d := by
  simp [List.getD, List.getElem?_append_left h]
theorem getD_snoc_last {α : Type} (l : List α) (x d : α) : (l ++ [x]).getD l.length d = x := by
  simp [List.getD]
theorem Hs.start : Hs (freshD 12 fun _ => 0) [shN (fun _ => 0) 8] [0] :=
  ⟨rfl, rfl, by decide, rfl, rfl, rfl, fun k => by cases k <;> simp [List.getD], rfl, fun _ _ => rfl, .inl rfl, fun cut hc k hk _ _ klen kf => by
    have h0 : cut = 0 := Nat.le_zero.1 hc
    have hk0 : k = 0 := by simp at hk; omega
    subst h0 hk0
    exact .inl (.inl ⟨unmarked_zero _ (fun _ _ => rfl), rfl⟩)⟩
/-- A commit of nothing. -/
theorem Hs.same {D : Dk} {sts : List ByteArray} {ends : List Nat} (h : Hs D sts ends) : Hs D (sts ++ [shN D.B 8]) (ends ++ [D.E.length]) := by
  have hp := h.pos
  have hl := h.len
  have el : ∀ k, k < sts.length → (ends ++ [D.E.length]).getD k 0 = ends.getD k 0 := fun k hk => getD_snoc_old _ _ _ _ (by omega)
  have eL : (ends ++ [D.E.length]).getD sts.length 0 = D.E.length := by rw [← hl]; exact getD_snoc_last _ _ _
  have sl : ∀ k, k < sts.length → (sts ++ [shN D.B 8]).getD k ⟨#[]⟩ = sts.getD k ⟨#[]⟩ := fun k hk => getD_snoc_old _ _ _ _ hk
  have sL : (sts ++ [shN D.B 8]).getD sts.length ⟨#[]⟩ = shN D.B 8 := getD_snoc_last _ _ _
  have hlen : (sts ++ [shN D.B 8]).length = sts.length + 1 := by simp
  refine ⟨h.s12, by simp [hl], by omega, ?_, ?_, ?_, fun k => ?_, h.now, h.hdr, h.fl, fun cut hc k hk hlo hhi klen kf => ?_⟩
  · rw [hlen]; exact eL
  · rw [hlen]; exact sL
  · rw [el 0 hp]; exact h.first
  · rcases Nat.lt_trichotomy k sts.length with h1 | h1 | h1
    · rw [el k h1]; exact h.bound k
    · rw [h1, eL]; exact Nat.le_refl _
    · rw [List.getD_eq_getElem?_getD, List.getElem?_eq_none (by simp; omega)]; exact Nat.zero_le _
  · rw [hlen] at hk hhi ⊢
    rcases Nat.lt_or_ge k (sts.length - 1) with h1 | h1
    · rw [el k (by omega)] at hlo
      have h2 := hhi (by omega)
      rw [el (k + 1) (by omega)] at h2
      rw [sl k (by omega), sl (k + 1) (by omega)]
      rcases h.loss cut hc k (by omega) hlo (fun _ => h2) klen kf with h3 | ⟨_, h3⟩
      · exact .inl h3
      · exact .inr ⟨by omega, h3⟩
    · rcases Nat.lt_or_ge k sts.length with h2 | h2
      · -- the old last: its end is the new one's, too
        have h3 := hhi (by omega)
        rw [show k + 1 = sts.length by omega, eL] at h3
        rw [show k = sts.length - 1 by omega, el _ (by omega), h.lastE] at hlo
        omega
      · have hk' : k = sts.length := by omega
        subst hk'
        rw [eL] at hlo
        rw [sL, ← h.lastS]
        rcases h.loss cut hc (sts.length - 1) (by omega) (by rw [h.lastE]; exact hlo) (fun h5 => by omega) klen kf with h3 | ⟨h4, _⟩
        · exact .inl h3
        · omega
/-- A commit. -/
theorem Hs.commit {D : Dk} {sts : List ByteArray} {ends : List Nat} (h : Hs D sts ends) (L : List Pt) (K : List Nat) (hK : Nums K) (hok : ∀ e ∈ (comD D 0 L K).E, e.ok 12) (hnow : (comD D 0 L K).B = redoAll D.F (comD D 0 L K).ev (comD D 0 L K).E.length) (hF : (comD D 0 L K).F = D.F) :
    Hs (comD D 0 L K) (sts ++ [shN (comD D 0 L K).B 8]) (ends ++ [(comD D 0 L K).E.length]) := by
  have hp := h.pos
  have hl := h.len
  have hcl := comD_len D 0 L K
  have hB := com_blk D L K hK
  have hold := com_old D L K
  have hcs : (comD D 0 L K).s = 12 := (comD_s D 0 L K).trans h.s12
  have hoke : ∀ i, i < (comD D 0 L K).E.length → ((comD D 0 L K).ev i).ok 12 := fun i hi => by
    have := ev_ok12 (comD D 0 L K) (by rw [hcs]; exact hok) i hi
    rwa [hcs] at this
  generalize hDD : comD D 0 L K = D' at *
  have hred : redoAll D.F D'.ev D.E.length = D.B := by
    rw [h.now]
    exact redoAll_congr _ _ _ _ hold
  have hst : D.E.length = 0 ∨ (D'.ev (D.E.length - 1)).isFl = true := by
    rcases h.fl with h1 | h1
    · exact .inl h1
    · rcases Nat.eq_zero_or_pos D.E.length with h2 | h2
      · exact .inl h2
      · exact .inr (by rw [hold _ (by omega)]; exact h1)
  have hcr := fun (p : Nat) (hp : p ≤ K.length + 3 + K.length + 3) (klen : Nat) (kf : Nat → Bool) => crash (s := 12) (F := D.F) hB hK.hi (fun i hi => (hK.ge i hi).1) (fun i j hi hj e => hK.inj i j hi hj e) p hp (fun i hi => hoke i (by omega)) hst (by rw [hred]; exact h.hdr) klen kf
  have hnew : NewB D.B K.length (fun i => K.getD i 0) (fun i => lookD L (K.getD i 0)) D'.B := by
    rcases hcr (K.length + 3 + K.length + 3) (Nat.le_refl _) 0 (fun _ => true) with h1 | h1 | h1
    · exact absurd rfl h1.1
    · exact absurd rfl h1.1
    · rw [hred, aft_all _ _ _ _ _ _ (by
        have := safe_ge D'.ev (D.E.length + K.length + 3 + K.length + 2) (D.E.length + (K.length + 3 + K.length + 3)) (by omega) (by rw [hB.f4]; rfl)
        omega), show D.E.length + (K.length + 3 + K.length + 3) = D'.E.length by omega, ← hnow] at h1
      exact h1
  have el : ∀ k, k < sts.length → (ends ++ [D'.E.length]).getD k 0 = ends.getD k 0 := fun k hk => getD_snoc_old _ _ _ _ (by omega)
  have eL : (ends ++ [D'.E.length]).getD sts.length 0 = D'.E.length := by rw [← hl]; exact getD_snoc_last _ _ _
  have sl : ∀ k, k < sts.length → (sts ++ [shN D'.B 8]).getD k ⟨#[]⟩ = sts.getD k ⟨#[]⟩ := fun k hk => getD_snoc_old _ _ _ _ hk
  have sL : (sts ++ [shN D'.B 8]).getD sts.length ⟨#[]⟩ = shN D'.B 8 := getD_snoc_last _ _ _
  have hlen : (sts ++ [shN D'.B 8]).length = sts.length + 1 := by simp
  refine ⟨hcs, by simp [hl], by omega, ?_, ?_, ?_, fun k => ?_, by rw [hF]; exact hnow, hnew.hdr, .inr ?_, fun cut hc k hk hlo hhi klen kf => ?_⟩
  · rw [hlen]; exact eL
  · rw [hlen]; exact sL
  · rw [el 0 hp]; exact h.first
  · rcases Nat.lt_trichotomy k sts.length with h1 | h1 | h1
    · rw [el k h1]; have := h.bound k; omega
    · rw [h1, eL]; exact Nat.le_refl _
    · rw [List.getD_eq_getElem?_getD, List.getElem?_eq_none (by simp; omega)]; exact Nat.zero_le _
  · rw [show D'.E.length - 1 = D.E.length + K.length + 3 + K.length + 2 by omega, hB.f4]; rfl
  · rw [hlen] at hk hhi ⊢
    rcases Nat.lt_or_ge k (sts.length - 1) with h1 | h1
    · -- within the old history
      rw [el k (by omega)] at hlo
      have h2 := hhi (by omega)
      rw [el (k + 1) (by omega)] at h2
      have h2b := h.bound (k + 1)
      rw [sl k (by omega), sl (k + 1) (by omega)]
      have heq : lossF D' cut klen kf = lossF D cut klen kf := by
        unfold lossF
        rw [hF, safeN_congr D'.ev D.ev cut (fun i hi => hold i (by omega))]
        exact aft_congr _ _ _ _ _ _ _ (fun i hi => hold i (by omega))
      rw [heq]
      rcases h.loss cut (by omega) k (by omega) hlo (fun _ => h2) klen kf with h3 | ⟨_, h3⟩
      · exact .inl h3
      · exact .inr ⟨by omega, h3⟩
    · have hge : D.E.length ≤ cut := by
        rcases Nat.lt_or_ge k sts.length with h2 | h2
        · rw [show k = sts.length - 1 by omega, el _ (by omega), h.lastE] at hlo
          exact hlo
        · rw [show k = sts.length by omega, eL] at hlo
          omega
      have hX : lossF D' cut klen kf = afterF D.F D'.ev (safeN D'.ev (D.E.length + (cut - D.E.length))) klen kf (D.E.length + (cut - D.E.length)) := by
        rw [show D.E.length + (cut - D.E.length) = cut by omega, ← hF]
      have hc3 := hcr (cut - D.E.length) (by omega) klen kf
      rw [← hX, hred] at hc3
      have hnewR : ∀ X, NewB D.B K.length (fun i => K.getD i 0) (fun i => lookD L (K.getD i 0)) X → Rec (shN D'.B 8) X := fun X hX => .inl ⟨hX.unmarked, newB_same hX hnew⟩
      rcases Nat.lt_or_ge k sts.length with h2 | h2
      · have hk' : k = sts.length - 1 := by omega
        rw [hk', sl _ (by omega), h.lastS, show sts.length - 1 + 1 = sts.length by omega, sL]
        rcases hc3 with ⟨_, h3⟩ | ⟨_, h3⟩ | h3
        · exact .inl (.inl ⟨h3.unmarked, h3.shows⟩)
        · exact .inr ⟨by omega, .inr ⟨K, hK, h3.hdr, fun Y hY => newB_same (mid_new h3 hY) hnew⟩⟩
        · exact .inr ⟨by omega, hnewR _ h3⟩
      · have hk' : k = sts.length := by omega
        rw [hk', eL] at hlo
        rw [hk', sL]
        rcases hc3 with ⟨h3, _⟩ | ⟨h3, _⟩ | h3
        · omega
        · omega
        · exact .inl (hnewR _ h3)
end Go.Proofs.Ytlbapnecmhlgmaa
