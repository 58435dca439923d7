/- My own work: cuts between versions, their order, sets as cuts that rise, and what two sets make together. -/
import Derived.Test.YtkbhckjpmgkgjaaGreatDoorV6
namespace Go.Proofs.YtkbhckjpmgkgjaaGreatDoor

/-- A cut: its side (0 the beginning, 1 ahead, 2 behind, 3 the end) and its version. -/
structure Cut where
  side : Int
  v : Ver
theorem cut_eq (a b : Cut) : a = b ↔ a.side = b.side ∧ a.v = b.v := by
  obtain ⟨x, y⟩ := a
  obtain ⟨z, u⟩ := b
  simp
instance : DecidableEq Cut := fun a b => decidable_of_iff _ (cut_eq a b).symm
/-- The beginning, what is at a version, the end. -/
def cls (c : Cut) : Int := if c.side = 0 then 0 else if c.side = 3 then 2 else 1
/-- The order of cuts. -/
def ordC : Cut → Cut → Int := lex (fun a b => cmpI (cls a) (cls b)) (lex (fun a b => cmpV a.v b.v) fun a b => cmpI a.side b.side)
theorem preC : Pre ordC := (preI.at _).lex ((preV.at _).lex (preI.at _))
theorem ordC_zero (a b : Cut) : ordC a b = 0 ↔ a = b := by
  unfold ordC
  rw [lex_zero, lex_zero, cmpI_zero, cmpV_zero, cmpI_zero, cut_eq]
  exact ⟨fun h => ⟨h.2.2, h.2.1⟩, fun h => ⟨by unfold cls; rw [h.1], h.2, h.1⟩⟩
theorem ordC_self (a : Cut) : ordC a a = 0 := (ordC_zero a a).2 rfl
/-- Below. -/
def lt (a b : Cut) : Prop := ordC a b < 0
def le (a b : Cut) : Prop := ordC a b ≤ 0
instance (a b : Cut) : Decidable (lt a b) := by unfold lt; infer_instance
instance (a b : Cut) : Decidable (le a b) := by unfold le; infer_instance
theorem not_le {a b : Cut} : ¬ le a b ↔ lt b a := by
  unfold le lt
  have := preC.anti a b
  omega
theorem not_lt {a b : Cut} : ¬ lt a b ↔ le b a := by
  unfold le lt
  have := preC.anti a b
  omega
theorem le_rfl (a : Cut) : le a a := by unfold le; rw [ordC_self]; omega
theorem lt_irr (a : Cut) : ¬ lt a a := by unfold lt; rw [ordC_self]; omega
theorem le_trans {a b c : Cut} (h : le a b) (k : le b c) : le a c := preC.tr a b c h k
theorem lt_le {a b : Cut} (h : lt a b) : le a b := by unfold lt at h; unfold le; omega
theorem le_lt {a b c : Cut} (h : le a b) (k : lt b c) : lt a c := by
  rw [← not_le] at k ⊢
  exact fun e => k (le_trans e h)
theorem lt_le_trans {a b c : Cut} (h : lt a b) (k : le b c) : lt a c := by
  rw [← not_le] at h ⊢
  exact fun e => h (le_trans k e)
theorem lt_trans {a b c : Cut} (h : lt a b) (k : lt b c) : lt a c := le_lt (lt_le h) k
theorem lt_ne {a b : Cut} (h : le a b) (k : a ≠ b) : lt a b := by
  unfold le at h
  unfold lt
  have : ordC a b ≠ 0 := fun e => k ((ordC_zero a b).1 e)
  omega
/-- Cuts that rise. -/
def Rise (L : List Cut) : Prop := L.Pairwise lt
/-- In, behind an odd number of cuts, if it is out at first. -/
def inn : Bool → List Cut → Cut → Bool
  | s, [], _ => s
  | s, c :: r, p => if le c p then inn (!s) r p else s
theorem inn_cons (s : Bool) (c : Cut) (r : List Cut) (p : Cut) : inn s (c :: r) p = if le c p then inn (!s) r p else s := rfl
theorem inn_out (s : Bool) {L : List Cut} {p : Cut} (h : ∀ c ∈ L, lt p c) : inn s L p = s := by
  cases L with
  | nil => rfl
  | cons c r =>
    rw [inn_cons, if_neg (not_le.2 (h c (List.mem_cons_self ..)))]
/-- The first cut of two lists. -/
def lst : List Cut → List Cut → Cut
  | [], [] => ⟨0, zeroV⟩
  | [], b :: _ => b
  | a :: _, [] => a
  | a :: _, b :: _ => if lt b a then b else a
theorem lst_cc (a b : Cut) (r s : List Cut) : lst (a :: r) (b :: s) = if lt b a then b else a := rfl
/-- A list behind its first cut, if that is c. -/
def popL (c : Cut) : List Cut → List Cut
  | [] => []
  | a :: r => if a = c then r else a :: r
def popX (c : Cut) (x : Bool) : List Cut → Bool
  | [] => x
  | a :: _ => if a = c then !x else x
theorem popL_cons (c a : Cut) (r : List Cut) : popL c (a :: r) = if a = c then r else a :: r := rfl
theorem popX_cons (c a : Cut) (x : Bool) (r : List Cut) : popX c x (a :: r) = if a = c then !x else x := rfl
/-- What two sets make together. -/
def tog (f : Bool → Bool → Bool) : Nat → List Cut → List Cut → Bool → Bool → Bool → List Cut
  | 0, _, _, _, _, _ => []
  | n + 1, A, B, x, y, z => if A = [] ∧ B = [] then [] else
    if f (popX (lst A B) x A) (popX (lst A B) y B) = z then tog f n (popL (lst A B) A) (popL (lst A B) B) (popX (lst A B) x A) (popX (lst A B) y B) z
    else lst A B :: tog f n (popL (lst A B) A) (popL (lst A B) B) (popX (lst A B) x A) (popX (lst A B) y B) (!z)
theorem lst_le {A B : List Cut} (hA : Rise A) (hB : Rise B) : (∀ c ∈ A, le (lst A B) c) ∧ (∀ c ∈ B, le (lst A B) c) := by
  cases A with
  | nil => cases B with
    | nil => exact ⟨(fun _ h => by cases h), (fun _ h => by cases h)⟩
    | cons b s => exact ⟨(fun _ h => by cases h), fun c hc => by
        rcases List.mem_cons.1 hc with rfl | hc
        · exact le_rfl _
        · exact lt_le (List.rel_of_pairwise_cons hB hc)⟩
  | cons a r => cases B with
    | nil => exact ⟨fun c hc => by
        rcases List.mem_cons.1 hc with rfl | hc
        · exact le_rfl _
        · exact lt_le (List.rel_of_pairwise_cons hA hc), (fun _ h => by cases h)⟩
    | cons b s =>
      have ka : ∀ c ∈ a :: r, le a c := fun c hc => by
        rcases List.mem_cons.1 hc with rfl | hc
        · exact le_rfl _
        · exact lt_le (List.rel_of_pairwise_cons hA hc)
      have kb : ∀ c ∈ b :: s, le b c := fun c hc => by
        rcases List.mem_cons.1 hc with rfl | hc
        · exact le_rfl _
        · exact lt_le (List.rel_of_pairwise_cons hB hc)
      rw [lst_cc]
      by_cases h : lt b a
      · rw [if_pos h]
        exact ⟨fun c hc => le_trans (lt_le h) (ka c hc), kb⟩
      · rw [if_neg h]
        exact ⟨ka, fun c hc => le_trans (not_lt.1 h) (kb c hc)⟩
theorem lst_mem {A B : List Cut} (h : ¬ (A = [] ∧ B = [])) : lst A B ∈ A ∨ lst A B ∈ B := by
  cases A with
  | nil => cases B with
    | nil => exact absurd ⟨rfl, rfl⟩ h
    | cons b s => exact Or.inr (List.mem_cons_self ..)
  | cons a r => cases B with
    | nil => exact Or.inl (List.mem_cons_self ..)
    | cons b s =>
      rw [lst_cc]
      split
      · exact Or.inr (List.mem_cons_self ..)
      · exact Or.inl (List.mem_cons_self ..)
theorem popL_sub (c : Cut) (A : List Cut) : ∀ x ∈ popL c A, x ∈ A := by
  cases A with
  | nil => exact fun _ h => h
  | cons a r =>
    rw [popL_cons]
    split
    · exact fun x hx => List.mem_cons_of_mem _ hx
    · exact fun x hx => hx
theorem popL_rise {c : Cut} {A : List Cut} (h : Rise A) : Rise (popL c A) := by
  cases A with
  | nil => exact h
  | cons a r =>
    rw [popL_cons]
    split
    · exact (List.pairwise_cons.1 h).2
    · exact h
theorem popL_gt {c : Cut} {A : List Cut} (h : Rise A) (hc : ∀ x ∈ A, le c x) : ∀ x ∈ popL c A, lt c x := by
  cases A with
  | nil => exact fun _ h => by cases h
  | cons a r =>
    rw [popL_cons]
    by_cases e : a = c
    · rw [if_pos e]
      exact fun x hx => e ▸ List.rel_of_pairwise_cons h hx
    · rw [if_neg e]
      intro x hx
      have ha : lt c a := lt_ne (hc a (List.mem_cons_self ..)) (fun k => e k.symm)
      rcases List.mem_cons.1 hx with rfl | hx
      · exact ha
      · exact lt_trans ha (List.rel_of_pairwise_cons h hx)
theorem popL_len (c : Cut) (A : List Cut) : (popL c A).length ≤ A.length := by
  cases A with
  | nil => exact Nat.le_refl _
  | cons a r =>
    rw [popL_cons]
    split
    · simp
    · exact Nat.le_refl _
theorem popL_less {A B : List Cut} (h : ¬ (A = [] ∧ B = [])) : (popL (lst A B) A).length + (popL (lst A B) B).length + 1 ≤ A.length + B.length := by
  cases A with
  | nil => cases B with
    | nil => exact absurd ⟨rfl, rfl⟩ h
    | cons b s => simp [lst, popL]
  | cons a r => cases B with
    | nil => simp [lst, popL]
    | cons b s =>
      by_cases k : lt b a
      · have e : lst (a :: r) (b :: s) = b := by rw [lst_cc, if_pos k]
        rw [e]
        have := popL_len b (a :: r)
        simp only [popL, if_true, List.length_cons] at this ⊢
        omega
      · have e : lst (a :: r) (b :: s) = a := by rw [lst_cc, if_neg k]
        rw [e]
        have := popL_len a (b :: s)
        simp only [popL, if_true, List.length_cons] at this ⊢
        omega
theorem inn_pop {c p : Cut} (h : le c p) (x : Bool) (A : List Cut) : inn (popX c x A) (popL c A) p = inn x A p := by
  cases A with
  | nil => rfl
  | cons a r =>
    rw [popX_cons, popL_cons]
    by_cases e : a = c
    · rw [if_pos e, if_pos e]
      subst e
      rw [inn_cons, if_pos h]
    · rw [if_neg e, if_neg e]
theorem tog_mem (f : Bool → Bool → Bool) (n : Nat) : ∀ (A B : List Cut) (x y z : Bool), ∀ c ∈ tog f n A B x y z, c ∈ A ∨ c ∈ B := by
  induction n with
  | zero => exact fun _ _ _ _ _ c h => by cases h
  | succ n ih =>
    intro A B x y z c hc
    unfold tog at hc
    by_cases h0 : A = [] ∧ B = []
    · rw [if_pos h0] at hc
      cases hc
    · rw [if_neg h0] at hc
      have back : (c ∈ popL (lst A B) A ∨ c ∈ popL (lst A B) B) → (c ∈ A ∨ c ∈ B) := fun h => h.elim (fun k => Or.inl (popL_sub _ _ _ k)) (fun k => Or.inr (popL_sub _ _ _ k))
      split at hc
      · exact back (ih _ _ _ _ _ c hc)
      · rcases List.mem_cons.1 hc with rfl | hc
        · exact lst_mem h0
        · exact back (ih _ _ _ _ _ c hc)
theorem tog_rise (f : Bool → Bool → Bool) (n : Nat) : ∀ (A B : List Cut) (x y z : Bool), Rise A → Rise B → Rise (tog f n A B x y z) := by
  induction n with
  | zero => exact fun _ _ _ _ _ _ _ => List.Pairwise.nil
  | succ n ih =>
    intro A B x y z hA hB
    unfold tog
    by_cases h0 : A = [] ∧ B = []
    · rw [if_pos h0]
      exact List.Pairwise.nil
    · rw [if_neg h0]
      split
      · exact ih _ _ _ _ _ (popL_rise hA) (popL_rise hB)
      · refine List.Pairwise.cons (fun c hc => ?_) (ih _ _ _ _ _ (popL_rise hA) (popL_rise hB))
        rcases tog_mem f n _ _ _ _ _ c hc with h | h
        · exact popL_gt hA (lst_le hA hB).1 c h
        · exact popL_gt hB (lst_le hA hB).2 c h
theorem tog_len (f : Bool → Bool → Bool) (n : Nat) : ∀ (A B : List Cut) (x y z : Bool), (tog f n A B x y z).length ≤ A.length + B.length := by
  induction n with
  | zero => exact fun _ _ _ _ _ => Nat.zero_le _
  | succ n ih =>
    intro A B x y z
    unfold tog
    by_cases h0 : A = [] ∧ B = []
    · rw [if_pos h0]
      exact Nat.zero_le _
    · rw [if_neg h0]
      have hl := popL_less h0
      split
      · exact Nat.le_trans (ih _ _ _ _ _) (by omega)
      · rw [List.length_cons]
        have := ih (popL (lst A B) A) (popL (lst A B) B) (popX (lst A B) x A) (popX (lst A B) y B) (!z)
        omega
theorem tog_inn (f : Bool → Bool → Bool) (p : Cut) (n : Nat) : ∀ (A B : List Cut) (x y z : Bool), Rise A → Rise B → A.length + B.length ≤ n → z = f x y → inn z (tog f n A B x y z) p = f (inn x A p) (inn y B p) := by
  induction n with
  | zero =>
    intro A B x y z _ _ hn hz
    have hA : A = [] := List.length_eq_zero_iff.1 (by omega)
    have hB : B = [] := List.length_eq_zero_iff.1 (by omega)
    subst hA
    subst hB
    exact hz
  | succ n ih =>
    intro A B x y z hA hB hn hz
    by_cases h0 : A = [] ∧ B = []
    · obtain ⟨rfl, rfl⟩ := h0
      unfold tog
      rw [if_pos ⟨rfl, rfl⟩]
      exact hz
    · have hl := popL_less h0
      by_cases hp : le (lst A B) p
      · have e1 := inn_pop hp x A
        have e2 := inn_pop hp y B
        unfold tog
        rw [if_neg h0]
        split
        · rename_i hf
          rw [ih _ _ _ _ _ (popL_rise hA) (popL_rise hB) (by omega) hf.symm, e1, e2]
        · rename_i hf
          have hf' : (!z) = f (popX (lst A B) x A) (popX (lst A B) y B) := by
            revert hf
            cases f (popX (lst A B) x A) (popX (lst A B) y B) <;> cases z <;> simp
          rw [inn_cons, if_pos hp, ih _ _ _ _ _ (popL_rise hA) (popL_rise hB) (by omega) hf', e1, e2]
      · have hp' := not_le.1 hp
        rw [inn_out x (fun c hc => lt_le_trans hp' ((lst_le hA hB).1 c hc)), inn_out y (fun c hc => lt_le_trans hp' ((lst_le hA hB).2 c hc)), ← hz]
        refine inn_out z fun c hc => ?_
        rcases tog_mem f _ _ _ _ _ _ c hc with h | h
        · exact lt_le_trans hp' ((lst_le hA hB).1 c h)
        · exact lt_le_trans hp' ((lst_le hA hB).2 c h)
/-- A set has one list of cuts alone. -/
theorem inn_one : ∀ (s : Bool) (A B : List Cut), Rise A → Rise B → (∀ p, inn s A p = inn s B p) → A = B := by
  intro s A
  induction A generalizing s with
  | nil =>
    intro B _ hB h
    cases B with
    | nil => rfl
    | cons b r =>
      have h1 := h b
      rw [show inn s [] _ = s from rfl, inn_cons, if_pos (le_rfl b), inn_out (!s) (fun c hc => List.rel_of_pairwise_cons hB hc)] at h1
      cases s <;> simp at h1
  | cons a q ih =>
    intro B hA hB h
    cases B with
    | nil =>
      have h1 := h a
      rw [show inn s [] _ = s from rfl, inn_cons, if_pos (le_rfl a), inn_out (!s) (fun c hc => List.rel_of_pairwise_cons hA hc)] at h1
      cases s <;> simp at h1
    | cons b r =>
      have ka : ∀ c ∈ q, lt a c := fun c hc => List.rel_of_pairwise_cons hA hc
      have kb : ∀ c ∈ r, lt b c := fun c hc => List.rel_of_pairwise_cons hB hc
      have hab : a = b := by
        by_cases h1 : lt a b
        · have h2 := h a
          rw [inn_cons, inn_cons, if_pos (le_rfl a), inn_out (!s) ka, if_neg (not_le.2 h1)] at h2
          cases s <;> simp at h2
        · by_cases h3 : lt b a
          · have h2 := h b
            rw [inn_cons, inn_cons, if_pos (le_rfl b), inn_out (!s) kb, if_neg (not_le.2 h3)] at h2
            cases s <;> simp at h2
          · have e1 := not_lt.1 h1
            have e2 := not_lt.1 h3
            refine (ordC_zero a b).1 ?_
            have := preC.anti a b
            unfold le at e1 e2
            omega
      subst hab
      rw [ih (!s) r (List.pairwise_cons.1 hA).2 (List.pairwise_cons.1 hB).2 fun p => ?_]
      by_cases hp : le a p
      · have h1 := h p
        rw [inn_cons, inn_cons, if_pos hp, if_pos hp] at h1
        exact h1
      · have hp' := not_le.1 hp
        rw [inn_out (!s) (fun c hc => lt_trans hp' (ka c hc)), inn_out (!s) (fun c hc => lt_trans hp' (kb c hc))]
/-- A cut that may be. -/
def CutOk (c : Cut) : Prop := (c.side = 0 ∧ c.v = zeroV) ∨ (c.side = 3 ∧ c.v = zeroV) ∨ ((c.side = 1 ∨ c.side = 2) ∧ May c.v)
abbrev beg : Cut := ⟨0, zeroV⟩
abbrev fin : Cut := ⟨3, zeroV⟩
theorem beg_ok : CutOk beg := Or.inl ⟨rfl, rfl⟩
theorem fin_ok : CutOk fin := Or.inr (Or.inl ⟨rfl, rfl⟩)
theorem ord_cls {a b : Cut} (h : cls a ≠ cls b) : ordC a b = cmpI (cls a) (cls b) := by
  unfold ordC lex
  rw [if_neg (fun e => h ((cmpI_zero _ _).1 e))]
theorem ord_ver {a b : Cut} (h : cls a = cls b) (k : a.v ≠ b.v) : ordC a b = cmpV a.v b.v := by
  unfold ordC lex
  rw [if_pos ((cmpI_zero _ _).2 h), if_neg (fun e => k ((cmpV_zero _ _).1 e))]
theorem ord_side {a b : Cut} (h : cls a = cls b) (k : a.v = b.v) : ordC a b = cmpI a.side b.side := by
  unfold ordC lex
  rw [if_pos ((cmpI_zero _ _).2 h), if_pos ((cmpV_zero _ _).2 k)]
/-- What the program tells of two cuts. -/
def cmpC (a b : Cut) : Int := if a = b then 0 else if a.side = 0 ∨ b.side = 3 then -1 else if a.side = 3 ∨ b.side = 0 then 1 else if a.v ≠ b.v then cmpV a.v b.v else if a.side = 1 then -1 else 1
theorem cls_of {c : Cut} (h : CutOk c) : (c.side = 0 ∧ cls c = 0 ∧ c = beg) ∨ (c.side = 3 ∧ cls c = 2 ∧ c = fin) ∨ ((c.side = 1 ∨ c.side = 2) ∧ cls c = 1) := by
  rcases h with ⟨h, k⟩ | ⟨h, k⟩ | ⟨h, k⟩
  · exact Or.inl ⟨h, by unfold cls; rw [if_pos h], (cut_eq _ _).2 ⟨h, k⟩⟩
  · exact Or.inr (Or.inl ⟨h, by unfold cls; rw [if_neg (by omega), if_pos h], (cut_eq _ _).2 ⟨h, k⟩⟩)
  · exact Or.inr (Or.inr ⟨h, by unfold cls; rw [if_neg (by omega), if_neg (by omega)]⟩)
theorem cmpC_ord {a b : Cut} (ha : CutOk a) (hb : CutOk b) : cmpC a b = ordC a b := by
  unfold cmpC
  by_cases e : a = b
  · rw [if_pos e, e, ordC_self]
  · rw [if_neg e]
    rcases cls_of ha with ⟨s1, c1, e1⟩ | ⟨s1, c1, e1⟩ | ⟨s1, c1⟩ <;> rcases cls_of hb with ⟨s2, c2, e2⟩ | ⟨s2, c2, e2⟩ | ⟨s2, c2⟩
    · exact absurd (e1.trans e2.symm) e
    · rw [if_pos (by omega), ord_cls (by omega), c1, c2]; rfl
    · rw [if_pos (by omega), ord_cls (by omega), c1, c2]; rfl
    · rw [if_neg (by omega), if_pos (by omega), ord_cls (by omega), c1, c2]; rfl
    · exact absurd (e1.trans e2.symm) e
    · rw [if_neg (by omega), if_pos (by omega), ord_cls (by omega), c1, c2]; rfl
    · rw [if_neg (by omega), if_pos (by omega), ord_cls (by omega), c1, c2]; rfl
    · rw [if_pos (by omega), ord_cls (by omega), c1, c2]; rfl
    · rw [if_neg (by omega), if_neg (by omega)]
      by_cases k : a.v = b.v
      · rw [if_neg (fun h => h k), ord_side (by omega) k]
        have hs : a.side ≠ b.side := fun h => e ((cut_eq a b).2 ⟨h, k⟩)
        by_cases h1 : a.side = 1
        · rw [if_pos h1]
          unfold cmpI
          rw [if_pos (by omega)]
        · rw [if_neg h1]
          unfold cmpI
          rw [if_neg (by omega), if_pos (by omega)]
      · rw [if_pos k, ord_ver (by omega) k]
theorem beg_le {c : Cut} (h : CutOk c) : le beg c := by
  unfold le
  rcases cls_of h with ⟨_, _, rfl⟩ | ⟨_, c1, _⟩ | ⟨_, c1⟩
  · rw [ordC_self]; omega
  · rw [ord_cls (by rw [c1]; decide), c1]; decide
  · rw [ord_cls (by rw [c1]; decide), c1]; decide
theorem le_fin {c : Cut} (h : CutOk c) : le c fin := by
  unfold le
  rcases cls_of h with ⟨_, c1, _⟩ | ⟨_, _, rfl⟩ | ⟨_, c1⟩
  · rw [ord_cls (by rw [c1]; decide), c1]; decide
  · rw [ordC_self]; omega
  · rw [ord_cls (by rw [c1]; decide), c1]; decide
/-- All. -/
abbrev allC : List Cut := [beg, fin]
theorem all_rise : Rise allC := List.Pairwise.cons (fun c hc => by
  rw [List.mem_singleton.1 hc]
  unfold lt
  rw [ord_cls (by decide)]
  decide) (List.Pairwise.cons (fun _ h => by cases h) List.Pairwise.nil)
/-- A set that may be. -/
structure SetOk (L : List Cut) : Prop where
  rise : Rise L
  ok : ∀ c ∈ L, CutOk c
  ins : ∀ p, inn false L p = true → inn false allC p = true
theorem inn_two (a b p : Cut) : inn false [a, b] p = (decide (le a p) && !decide (le b p)) := by
  rw [inn_cons, inn_cons]
  by_cases h : le a p
  · rw [if_pos h]
    by_cases k : le b p
    · rw [if_pos k, decide_eq_true h, decide_eq_true k]; rfl
    · rw [if_neg k, decide_eq_true h, decide_eq_false k]; rfl
  · rw [if_neg h, decide_eq_false h]; rfl
theorem piece_ok {a b : Cut} (ha : CutOk a) (hb : CutOk b) (h : lt a b) : SetOk [a, b] where
  rise := List.Pairwise.cons (fun c hc => by rw [List.mem_singleton.1 hc]; exact h) (List.Pairwise.cons (fun _ h => by cases h) List.Pairwise.nil)
  ok c hc := by
    rcases List.mem_cons.1 hc with rfl | hc
    · exact ha
    · rw [List.mem_singleton.1 hc]; exact hb
  ins p hp := by
    rw [inn_two] at hp ⊢
    simp only [Bool.and_eq_true, decide_eq_true_eq, Bool.not_eq_true', decide_eq_false_iff_not] at hp ⊢
    exact ⟨le_trans (beg_le ha) hp.1, fun k => hp.2 (le_trans (le_fin hb) k)⟩
theorem all_ok : SetOk allC := piece_ok beg_ok fin_ok (List.rel_of_pairwise_cons all_rise (List.mem_cons_self ..))
theorem none_ok : SetOk [] := ⟨List.Pairwise.nil, (fun _ h => by cases h), (fun _ h => by cases h)⟩
/-- What two sets make together by a rule. -/
def mk2 (f : Bool → Bool → Bool) (A B : List Cut) : List Cut := tog f (A.length + B.length) A B false false false
theorem mk2_inn {f : Bool → Bool → Bool} (hf : f false false = false) {A B : List Cut} (hA : SetOk A) (hB : SetOk B) (p : Cut) : inn false (mk2 f A B) p = f (inn false A p) (inn false B p) :=
  tog_inn f p _ A B false false false hA.rise hB.rise (Nat.le_refl _) hf.symm
theorem mk2_ok {f : Bool → Bool → Bool} (hf : f false false = false) {A B : List Cut} (hA : SetOk A) (hB : SetOk B) : SetOk (mk2 f A B) where
  rise := tog_rise f _ A B _ _ _ hA.rise hB.rise
  ok c hc := (tog_mem f _ A B _ _ _ c hc).elim (hA.ok c) (hB.ok c)
  ins p hp := by
    rw [mk2_inn hf hA hB] at hp
    cases h1 : inn false A p with
    | true => exact hA.ins p h1
    | false => cases h2 : inn false B p with
      | true => exact hB.ins p h2
      | false =>
        rw [h1, h2, hf] at hp
        cases hp
theorem mk2_len (f : Bool → Bool → Bool) (A B : List Cut) : (mk2 f A B).length ≤ A.length + B.length := tog_len f _ A B _ _ _
def fAnd (a b : Bool) : Bool := a && b
def fOr (a b : Bool) : Bool := a || b
def fNot (a b : Bool) : Bool := b && !a
abbrev andS (A B : List Cut) := mk2 fAnd A B
abbrev orS (A B : List Cut) := mk2 fOr A B
abbrev notS (A : List Cut) := mk2 fNot A allC
/-- Two sets that may be are one, if they have the same. -/
theorem set_one {A B : List Cut} (hA : SetOk A) (hB : SetOk B) (h : ∀ p, inn false A p = inn false B p) : A = B := inn_one false A B hA.rise hB.rise h
theorem inn_even : ∀ (s : Bool) (L : List Cut) (p : Cut), (∀ c ∈ L, le c p) → inn s L p = (if L.length % 2 = 0 then s else !s) := by
  intro s L
  induction L generalizing s with
  | nil => exact fun _ _ => rfl
  | cons c r ih =>
    intro p h
    rw [inn_cons, if_pos (h c (List.mem_cons_self ..)), ih (!s) p (fun x hx => h x (List.mem_cons_of_mem _ hx)), List.length_cons]
    by_cases k : r.length % 2 = 0
    · rw [if_pos k, if_neg (by omega)]
    · rw [if_neg k, if_pos (by omega), Bool.not_not]
theorem SetOk.even {L : List Cut} (h : SetOk L) : L.length % 2 = 0 := by
  have h1 := inn_even false L fin (fun c hc => le_fin (h.ok c hc))
  by_cases k : L.length % 2 = 0
  · exact k
  · rw [if_neg k] at h1
    have h2 := h.ins fin h1
    rw [inn_two] at h2
    simp [le_rfl] at h2
end Go.Proofs.YtkbhckjpmgkgjaaGreatDoor
