/- My own work: what an order is: the mathematics of begin and next. -/
import Derived.Test.YtkbhckjpmgkgjaaG20
namespace Go.Proofs.Ytkbhckjpmgkgjaa
open Go.RowKit

/-- A number into numbers that rise. -/
def insS (f : Nat) : List Nat → List Nat
  | [] => [f]
  | y :: R => if y < f then y :: insS f R else f :: y :: R
theorem insS_mem {f k : Nat} : ∀ {R : List Nat}, k ∈ insS f R ↔ k = f ∨ k ∈ R
  | [] => by simp [insS]
  | y :: R => by
    unfold insS
    split
    · rw [List.mem_cons, insS_mem, List.mem_cons]
      constructor
      · rintro (h | h | h)
        · exact .inr (.inl h)
        · exact .inl h
        · exact .inr (.inr h)
      · rintro (h | h | h)
        · exact .inr (.inl h)
        · exact .inl h
        · exact .inr (.inr h)
    · simp
theorem insS_up {f : Nat} : ∀ {R : List Nat}, R.Pairwise (· < ·) → f ∉ R → (insS f R).Pairwise (· < ·)
  | [], _, _ => by simp [insS]
  | y :: R, h, hf => by
    rw [List.pairwise_cons] at h
    rw [List.mem_cons, not_or] at hf
    unfold insS
    split
    · rename_i hy
      rw [List.pairwise_cons]
      refine ⟨fun k hk => ?_, insS_up h.2 hf.2⟩
      rcases insS_mem.1 hk with rfl | hk
      · exact hy
      · exact h.1 k hk
    · rename_i hy
      have hfy : f < y := by omega
      rw [List.pairwise_cons, List.pairwise_cons]
      refine ⟨fun k hk => ?_, h.1, h.2⟩
      rcases List.mem_cons.1 hk with rfl | hk
      · exact hfy
      · exact Nat.lt_trans hfy (h.1 k hk)
theorem insAt_eq {f : Nat} : ∀ {R : List Nat}, R.Pairwise (· < ·) → insAt (posR R f) f R = insS f R
  | [], _ => rfl
  | y :: R, h => by
    rw [List.pairwise_cons] at h
    unfold insS
    split
    · rename_i hy
      have e : posR (y :: R) f = posR R f + 1 := by
        unfold posR
        rw [List.countP_cons_of_pos (by simpa using hy)]
      rw [e, ← insAt_eq h.2]
      rfl
    · rename_i hy
      have e : posR (y :: R) f = 0 := by
        unfold posR
        rw [List.countP_eq_zero]
        intro k hk
        rcases List.mem_cons.1 hk with rfl | hk
        · simpa using hy
        · have := h.1 k hk
          simp
          omega
      rw [e]
      rfl
/-- What a round of tellings leaves. -/
theorem runO_spec : ∀ (l : List Nat) (W : Nat → Nat) (R : List Nat), l.Nodup → (∀ f ∈ l, 1 ≤ W f ∧ f ∉ R) → R.Pairwise (· < ·) →
    (∀ k, (runO W R l).1 k = if k ∈ l then W k - 1 else W k) ∧ (runO W R l).2.Pairwise (· < ·) ∧ ∀ k, k ∈ (runO W R l).2 ↔ k ∈ R ∨ (k ∈ l ∧ W k = 1)
  | [], W, R, _, _, hs => ⟨fun k => by simp [runO], hs, fun k => by simp [runO]⟩
  | f :: l, W, R, hn, hf, hs => by
    rw [List.nodup_cons] at hn
    have hff := hf f List.mem_cons_self
    have e : runO W R (f :: l) = runO (stepO (W, R) f).1 (stepO (W, R) f).2 l := rfl
    have hR1 : (stepO (W, R) f).2 = if W f - 1 = 0 then insS f R else R := by
      show (if W f - 1 = 0 then insAt (posR R f) f R else R) = _
      rw [insAt_eq hs]
    have hW1 : ∀ k, (stepO (W, R) f).1 k = if k = f then W f - 1 else W k := fun k => rfl
    have hs1 : (stepO (W, R) f).2.Pairwise (· < ·) := by
      rw [hR1]
      split
      · exact insS_up hs hff.2
      · exact hs
    have hm1 : ∀ k, k ∈ (stepO (W, R) f).2 ↔ k ∈ R ∨ (k = f ∧ W f = 1) := fun k => by
      rw [hR1]
      split
      · rename_i h0
        have : W f = 1 := by omega
        rw [insS_mem]
        constructor
        · rintro (h | h)
          · exact .inr ⟨h, this⟩
          · exact .inl h
        · rintro (h | h)
          · exact .inr h
          · exact .inl h.1
      · rename_i h0
        constructor
        · exact .inl
        · rintro (h | h)
          · exact h
          · omega
    obtain ⟨h1, h2, h3⟩ := runO_spec l (stepO (W, R) f).1 (stepO (W, R) f).2 hn.2 (fun k hk => by
      have hkf : k ≠ f := fun e => hn.1 (by rw [← e]; exact hk)
      have h0 := hf k (List.mem_cons_of_mem _ hk)
      refine ⟨?_, ?_⟩
      · rw [hW1, if_neg hkf]
        exact h0.1
      · rw [hm1]
        rintro (h | h)
        · exact h0.2 h
        · exact hkf h.1) hs1
    rw [e]
    refine ⟨fun k => ?_, h2, fun k => ?_⟩
    · rw [h1, hW1]
      by_cases hkf : k = f
      · subst hkf
        rw [if_neg hn.1, if_pos rfl, if_pos List.mem_cons_self]
      · simp [hkf]
    · rw [h3, hm1, hW1]
      by_cases hkf : k = f
      · subst hkf
        simp [hn.1]
      · simp [hkf]
/-- How many that are not told yet one refers to. -/
def waitL (D : List (Nat × Nat)) (L : List Nat) (k : Nat) : Nat := D.countP fun x => x.1 == k && x.1 != x.2 && !L.contains x.2
theorem waitL_nil (D : List (Nat × Nat)) : waitL D [] = waitN D := by
  funext k
  unfold waitL waitN
  rw [← List.countP_eq_length_filter]
  congr 1
  funext x
  simp
theorem waitL_zero {D : List (Nat × Nat)} {L : List Nat} {k : Nat} : waitL D L k = 0 ↔ ∀ x, (k, x) ∈ D → x ≠ k → x ∈ L := by
  unfold waitL
  rw [List.countP_eq_zero]
  constructor
  · intro h x hx hne
    have := h (k, x) hx
    simp only [beq_self_eq_true, Bool.true_and, Bool.and_eq_true, bne_iff_ne, ne_eq, Bool.not_eq_true', not_and, Bool.not_eq_false, List.contains_iff_mem] at this
    exact this (fun e => hne e.symm)
  · rintro h ⟨a, x⟩ hx
    simp only [Bool.and_eq_true, beq_iff_eq, bne_iff_ne, ne_eq, Bool.not_eq_true', not_and, Bool.not_eq_false, List.contains_iff_mem]
    rintro ⟨rfl, hne⟩
    exact h x hx (fun e => hne e.symm)
theorem waitL_snoc {L : List Nat} {n0 k : Nat} (hL : n0 ∉ L) : ∀ (D : List (Nat × Nat)), D.Nodup → waitL D L k = waitL D (L ++ [n0]) k + if (k, n0) ∈ D ∧ k ≠ n0 then 1 else 0
  | [], _ => by simp [waitL]
  | (a, b) :: D, hn => by
    rw [List.nodup_cons] at hn
    have ih := waitL_snoc (k := k) hL D hn.2
    unfold waitL at ih ⊢
    rw [List.countP_cons, List.countP_cons, ih]
    by_cases hab : (k, n0) = (a, b)
    · cases hab
      by_cases hk : k = n0
      · subst hk
        simp
      · have h1 : ¬ ((k, n0) ∈ D ∧ k ≠ n0) := fun h => hn.1 h.1
        rw [if_neg h1]
        simp [hk, hL]
    · have h1 : ((k, n0) ∈ (a, b) :: D ∧ k ≠ n0) ↔ ((k, n0) ∈ D ∧ k ≠ n0) := by
        rw [List.mem_cons]
        constructor
        · rintro ⟨h | h, h2⟩
          · exact absurd h hab
          · exact ⟨h, h2⟩
        · rintro ⟨h, h2⟩
          exact ⟨.inr h, h2⟩
      have h2 : (a == k && a != b && !L.contains b) = (a == k && a != b && !(L ++ [n0]).contains b) := by
        by_cases hak : a = k
        · subst hak
          have hb : b ≠ n0 := fun e => hab (by rw [e])
          simp [hb]
        · have h3 : (a == k) = false := by simpa using hak
          rw [h3]
          rfl
      simp only [h1, h2]
      omega
theorem refT_mem {D : List (Nat × Nat)} {n0 f : Nat} : f ∈ refT D n0 ↔ (f, n0) ∈ D ∧ f ≠ n0 := by
  unfold refT
  rw [List.mem_map]
  constructor
  · rintro ⟨⟨a, b⟩, h, rfl⟩
    rw [List.mem_filter] at h
    simp at h
    obtain ⟨h1, rfl, h3⟩ := h
    exact ⟨h1, h3⟩
  · rintro ⟨h, hne⟩
    exact ⟨(f, n0), List.mem_filter.2 ⟨h, by simp [hne]⟩, rfl⟩
theorem refT_nodup {D : List (Nat × Nat)} {n0 : Nat} (h : D.Nodup) : (refT D n0).Nodup := by
  unfold refT
  refine List.pairwise_map.2 (List.Pairwise.imp_of_mem (fun {a b} ha hb hab e => hab ?_) (List.Pairwise.filter _ h))
  rw [List.mem_filter] at ha hb
  have h1 : a.2 = n0 := by have := ha.2; simp at this; exact this.1
  have h2 : b.2 = n0 := by have := hb.2; simp at this; exact this.1
  exact Prod.ext e (h1.trans h2.symm)
/-- Who may be told next. -/
def RdyE (E : List (Nat × Nat)) (n : Nat) (L : List Nat) (k : Nat) : Prop := k < n ∧ k ∉ L ∧ ∀ x, (k, x) ∈ E → x ≠ k → x ∈ L
/-- A list that is told so: each time the least. -/
inductive OTold (E : List (Nat × Nat)) (n : Nat) : List Nat → Prop
  | nil : OTold E n []
  | snoc {L : List Nat} {k : Nat} : OTold E n L → RdyE E n L k → (∀ k', RdyE E n L k' → k ≤ k') → OTold E n (L ++ [k])
theorem OTold.closed {E : List (Nat × Nat)} {n : Nat} {L : List Nat} (h : OTold E n L) : ∀ k ∈ L, ∀ x, (k, x) ∈ E → x ≠ k → x ∈ L := by
  induction h with
  | nil => intro k hk; cases hk
  | snoc _ h2 _ ih =>
    intro k hk x hx hne
    rcases List.mem_append.1 hk with h4 | h4
    · exact List.mem_append.2 (.inl (ih k h4 x hx hne))
    · rw [List.mem_singleton] at h4
      subst h4
      exact List.mem_append.2 (.inl (h2.2.2 x hx hne))
theorem OTold.lt {E : List (Nat × Nat)} {n : Nat} {L : List Nat} (h : OTold E n L) : ∀ k ∈ L, k < n := by
  induction h with
  | nil => intro k hk; cases hk
  | snoc _ h2 _ ih =>
    intro k hk
    rcases List.mem_append.1 hk with h4 | h4
    · exact ih k h4
    · rw [List.mem_singleton] at h4
      subst h4
      exact h2.1
theorem OTold.nodup {E : List (Nat × Nat)} {n : Nat} {L : List Nat} (h : OTold E n L) : L.Nodup := by
  induction h with
  | nil => exact List.nodup_nil
  | snoc _ h2 _ ih =>
    rw [List.nodup_append]
    refine ⟨ih, by simp, fun a ha b hb => ?_⟩
    rw [List.mem_singleton] at hb
    subst hb
    exact fun e => h2.2.1 (by rw [← e]; exact ha)
theorem OTold.few {E : List (Nat × Nat)} {n : Nat} {L : List Nat} (h : OTold E n L) : L.length ≤ n := by
  have := len_le L (List.range n) h.nodup (fun k hk => List.mem_range.2 (h.lt k hk))
  rw [List.length_range] at this
  exact this
theorem OTold.before {E : List (Nat × Nat)} {n : Nat} {L : List Nat} (h : OTold E n L) : ∀ i (hi : i < L.length) x, (L[i], x) ∈ E → x ≠ L[i] → x ∈ L.take i := by
  induction h with
  | nil => intro i hi; cases hi
  | @snoc L k _ h2 _ ih =>
    intro i hi x hx hne
    rw [List.length_append, List.length_singleton] at hi
    by_cases hiL : i < L.length
    · rw [List.getElem_append_left hiL] at hx hne
      rw [List.take_append_of_le_length (Nat.le_of_lt hiL)]
      exact ih i hiL x hx hne
    · obtain rfl : i = L.length := by omega
      rw [List.getElem_append_right (Nat.le_refl _)] at hx hne
      simp at hx hne
      rw [List.take_append_of_le_length (Nat.le_refl _), List.take_length]
      exact h2.2.2 x hx hne
/-- Which list is told hangs on the edges alone. -/
theorem told_one {E E' : List (Nat × Nat)} {n : Nat} (he : ∀ x, x ∈ E ↔ x ∈ E') {L L' : List Nat} (h : OTold E n L) (h' : OTold E' n L') (hl : L.length = L'.length) : L = L' := by
  have hr : ∀ L k, RdyE E n L k ↔ RdyE E' n L k := fun L k => by
    unfold RdyE
    simp only [he]
  induction h generalizing L' with
  | nil => cases L' with
    | nil => rfl
    | cons => cases hl
  | @snoc L k _ h2 h3 ih =>
    cases h' with
    | nil => simp at hl
    | @snoc L2 k2 g1 g2 g3 =>
      have e : L = L2 := ih g1 (by simpa using hl)
      subst e
      have h4 := h3 k2 ((hr _ _).2 g2)
      have h5 := g3 k ((hr _ _).1 h2)
      rw [Nat.le_antisymm h4 h5]
theorem told_all {E E' : List (Nat × Nat)} {n : Nat} (he : ∀ x, x ∈ E ↔ x ∈ E') {L L' : List Nat} (h : OTold E n L) (h' : OTold E' n L') (hf : ∀ k, ¬ RdyE E n L k) (hf' : ∀ k, ¬ RdyE E' n L' k) : L = L' := by
  have hr : ∀ L k, RdyE E n L k ↔ RdyE E' n L k := fun L k => by
    unfold RdyE
    simp only [he]
  have hpre : ∀ {E : List (Nat × Nat)} {L : List Nat}, OTold E n L → ∀ m, m < L.length → OTold E n (L.take m) ∧ ∃ k, RdyE E n (L.take m) k := by
    intro E L h
    induction h with
    | nil => intro m hm; cases hm
    | @snoc L k h1 h2 _ ih =>
      intro m hm
      rw [List.length_append, List.length_singleton] at hm
      rw [List.take_append_of_le_length (by omega)]
      by_cases hmL : m < L.length
      · exact ih m hmL
      · rw [List.take_of_length_le (by omega)]
        exact ⟨h1, k, h2⟩
  by_cases hlt : L.length < L'.length
  · obtain ⟨h1, k, h2⟩ := hpre h' L.length hlt
    have e : L = L'.take L.length := told_one he h h1 (by rw [List.length_take]; omega)
    rw [← e] at h2
    exact absurd ((hr _ _).2 h2) (hf k)
  · by_cases hgt : L'.length < L.length
    · obtain ⟨h1, k, h2⟩ := hpre h L'.length hgt
      have e : L.take L'.length = L' := told_one he h1 h' (by rw [List.length_take]; omega)
      rw [e] at h2
      exact absurd ((hr _ _).1 h2) (hf' k)
    · exact told_one he h h' (by omega)
/-- Two of some numbers are one, if there are more than can be. -/
theorem pigeon (S : List Nat) (f : Nat → Nat) (hf : ∀ i, f i ∈ S) : ∃ i j, i < j ∧ f i = f j := by
  refine Classical.byContradiction fun hno => ?_
  have h := len_le ((List.range (S.length + 1)).map f) S (List.pairwise_map.2 (List.Pairwise.imp (fun {a b} hab e => hno ⟨a, b, hab, e⟩) List.pairwise_lt_range)) (fun x hx => by
    obtain ⟨i, _, rfl⟩ := List.mem_map.1 hx
    exact hf i)
  rw [List.length_map, List.length_range] at h
  omega
/-- Those that are never told reach themselves by others. -/
theorem told_ring {E : List (Nat × Nat)} {n : Nat} {L : List Nat} (hb : ∀ x ∈ E, x.1 < n ∧ x.2 < n) (hf : ∀ k, ¬ RdyE E n L k) (hl : L.length < n) : ∃ a b, (a, b) ∈ E ∧ a ≠ b ∧ Rch E (fun k => k = b) a := by
  have hs : ∀ k, k < n ∧ k ∉ L → ∃ x, (x < n ∧ x ∉ L) ∧ (k, x) ∈ E ∧ k ≠ x := fun k hk => by
    refine Classical.byContradiction fun hno => hf k ⟨hk.1, hk.2, fun x hx hne => ?_⟩
    refine Classical.byContradiction fun hxL => hno ⟨x, ⟨(hb _ hx).2, hxL⟩, hx, Ne.symm hne⟩
  obtain ⟨k0, hk0⟩ : ∃ k, k < n ∧ k ∉ L := by
    refine Classical.byContradiction fun hno => ?_
    have h1 := len_le (List.range n) L List.nodup_range (fun k hk => Classical.byContradiction fun hkL => hno ⟨k, List.mem_range.1 hk, hkL⟩)
    rw [List.length_range] at h1
    omega
  let nx : { k // k < n ∧ k ∉ L } → { k // k < n ∧ k ∉ L } := fun k => ⟨(hs k.1 k.2).choose, (hs k.1 k.2).choose_spec.1⟩
  have hnx : ∀ k, (k.1, (nx k).1) ∈ E ∧ k.1 ≠ (nx k).1 := fun k => (hs k.1 k.2).choose_spec.2
  let sq : Nat → { k // k < n ∧ k ∉ L } := fun i => Nat.rec ⟨k0, hk0⟩ (fun _ k => nx k) i
  have hsq : ∀ i, sq (i + 1) = nx (sq i) := fun i => rfl
  obtain ⟨i, j, hij, he⟩ := pigeon (List.range n) (fun i => (sq i).1) (fun i => List.mem_range.2 (sq i).2.1)
  have hre : ∀ d, Rch E (fun k => k = (sq (i + 1)).1) (sq (i + 1 + d)).1 := fun d => by
    induction d with
    | zero => exact .root rfl
    | succ d ih => exact .step ih (hnx (sq (i + 1 + d))).1
  have h1 := hre (j - (i + 1))
  rw [show i + 1 + (j - (i + 1)) = j by omega] at h1
  refine ⟨(sq i).1, (sq (i + 1)).1, (hnx (sq i)).1, (hnx (sq i)).2, ?_⟩
  have he' : (sq i).1 = (sq j).1 := he
  rw [he']
  exact h1
/-- An order under way, as numbers. -/
structure OInv (D : List (Nat × Nat)) (n : Nat) (L : List Nat) (W : Nat → Nat) (R : List Nat) : Prop where
  told : OTold D n L
  wts : W = waitL D L
  up : R.Pairwise (· < ·)
  mem : ∀ k, k ∈ R ↔ RdyE D n L k
theorem OInv.start (D : List (Nat × Nat)) (n : Nat) : OInv D n [] (waitN D) (rdyTo (waitN D) n) := by
  refine ⟨.nil, (waitL_nil D).symm, ?_, fun k => ?_⟩
  · unfold rdyTo
    exact List.Pairwise.filter _ List.pairwise_lt_range
  · unfold rdyTo RdyE
    rw [List.mem_filter, List.mem_range, beq_iff_eq, ← waitL_nil, waitL_zero]
    simp
theorem OInv.step {D : List (Nat × Nat)} {n : Nat} {L : List Nat} {W : Nat → Nat} {n0 : Nat} {R : List Nat} (h : OInv D n L W (n0 :: R)) (hD : D.Nodup) (hb : ∀ x ∈ D, x.1 < n ∧ x.2 < n) :
    OInv D n (L ++ [n0]) (runO W R (refT D n0)).1 (runO W R (refT D n0)).2 ∧
    ∀ j f, (refT D n0)[j]? = some f → (1 ≤ (runO W R ((refT D n0).take j)).1 f ∧ (runO W R ((refT D n0).take j)).1 f ≤ D.length) ∧ (runO W R ((refT D n0).take j)).2.Pairwise (· < ·) ∧ ∀ k ∈ (runO W R ((refT D n0).take j)).2, k < n := by
  have hr0 := (h.mem n0).1 List.mem_cons_self
  have hup := List.pairwise_cons.1 h.up
  have hpos : ∀ f ∈ refT D n0, 1 ≤ W f ∧ f ∉ R := fun f hf => by
    obtain ⟨h1, h2⟩ := refT_mem.1 hf
    have hnz : ¬ waitL D L f = 0 := fun e => hr0.2.1 (waitL_zero.1 e n0 h1 (Ne.symm h2))
    refine ⟨by rw [h.wts]; omega, fun hR => hnz ?_⟩
    exact waitL_zero.2 ((h.mem f).1 (List.mem_cons_of_mem _ hR)).2.2
  have hnd := refT_nodup (n0 := n0) hD
  have hall := runO_spec (refT D n0) W R hnd hpos hup.2
  have hRm : ∀ k, k ∈ R ↔ RdyE D n L k ∧ k ≠ n0 := fun k => by
    constructor
    · intro hk
      exact ⟨(h.mem k).1 (List.mem_cons_of_mem _ hk), fun e => by have := hup.1 k hk; omega⟩
    · rintro ⟨h1, h2⟩
      rcases List.mem_cons.1 ((h.mem k).2 h1) with e | h3
      · exact absurd e h2
      · exact h3
  have hW' : (runO W R (refT D n0)).1 = waitL D (L ++ [n0]) := by
    funext k
    rw [hall.1 k, h.wts]
    have hs := waitL_snoc (k := k) hr0.2.1 D hD
    by_cases hk : k ∈ refT D n0
    · rw [if_pos hk, hs, if_pos (refT_mem.1 hk)]
      omega
    · rw [if_neg hk, hs, if_neg (fun e => hk (refT_mem.2 e))]
      omega
  refine ⟨⟨.snoc h.told hr0 fun k' hk' => ?_, hW', hall.2.1, fun k => ?_⟩, fun j f hf => ?_⟩
  · rcases List.mem_cons.1 ((h.mem k').2 hk') with rfl | h3
    · exact Nat.le_refl _
    · exact Nat.le_of_lt (hup.1 k' h3)
  · rw [hall.2.2 k, hRm]
    unfold RdyE
    constructor
    · rintro (⟨⟨h1, h2, h3⟩, h4⟩ | ⟨h1, h2⟩)
      · exact ⟨h1, by simp [h2, h4], fun x hx hne => List.mem_append.2 (.inl (h3 x hx hne))⟩
      · obtain ⟨h3, h4⟩ := refT_mem.1 h1
        have hz : waitL D (L ++ [n0]) k = 0 := by rw [← hW', hall.1 k, if_pos h1, h2]
        refine ⟨(hb _ h3).1, ?_, waitL_zero.1 hz⟩
        rw [List.mem_append, List.mem_singleton, not_or]
        refine ⟨fun hL => ?_, h4⟩
        exact hr0.2.1 (h.told.closed k hL n0 h3 (Ne.symm h4))
    · rintro ⟨h1, h2, h3⟩
      rw [List.mem_append, List.mem_singleton, not_or] at h2
      by_cases hk : k ∈ refT D n0
      · right
        refine ⟨hk, ?_⟩
        have hz := waitL_zero.2 h3
        rw [← hW', hall.1 k, if_pos hk] at hz
        have := (hpos k hk).1
        omega
      · left
        refine ⟨⟨h1, h2.1, fun x hx hne => ?_⟩, h2.2⟩
        rcases List.mem_append.1 (h3 x hx hne) with h4 | h4
        · exact h4
        · rw [List.mem_singleton] at h4
          subst h4
          exact absurd (refT_mem.2 ⟨hx, Ne.symm hne⟩) hk
  · have hjl : j < (refT D n0).length := (List.getElem?_eq_some_iff.1 hf).1
    have hfl : f ∈ refT D n0 := List.mem_of_getElem? hf
    have hft : f ∉ (refT D n0).take j := fun hm => by
      obtain ⟨i, hi, hie⟩ := List.getElem_of_mem hm
      rw [List.length_take] at hi
      rw [List.getElem_take] at hie
      have hjf : (refT D n0)[j] = f := Option.some.inj ((List.getElem?_eq_getElem hjl).symm.trans hf)
      have := List.pairwise_iff_getElem.1 hnd i j (by omega) hjl (by omega)
      exact this (hie.trans hjf.symm)
    have hsp := runO_spec ((refT D n0).take j) W R (List.Pairwise.sublist (List.take_sublist _ _) hnd) (fun f hf => hpos f (List.mem_of_mem_take hf)) hup.2
    refine ⟨?_, hsp.2.1, fun k hk => ?_⟩
    · rw [hsp.1 f, if_neg hft]
      refine ⟨(hpos f hfl).1, ?_⟩
      rw [h.wts]
      exact List.countP_le_length
    · rcases (hsp.2.2 k).1 hk with h1 | h1
      · exact ((hRm k).1 h1).1.1
      · exact (hb _ (refT_mem.1 (List.mem_of_mem_take h1.1)).1).1
end Go.Proofs.Ytkbhckjpmgkgjaa
