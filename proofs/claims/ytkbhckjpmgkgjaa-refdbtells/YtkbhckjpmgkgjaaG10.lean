/- My own work: reached: by numbers which paths some roots reach. -/
import Derived.Test.YtkbhckjpmgkgjaaG9
namespace Go.Proofs.Ytkbhckjpmgkgjaa
open Go.RowKit

/-- What holds between the looks: what is marked is reached; what is marked and was looked at has all that it refers to marked. -/
structure DI (n : Nat) (E : List (Nat × Nat)) (R : Nat → Prop) (V : Nat → Bool) (S : List Nat) : Prop where
  vis : ∀ k, V k = true → k < n ∧ Rch E R k
  stk : ∀ k ∈ S, V k = true
  clo : ∀ k, V k = true → k ∉ S → ∀ x, (k, x) ∈ E → V x = true
  nd : S.Nodup
/-- The same while x is looked at. -/
structure DP (n : Nat) (E : List (Nat × Nat)) (R : Nat → Prop) (V : Nat → Bool) (S : List Nat) (y : Nat) : Prop where
  vis : ∀ k, V k = true → k < n ∧ Rch E R k
  stk : ∀ k ∈ S, V k = true
  clo : ∀ k, V k = true → k ∉ S → k ≠ y → ∀ x, (k, x) ∈ E → V x = true
  nd : S.Nodup
  at' : V y = true
section
variable {n : Nat} {E : List (Nat × Nat)} {R : Nat → Prop} {V : Nat → Bool} {S : List Nat}
theorem DI.start : DI n E R (fun _ => false) [] := ⟨(fun _ h => by cases h), (fun _ h => by cases h), (fun _ h => by cases h), List.nodup_nil⟩
theorem setV_iff (V : Nat → Bool) (k j : Nat) : setV V k j = true ↔ V j = true ∨ j = k := by
  unfold setV
  split
  · rename_i h
    exact ⟨fun _ => .inr h, fun _ => rfl⟩
  · rename_i h
    exact ⟨.inl, fun h1 => h1.elim id fun e => absurd e h⟩
theorem DI.push (h : DI n E R V S) {k : Nat} (hk : k < n) (hr : Rch E R k) : DI n E R (setV V k) (if V k then S else S ++ [k]) := by
  cases hv : V k with
  | true =>
    rw [setV_same hv]
    exact h
  | false =>
    simp only [Bool.false_eq_true, if_false]
    refine ⟨fun j hj => ?_, fun j hj => ?_, fun j hj hn x hx => ?_, ?_⟩
    · rcases (setV_iff V k j).1 hj with h1 | rfl
      · exact h.vis j h1
      · exact ⟨hk, hr⟩
    · rw [setV_iff]
      rcases List.mem_append.1 hj with h1 | h1
      · exact .inl (h.stk j h1)
      · exact .inr (List.mem_singleton.1 h1)
    · rw [List.mem_append, List.mem_singleton, not_or] at hn
      rcases (setV_iff V k j).1 hj with h1 | h1
      · exact (setV_iff V k x).2 (.inl (h.clo j h1 hn.1 x hx))
      · exact absurd h1 hn.2
    · rw [List.nodup_append]
      refine ⟨h.nd, by simp, fun a ha b hb e => ?_⟩
      rw [List.mem_singleton] at hb
      rw [e, hb] at ha
      rw [h.stk k ha] at hv
      cases hv
theorem DP.push {y : Nat} (h : DP n E R V S y) {k : Nat} (hk : k < n) (hr : Rch E R k) : DP n E R (setV V k) (if V k then S else S ++ [k]) y := by
  cases hv : V k with
  | true =>
    rw [setV_same hv]
    exact h
  | false =>
    simp only [Bool.false_eq_true, if_false]
    refine ⟨fun j hj => ?_, fun j hj => ?_, fun j hj hn hy x hx => ?_, ?_, (setV_iff V k y).2 (.inl h.at')⟩
    · rcases (setV_iff V k j).1 hj with h1 | rfl
      · exact h.vis j h1
      · exact ⟨hk, hr⟩
    · rw [setV_iff]
      rcases List.mem_append.1 hj with h1 | h1
      · exact .inl (h.stk j h1)
      · exact .inr (List.mem_singleton.1 h1)
    · rw [List.mem_append, List.mem_singleton, not_or] at hn
      rcases (setV_iff V k j).1 hj with h1 | h1
      · exact (setV_iff V k x).2 (.inl (h.clo j h1 hn.1 hy x hx))
      · exact absurd h1 hn.2
    · rw [List.nodup_append]
      refine ⟨h.nd, by simp, fun a ha b hb e => ?_⟩
      rw [List.mem_singleton] at hb
      rw [e, hb] at ha
      rw [h.stk k ha] at hv
      cases hv
theorem DI.pop {y : Nat} (h : DI n E R V (S ++ [y])) : DP n E R V S y := by
  have hnd := List.nodup_append.1 h.nd
  exact ⟨h.vis, fun k hk => h.stk k (List.mem_append_left _ hk), fun k hk hn hy => h.clo k hk (fun hm => by
    rcases List.mem_append.1 hm with h1 | h1
    · exact hn h1
    · exact hy (List.mem_singleton.1 h1)), hnd.1, h.stk y (List.mem_append_right _ (List.mem_singleton.2 rfl))⟩
theorem DP.done {y : Nat} (h : DP n E R V S y) (hx : ∀ x, (y, x) ∈ E → V x = true) : DI n E R V S :=
  ⟨h.vis, h.stk, fun k hk hn x hxe => by
    by_cases e : k = y
    · subst e
      exact hx x hxe
    · exact h.clo k hk hn e x hxe, h.nd⟩
theorem few_S (hs : ∀ k ∈ S, V k = true) (hv : ∀ k, V k = true → k < n ∧ Rch E R k) (hnd : S.Nodup) : S.length ≤ n := by
  have := len_le S (List.range n) hnd (fun k hk => List.mem_range.2 (hv k (hs k hk)).1)
  rwa [List.length_range] at this
/-- At the end: what is marked is what is reached. -/
theorem DI.all (h : DI n E R V []) (hroot : ∀ k, R k → V k = true) (k : Nat) : V k = true ↔ Rch E R k :=
  ⟨fun hk => (h.vis k hk).2, fun hk => by
    induction hk with
    | root hr => exact hroot _ hr
    | step _ hx ih => exact h.clo _ ih List.not_mem_nil _ hx⟩
theorem push_meas {k : Nat} (hk : k < n) : 2 * unv n (setV V k) + (if V k then S else S ++ [k]).length ≤ 2 * unv n V + S.length := by
  cases hv : V k with
  | true => rw [setV_same hv]; exact Nat.le_refl _
  | false =>
    have := unv_set hk hv
    simp only [Bool.false_eq_true, if_false, List.length_append, List.length_cons, List.length_nil]
    omega
end
/-- Which numbers some roots have. -/
def rootsN (P roots : List ByteArray) (k : Nat) : Prop := ∃ x ∈ roots, P[k]? = some x
/-- What reached tells. -/
def ReachedPost (P roots : List ByteArray) (E : List (Nat × Nat)) (w : World) (e : Ending) (w' : World) : Prop :=
  ∃ rb V, e = .returned (.slice (some ⟨rb, 0, none⟩) P.length P.length) ∧ Row w' rb (boolsV P.length V) 4 ∧ (∀ k, V k = true ↔ Rch E (rootsN P roots) k) ∧ Below w.heap.size w w'
end Go.Proofs.Ytkbhckjpmgkgjaa
