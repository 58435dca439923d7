/- The program's disk beside the document's: the same texts, before and behind a power loss. -/
import Derived.Test.YtpdcmhfmicemnaaRefAfter
import Derived.Test.YtpdcmhfmicemnaaKeepsMath
namespace Go.Proofs.Ytpdcmhfmicemnaa
open Go.RowKit

/-- An event as the document has it. -/
def Ev.ref (e : Ev) : Rv := ⟨e.n, if e.n < 0 then ⟨#[]⟩ else sStr e.f⟩
structure Twin (D : Dk) (R : Rk) : Prop where
  len : R.F.length = D.s
  first : ∀ k, k < D.s → R.F.getD k ⟨#[]⟩ = S D.F k
  evs : R.L = D.E.map Ev.ref
  now : D.B = redoAll D.F D.ev D.E.length

theorem Twin.llen {D : Dk} {R : Rk} (h : Twin D R) : R.L.length = D.E.length := by rw [h.evs, List.length_map]
theorem Twin.ev {D : Dk} {R : Rk} (h : Twin D R) (i : Nat) (hi : i < D.E.length) : R.ev i = (D.ev i).ref := by
  unfold Rk.ev Dk.ev
  rw [h.evs]
  simp [List.getD, List.getElem?_eq_getElem hi]
theorem Dk.ev_ok {D : Dk} (h : D.ok) (i : Nat) (hi : i < D.E.length) : (D.ev i).ok D.s := by
  refine h.E _ ?_
  have : D.E[i]? = some (D.ev i) := by simp [Dk.ev, List.getD, List.getElem?_eq_getElem hi]
  exact List.mem_of_getElem? this
theorem ok_cases {s : Nat} {e : Ev} (h : e.ok s) : (e.n < 0 ∧ e = flushEv) ∨ (0 ≤ e.n ∧ e.n < s) := by
  rcases h.2 with rfl | h
  · exact .inl ⟨by decide, rfl⟩
  · exact .inr h

theorem Twin.text {D : Dk} {R : Rk} (h : Twin D R) (ho : D.ok) (n : Nat) (hn : n < D.s) : ∀ k, k ≤ D.E.length → refText R n k = S (redoAll D.F D.ev k) n := by
  intro k
  induction k with
  | zero => exact fun _ => h.first n hn
  | succ k ih =>
    intro hk
    have he := h.ev k (by omega)
    have e : refText R n (k + 1) = if (R.ev k).n = (n : Int) then (R.ev k).t else refText R n k := rfl
    rw [e, he, ih (by omega), redoAll, S_redo (D.ev k) (D.ev_ok ho k (by omega))]
    by_cases hq : (D.ev k).n = (n : Int)
    · rw [if_pos hq]
      show (if (D.ev k).n = (n : Int) then (if (D.ev k).n < 0 then (⟨#[]⟩ : ByteArray) else sStr (D.ev k).f) else _) = _
      rw [if_pos hq, if_neg (by omega)]
    · rw [if_neg hq]
      exact if_neg hq
theorem Twin.read {D : Dk} {R : Rk} (h : Twin D R) (ho : D.ok) (n : Nat) (hn : n < D.s) : refText R n R.L.length = S D.B n := by
  rw [h.llen, h.text ho n hn _ (Nat.le_refl _), ← h.now]

theorem Twin.flush {D : Dk} {R : Rk} (h : Twin D R) (Fl : Nat → Int) (hh : Hist D Fl) : Twin D.flush { R with L := R.L ++ [⟨-1, ⟨#[]⟩⟩] } :=
  ⟨h.len, h.first, by show R.L ++ [_] = (D.E ++ [flushEv]).map Ev.ref; rw [h.evs, List.map_append]; rfl, hh.flush.now⟩
theorem Twin.write {D : Dk} {R : Rk} (h : Twin D R) (Fl : Nat → Int) (hh : Hist D Fl) (n : Nat) (f : Nat → Int) : Twin (D.write n f) { R with L := R.L ++ [⟨n, sStr f⟩] } :=
  ⟨h.len, h.first, by
    show R.L ++ [_] = (D.E ++ [(⟨n, f⟩ : Ev)]).map Ev.ref
    rw [h.evs, List.map_append]
    congr 1, (hh.write n f).now⟩

/-- The last flush, in both ways of telling it. -/
theorem safe_last {D : Dk} {R : Rk} (h : Twin D R) (k : Nat) (hk : k ≤ D.E.length) :
    (safeN D.ev k = 0 ∧ lastR R k = 0 ∧ ∀ i, i < k → ¬ (D.ev i).n < 0) ∨ (safeN D.ev k = lastR R k + 1 ∧ lastR R k < k ∧ (D.ev (lastR R k)).n < 0 ∧ ∀ i, lastR R k < i → i < k → ¬ (D.ev i).n < 0) := by
  induction k with
  | zero => exact .inl ⟨rfl, rfl, fun i hi => absurd hi (by omega)⟩
  | succ k ih =>
    have he : (R.ev k).n = (D.ev k).n := by rw [h.ev k (by omega)]; rfl
    by_cases hq : (D.ev k).n < 0
    · have e1 : safeN D.ev (k + 1) = k + 1 := by rw [safeN]; simp [Ev.isFl, hq]
      have e2 : lastR R (k + 1) = k := by rw [lastR, he, if_pos hq]
      rw [e1, e2]
      exact .inr ⟨rfl, by omega, hq, fun i h1 h2 => by omega⟩
    · have e1 : safeN D.ev (k + 1) = safeN D.ev k := by rw [safeN]; simp [Ev.isFl, hq]
      have e2 : lastR R (k + 1) = lastR R k := by rw [lastR, he, if_neg hq]
      rw [e1, e2]
      rcases ih (by omega) with ⟨a, b, c⟩ | ⟨a, b, c, d⟩
      · exact .inl ⟨a, b, fun i hi => by
          by_cases e : i = k
          · subst e; exact hq
          · exact c i (by omega)⟩
      · exact .inr ⟨a, by omega, c, fun i h1 h2 => by
          by_cases e : i = k
          · subst e; exact hq
          · exact d i h1 (by omega)⟩

/-- Behind a power loss both have the same texts. -/
theorem Twin.after {D : Dk} {R : Rk} (h : Twin D R) (ho : D.ok) (k klen : Nat) (kf : Nat → Bool) (hk : k ≤ D.E.length) :
    Twin (D.after k klen kf) ⟨(refA R (lastR R k) klen kf k).1, []⟩ := by
  have hl := refA_len R (lastR R k) klen kf k
  refine ⟨hl.1.trans h.len, fun n hn => ?_, rfl, rfl⟩
  have hn' : n < D.s := hn
  have key : ∀ i, i ≤ k → (refA R (lastR R k) klen kf i).2 = i - safeN D.ev k ∧ (refA R (lastR R k) klen kf i).1.getD n ⟨#[]⟩ = S (afterF D.F D.ev (safeN D.ev k) klen kf i) n := by
    intro i
    induction i with
    | zero => exact fun _ => ⟨by simp [refA], h.first n hn'⟩
    | succ i ih =>
      intro hi
      obtain ⟨h1, h2⟩ := ih (by omega)
      have he := h.ev i (by omega)
      have hok := ok_cases (D.ev_ok ho i (by omega))
      have hlen := (refA_len R (lastR R k) klen kf i).1
      have hsl := safe_last h k hk
      have hen : (R.ev i).n = (D.ev i).n := by rw [he]; rfl
      have hset : ¬ (D.ev i).n < 0 → ((refA R (lastR R k) klen kf i).1.set (D.ev i).n.toNat (R.ev i).t).getD n ⟨#[]⟩ = S (redoF (D.ev i) (afterF D.F D.ev (safeN D.ev k) klen kf i)) n := fun hq => by
        rw [S_redo (D.ev i) (D.ev_ok ho i (by omega)), he]
        have hnl : (D.ev i).n.toNat < (refA R (lastR R k) klen kf i).1.length := by rw [hlen, h.len]; omega
        by_cases hqn : (D.ev i).n = (n : Int)
        · rw [if_pos hqn]
          have : (D.ev i).n.toNat = n := by omega
          rw [this] at hnl ⊢
          simp [List.getD, hnl, Ev.ref, hq]
        · rw [if_neg hqn, ← h2]
          have : (D.ev i).n.toNat ≠ n := by omega
          simp [List.getD, List.getElem?_set_ne this]
      by_cases hq : (D.ev i).n < 0
      · have e1 : refA R (lastR R k) klen kf (i + 1) = refA R (lastR R k) klen kf i := by simp only [refA]; rw [hen, if_pos hq]
        have hfl : D.ev i = flushEv := by
          rcases hok with ⟨_, h⟩ | h
          · exact h
          · omega
        have hsf : i < safeN D.ev k := by
          rcases hsl with ⟨_, _, c⟩ | ⟨a, _, _, d⟩
          · exact absurd hq (c i (by omega))
          · rcases Nat.lt_or_ge (lastR R k) i with hlt | hge
            · exact absurd hq (d i hlt (by omega))
            · omega
        refine ⟨by rw [e1, h1]; omega, ?_⟩
        rw [e1, h2, afterF, if_pos (.inl hsf), hfl]
        simp [redoF, Ev.isFl, flushEv]
      · by_cases hil : i < lastR R k
        · have e1 : refA R (lastR R k) klen kf (i + 1) = ((refA R (lastR R k) klen kf i).1.set (D.ev i).n.toNat (R.ev i).t, (refA R (lastR R k) klen kf i).2) := by simp only [refA]; rw [hen, if_neg hq, if_pos hil]
          have hsf : i + 1 ≤ safeN D.ev k := by
            rcases hsl with ⟨_, b, _⟩ | ⟨a, _, _, _⟩ <;> omega
          refine ⟨by rw [e1]; show (refA R (lastR R k) klen kf i).2 = _; rw [h1]; omega, ?_⟩
          rw [e1, afterF, if_pos (.inl (by omega))]
          exact hset hq
        · have hsf : safeN D.ev k ≤ i := by
            rcases hsl with ⟨a, _, _⟩ | ⟨a, b, c, d⟩
            · omega
            · rcases Nat.lt_or_ge (lastR R k) i with hlt | hge
              · omega
              · have : i = lastR R k := by omega
                subst this
                exact absurd c hq
          by_cases hkp : keptB klen kf (i - safeN D.ev k) = true
          · have e1 : refA R (lastR R k) klen kf (i + 1) = ((refA R (lastR R k) klen kf i).1.set (D.ev i).n.toNat (R.ev i).t, (refA R (lastR R k) klen kf i).2 + 1) := by simp only [refA]; rw [hen, if_neg hq, if_neg hil, h1, hkp]; rfl
            refine ⟨by rw [e1]; show (refA R (lastR R k) klen kf i).2 + 1 = _; rw [h1]; omega, ?_⟩
            rw [e1, afterF, if_pos (.inr hkp)]
            exact hset hq
          · have hkp' : keptB klen kf (i - safeN D.ev k) = false := by simpa using hkp
            have e1 : refA R (lastR R k) klen kf (i + 1) = ((refA R (lastR R k) klen kf i).1, (refA R (lastR R k) klen kf i).2 + 1) := by simp only [refA]; rw [hen, if_neg hq, if_neg hil, h1, hkp']; rfl
            refine ⟨by rw [e1]; show (refA R (lastR R k) klen kf i).2 + 1 = _; rw [h1]; omega, ?_⟩
            rw [e1, afterF, if_neg (by rw [hkp']; simp; omega)]
            exact h2
  exact (key k (Nat.le_refl _)).2
end Go.Proofs.Ytpdcmhfmicemnaa
