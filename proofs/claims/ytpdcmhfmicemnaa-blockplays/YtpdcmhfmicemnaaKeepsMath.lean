/- What a sector may be behind a power loss: one of the texts that were written there, none older than the last one ahead of the last flush. -/
import Derived.Test.YtpdcmhfmicemnaaTexts
namespace Go.Proofs.Ytpdcmhfmicemnaa
open Go.RowKit

/-- The texts that the first n events wrote to sector k, behind the one that it had at first. -/
def wl (F : Nat → Int) (E : Nat → Ev) (k : Nat) : Nat → List ByteArray
  | 0 => [S F k]
  | n + 1 => if (E n).n = (k : Int) then wl F E k n ++ [sStr (E n).f] else wl F E k n

theorem wl_pre (F : Nat → Int) (E : Nat → Ev) (k n p : Nat) (t : ByteArray) (h : (wl F E k n)[p]? = some t) : (wl F E k (n + 1))[p]? = some t := by
  unfold wl
  split
  · rw [List.getElem?_append_left (List.getElem?_eq_some_iff.1 h).1]
    exact h
  · exact h
theorem wl_far (F : Nat → Int) (E : Nat → Ev) (k n p : Nat) (t : ByteArray) (h : (wl F E k n)[p]? = some t) : ∀ d, (wl F E k (n + d))[p]? = some t
  | 0 => h
  | d + 1 => wl_pre F E k (n + d) p t (wl_far F E k n p t h d)
theorem wl_mono1 (F : Nat → Int) (E : Nat → Ev) (k n : Nat) : (wl F E k n).length ≤ (wl F E k (n + 1)).length := by
  conv => rhs; unfold wl
  split <;> simp
theorem wl_mono (F : Nat → Int) (E : Nat → Ev) (k n : Nat) : ∀ d, (wl F E k n).length ≤ (wl F E k (n + d)).length
  | 0 => Nat.le_refl _
  | d + 1 => Nat.le_trans (wl_mono F E k n d) (wl_mono1 F E k (n + d))
theorem wl_pos (F : Nat → Int) (E : Nat → Ev) (k n : Nat) : 1 ≤ (wl F E k n).length := by
  have := wl_mono F E k 0 n
  rw [Nat.zero_add] at this
  exact this
theorem wl_congr (F : Nat → Int) (E E' : Nat → Ev) (k n : Nat) (h : ∀ i, i < n → E i = E' i) : wl F E k n = wl F E' k n := by
  induction n with
  | zero => rfl
  | succ n ih => unfold wl; rw [h n (by omega), ih (fun i hi => h i (by omega))]

theorem S_redo {s : Nat} (e : Ev) (he : e.ok s) (F : Nat → Int) (k : Nat) : S (redoF e F) k = if e.n = (k : Int) then sStr e.f else S F k := by
  unfold redoF
  rcases he.2 with rfl | h
  · rw [if_pos (by simp [Ev.isFl, flushEv]), if_neg (by simp [flushEv])]
  · rw [if_neg (by simp [Ev.isFl]; omega), S_over]
    by_cases hk : e.n = (k : Int)
    · rw [if_pos hk, if_pos (by omega)]
    · rw [if_neg hk, if_neg (by omega)]

theorem keeps_at {s : Nat} (F : Nat → Int) (E : Nat → Ev) (sf klen : Nat) (kf : Nat → Bool) (k n : Nat) (hE : ∀ i, i < n → (E i).ok s) :
    ∀ i, i ≤ n → ∃ p, (wl F E k i)[p]? = some (S (afterF F E sf klen kf i) k) ∧ (wl F E k (min i sf)).length ≤ p + 1 := by
  intro i
  induction i with
  | zero => exact fun _ => ⟨0, rfl, by simp [wl]⟩
  | succ i ih =>
    intro hi
    obtain ⟨p, h1, h2⟩ := ih (by omega)
    by_cases ha : i < sf ∨ keptB klen kf (i - sf) = true
    · have e : afterF F E sf klen kf (i + 1) = redoF (E i) (afterF F E sf klen kf i) := by rw [afterF, if_pos ha]
      rw [e, S_redo (E i) (hE i (by omega))]
      by_cases hk : (E i).n = (k : Int)
      · rw [if_pos hk]
        have ew : wl F E k (i + 1) = wl F E k i ++ [sStr (E i).f] := by rw [wl, if_pos hk]
        refine ⟨(wl F E k i).length, by rw [ew]; simp, ?_⟩
        have hm := wl_mono F E k (min (i + 1) sf) (i + 1 - min (i + 1) sf)
        rw [show min (i + 1) sf + (i + 1 - min (i + 1) sf) = i + 1 by omega, ew, List.length_append] at hm
        exact hm
      · rw [if_neg hk]
        refine ⟨p, wl_pre F E k i p _ h1, ?_⟩
        have ew : wl F E k (i + 1) = wl F E k i := by rw [wl, if_neg hk]
        by_cases hs : i < sf
        · rw [show min (i + 1) sf = i + 1 by omega, ew]
          rw [show min i sf = i by omega] at h2
          exact h2
        · rw [show min (i + 1) sf = min i sf by omega]
          exact h2
    · have e : afterF F E sf klen kf (i + 1) = afterF F E sf klen kf i := by rw [afterF, if_neg ha]
      rw [e]
      refine ⟨p, wl_pre F E k i p _ h1, ?_⟩
      rw [show min (i + 1) sf = min i sf by omega]
      exact h2
/-- At any event: some text, none older than the last one ahead of the last flush. -/
theorem keeps_some {s : Nat} (F : Nat → Int) (E : Nat → Ev) (klen : Nat) (kf : Nat → Bool) (k n N : Nat) (hn : n ≤ N) (hE : ∀ i, i < n → (E i).ok s) :
    ∃ p, (wl F E k N)[p]? = some (S (afterF F E (safeN E n) klen kf n) k) ∧ (wl F E k (safeN E n)).length - 1 ≤ p := by
  obtain ⟨p, h1, h2⟩ := keeps_at F E (safeN E n) klen kf k n hE n (Nat.le_refl _)
  rw [show min n (safeN E n) = safeN E n by have := safeN_le E n; omega] at h2
  refine ⟨p, ?_, by omega⟩
  have := wl_far F E k n p _ h1 (N - n)
  rwa [show n + (N - n) = N by omega] at this
end Go.Proofs.Ytpdcmhfmicemnaa
