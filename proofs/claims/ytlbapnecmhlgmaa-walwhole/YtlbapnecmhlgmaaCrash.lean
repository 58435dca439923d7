/- What a power loss in the midst of a commit leaves. -/
import Derived.Test.YtlbapnecmhlgmaaDoA
import Derived.Test.YtlbapnecmhlgmaaShown
namespace Go.Proofs.Ytlbapnecmhlgmaa
open Go.RowKit

theorem redo_at {s : Nat} (e : Ev) (he : e.ok s) (F : Nat → Int) (m j : Nat) (hj : j < 256) : redoF e F (m * 256 + j) = if e.n = (m : Int) then e.f j else F (m * 256 + j) := by
  unfold redoF
  rcases he.2 with rfl | h
  · rw [if_pos (by simp [Ev.isFl, flushEv]), if_neg (by simp [flushEv])]
  · rw [if_neg (by simp [Ev.isFl]; omega)]
    unfold over
    by_cases hm : e.n = (m : Int)
    · rw [if_pos hm, if_pos (by omega)]
      congr 1
      omega
    · rw [if_neg hm, if_neg (by omega)]
/-- Whether event i is done. -/
def doneE (sf klen : Nat) (kf : Nat → Bool) (i : Nat) : Prop := i < sf ∨ keptB klen kf (i - sf) = true
theorem aft_step {s : Nat} (F : Nat → Int) (E : Nat → Ev) (sf klen : Nat) (kf : Nat → Bool) (i m j : Nat) (hj : j < 256) (he : (E i).ok s) :
    (doneE sf klen kf i ∧ (E i).n = (m : Int) → afterF F E sf klen kf (i + 1) (m * 256 + j) = (E i).f j) ∧ (¬ (doneE sf klen kf i ∧ (E i).n = (m : Int)) → afterF F E sf klen kf (i + 1) (m * 256 + j) = afterF F E sf klen kf i (m * 256 + j)) := by
  rw [afterF]
  unfold doneE
  by_cases h : i < sf ∨ keptB klen kf (i - sf) = true
  · rw [if_pos h, redo_at _ he _ _ _ hj]
    exact ⟨fun h2 => if_pos h2.2, fun h2 => if_neg (fun e => h2 ⟨h, e⟩)⟩
  · rw [if_neg h]
    exact ⟨fun h2 => absurd h2.1 h, fun _ => rfl⟩
/-- A sector that nothing writes stays. -/
theorem aft_none {s : Nat} (F : Nat → Int) (E : Nat → Ev) (sf klen : Nat) (kf : Nat → Bool) (a m j : Nat) (hj : j < 256) : ∀ n, (∀ i, a ≤ i → i < a + n → (E i).ok s) → (∀ i, a ≤ i → i < a + n → (E i).n ≠ (m : Int)) → afterF F E sf klen kf (a + n) (m * 256 + j) = afterF F E sf klen kf a (m * 256 + j)
  | 0, _, _ => rfl
  | n + 1, hok, hno => by
    rw [← Nat.add_assoc, (aft_step F E sf klen kf (a + n) m j hj (hok _ (by omega) (by omega))).2 (fun h => hno _ (by omega) (by omega) h.2)]
    exact aft_none F E sf klen kf a m j hj n (fun i h1 h2 => hok i h1 (by omega)) (fun i h1 h2 => hno i h1 (by omega))
/-- A sector that one event writes. -/
theorem aft_one {s : Nat} (F : Nat → Int) (E : Nat → Ev) (sf klen : Nat) (kf : Nat → Bool) (a i0 b m j : Nat) (hj : j < 256) (ha : a ≤ i0) (hb : i0 < b) (hok : ∀ i, a ≤ i → i < b → (E i).ok s) (hno : ∀ i, a ≤ i → i < b → i ≠ i0 → (E i).n ≠ (m : Int)) (hw : (E i0).n = (m : Int)) :
    (doneE sf klen kf i0 → afterF F E sf klen kf b (m * 256 + j) = (E i0).f j) ∧ (¬ doneE sf klen kf i0 → afterF F E sf klen kf b (m * 256 + j) = afterF F E sf klen kf a (m * 256 + j)) := by
  have h1 := aft_none F E sf klen kf (i0 + 1) m j hj (b - (i0 + 1)) (s := s) (fun i h1 h2 => hok i (by omega) (by omega)) (fun i h1 h2 => hno i (by omega) (by omega) (by omega))
  rw [show i0 + 1 + (b - (i0 + 1)) = b by omega] at h1
  have h2 := aft_step F E sf klen kf i0 m j hj (hok i0 ha hb)
  have h3 := aft_none F E sf klen kf a m j hj (i0 - a) (s := s) (fun i h1 h2 => hok i (by omega) (by omega)) (fun i h1 h2 => hno i (by omega) (by omega) (by omega))
  rw [show a + (i0 - a) = i0 by omega] at h3
  exact ⟨fun hd => by rw [h1, h2.1 ⟨hd, hw⟩], fun hd => by rw [h1, h2.2 (fun h => hd h.1), h3]⟩
theorem aft_all (F : Nat → Int) (E : Nat → Ev) (sf klen : Nat) (kf : Nat → Bool) : ∀ n, n ≤ sf → afterF F E sf klen kf n = redoAll F E n
  | 0, _ => rfl
  | n + 1, h => by
    rw [afterF, if_pos (.inl (by omega)), aft_all F E sf klen kf n (by omega)]
    rfl
/-- A flush makes all ahead of it last. -/
theorem safe_ge (E : Nat → Ev) (i : Nat) : ∀ n, i < n → (E i).isFl = true → i + 1 ≤ safeN E n
  | 0, h, _ => by omega
  | n + 1, h, hf => by
    rw [safeN]
    by_cases hn : (E n).isFl = true
    · rw [if_pos hn]; omega
    · rw [if_neg hn]
      have : i ≠ n := fun e => hn (by rw [← e]; exact hf)
      exact safe_ge E i n (by omega) hf

/-- The events of a commit. -/
structure Blk (E : Nat → Ev) (st : Nat) (n : Nat) (K : Nat → Nat) (d : Nat → Nat → Int) (h : Nat → Int) : Prop where
  data : ∀ i, i < n → E (st + i) = ⟨((1 + i : Nat) : Int), d i⟩
  f1 : E (st + n) = flushEv
  hdr : E (st + n + 1) = ⟨0, h⟩
  f2 : E (st + n + 2) = flushEv
  done : ∀ i, i < n → (E (st + n + 3 + i)).n = (K i : Int) ∧ ∀ j, j < 256 → (E (st + n + 3 + i)).f j = d i j
  f3 : E (st + n + 3 + n) = flushEv
  zero : E (st + n + 3 + n + 1) = ⟨0, fun _ => 0⟩
  f4 : E (st + n + 3 + n + 2) = flushEv

/-- The header and the data stand; what the numbers name may be old or new. -/
structure MidB (B0 : Nat → Int) (n : Nat) (K : Nat → Nat) (d : Nat → Nat → Int) (h : Nat → Int) (X : Nat → Int) : Prop where
  hdr : ∀ j, j < 256 → X (0 * 256 + j) = h j
  data : ∀ i, i < n → ∀ j, j < 256 → X ((1 + i) * 256 + j) = d i j
  rest : ∀ m, 4 ≤ m → (∀ i, i < n → K i ≠ m) → ∀ j, j < 256 → X (m * 256 + j) = B0 (m * 256 + j)
/-- No header; all is new. -/
structure NewB (B0 : Nat → Int) (n : Nat) (K : Nat → Nat) (d : Nat → Nat → Int) (X : Nat → Int) : Prop where
  hdr : ∀ j, j < 256 → X (0 * 256 + j) = 0
  done : ∀ i, i < n → ∀ j, j < 256 → X (K i * 256 + j) = d i j
  rest : ∀ m, 4 ≤ m → (∀ i, i < n → K i ≠ m) → ∀ j, j < 256 → X (m * 256 + j) = B0 (m * 256 + j)
/-- No header; all is old. -/
structure OldB (B0 X : Nat → Int) : Prop where
  hdr : ∀ j, j < 256 → X (0 * 256 + j) = 0
  rest : ∀ m, 4 ≤ m → ∀ j, j < 256 → X (m * 256 + j) = B0 (m * 256 + j)

/-- Behind a power loss in the midst of a commit: all is old, or the header stands, or all is new. -/
theorem crash {s : Nat} {F : Nat → Int} {E : Nat → Ev} {st n : Nat} {K : Nat → Nat} {d : Nat → Nat → Int} {h : Nat → Int} (hB : Blk E st n K d h) (hn : n ≤ 3) (hK4 : ∀ i, i < n → 4 ≤ K i) (hKi : ∀ i j, i < n → j < n → K i = K j → i = j)
    (p : Nat) (hp : p ≤ n + 3 + n + 3) (hok : ∀ i, i < st + p → (E i).ok s) (hst : st = 0 ∨ (E (st - 1)).isFl = true) (h0 : ∀ j, j < 256 → redoAll F E st (0 * 256 + j) = 0) (klen : Nat) (kf : Nat → Bool) :
    (p ≠ n + 3 + n + 3 ∧ OldB (redoAll F E st) (afterF F E (safeN E (st + p)) klen kf (st + p))) ∨ (p ≠ n + 3 + n + 3 ∧ MidB (redoAll F E st) n K d h (afterF F E (safeN E (st + p)) klen kf (st + p))) ∨ NewB (redoAll F E st) n K d (afterF F E (safeN E (st + p)) klen kf (st + p)) := by
  have fl : ∀ i, E i = flushEv → (E i).isFl = true := fun i e => by rw [e]; rfl
  have hs0 : st ≤ safeN E (st + p) := by
    rcases hst with h | h
    · omega
    · rcases Nat.eq_zero_or_pos st with h1 | h1
      · omega
      · have := safe_ge E (st - 1) (st + p) (by omega) h
        omega
  have hA : afterF F E (safeN E (st + p)) klen kf st = redoAll F E st := aft_all F E _ klen kf st hs0
  have hokB : ∀ i, st ≤ i → i < st + p → (E i).ok s := fun i _ h2 => hok i h2
  -- who writes what
  have hn_at : ∀ q, q < n + 3 + n + 3 → (E (st + q)).n = if q < n then ((1 + q : Nat) : Int) else if q = n then -1 else if q = n + 1 then 0 else if q = n + 2 then -1 else if q < n + 3 + n then (K (q - (n + 3)) : Int) else if q = n + 3 + n then -1 else if q = n + 3 + n + 1 then 0 else -1 := fun q hq => by
    by_cases h1 : q < n
    · rw [if_pos h1, hB.data q h1]
    rw [if_neg h1]
    by_cases h2 : q = n
    · rw [if_pos h2, h2, hB.f1]; rfl
    rw [if_neg h2]
    by_cases h3 : q = n + 1
    · rw [if_pos h3, h3, ← Nat.add_assoc, hB.hdr]
    rw [if_neg h3]
    by_cases h4 : q = n + 2
    · rw [if_pos h4, h4, ← Nat.add_assoc, hB.f2]; rfl
    rw [if_neg h4]
    by_cases h5 : q < n + 3 + n
    · rw [if_pos h5]
      have := (hB.done (q - (n + 3)) (by omega)).1
      rwa [show st + n + 3 + (q - (n + 3)) = st + q by omega] at this
    rw [if_neg h5]
    by_cases h6 : q = n + 3 + n
    · rw [if_pos h6, h6, show st + (n + 3 + n) = st + n + 3 + n by omega, hB.f3]; rfl
    rw [if_neg h6]
    by_cases h7 : q = n + 3 + n + 1
    · rw [if_pos h7, h7, show st + (n + 3 + n + 1) = st + n + 3 + n + 1 by omega, hB.zero]
    rw [if_neg h7, show st + q = st + n + 3 + n + 2 by omega, hB.f4]
    rfl
  have sf1 : n + 1 ≤ p → st + n + 1 ≤ safeN E (st + p) := fun h => safe_ge E (st + n) (st + p) (by omega) (fl _ hB.f1)
  have sf2 : n + 3 ≤ p → st + n + 3 ≤ safeN E (st + p) := fun h => safe_ge E (st + n + 2) (st + p) (by omega) (fl _ hB.f2)
  have sf3 : n + 3 + n + 1 ≤ p → st + n + 3 + n + 1 ≤ safeN E (st + p) := fun h => safe_ge E (st + n + 3 + n) (st + p) (by omega) (fl _ hB.f3)
  have sf4 : n + 3 + n + 3 ≤ p → st + n + 3 + n + 3 ≤ safeN E (st + p) := fun h => safe_ge E (st + n + 3 + n + 2) (st + p) (by omega) (fl _ hB.f4)
  generalize safeN E (st + p) = sf at *
  -- sectors beyond the journal that no number names
  have hrest : ∀ m, 4 ≤ m → (∀ i, i < n → i + n + 3 < p → K i ≠ m) → ∀ j, j < 256 → afterF F E sf klen kf (st + p) (m * 256 + j) = redoAll F E st (m * 256 + j) := fun m hm hk j hj => by
    rw [aft_none F E sf klen kf st m j hj p hokB (fun i h1 h2 => ?_), hA]
    have := hn_at (i - st) (by omega)
    rw [show st + (i - st) = i by omega] at this
    rw [this]
    repeat' split
    all_goals first
      | omega
      | (have := hk (i - st - (n + 3)) (by omega) (by omega); omega)
  have nm : ∀ (m : Nat) (i : Nat), st ≤ i → i < st + p → (E i).n = (m : Int) → (m = 1 + (i - st) ∧ i - st < n) ∨ (m = 0 ∧ (i - st = n + 1 ∨ i - st = n + 3 + n + 1)) ∨ (n + 3 ≤ i - st ∧ i - st < n + 3 + n ∧ m = K (i - st - (n + 3))) := fun m i h1 h2 h3 => by
    have := hn_at (i - st) (by omega)
    rw [show st + (i - st) = i by omega, h3] at this
    by_cases a1 : i - st < n
    · rw [if_pos a1] at this; exact .inl ⟨by omega, a1⟩
    rw [if_neg a1] at this
    by_cases a2 : i - st = n
    · rw [if_pos a2] at this; omega
    rw [if_neg a2] at this
    by_cases a3 : i - st = n + 1
    · rw [if_pos a3] at this; exact .inr (.inl ⟨by omega, .inl a3⟩)
    rw [if_neg a3] at this
    by_cases a4 : i - st = n + 2
    · rw [if_pos a4] at this; omega
    rw [if_neg a4] at this
    by_cases a5 : i - st < n + 3 + n
    · rw [if_pos a5] at this; exact .inr (.inr ⟨by omega, a5, by omega⟩)
    rw [if_neg a5] at this
    by_cases a6 : i - st = n + 3 + n
    · rw [if_pos a6] at this; omega
    rw [if_neg a6] at this
    by_cases a7 : i - st = n + 3 + n + 1
    · rw [if_pos a7] at this; exact .inr (.inl ⟨by omega, .inr a7⟩)
    rw [if_neg a7] at this
    omega
  have K0 : ∀ i, n + 3 ≤ i → i < n + 3 + n → 4 ≤ K (i - (n + 3)) := fun i h1 h2 => hK4 _ (by omega)
  -- the data sectors
  have hdata : n + 1 ≤ p → ∀ i, i < n → ∀ j, j < 256 → afterF F E sf klen kf (st + p) ((1 + i) * 256 + j) = d i j := fun hp1 i hi j hj => by
    have h1 := sf1 hp1
    have := (aft_one F E sf klen kf st (st + i) (st + p) (1 + i) j hj (by omega) (by omega) hokB (fun q a1 a2 a3 a4 => by
      rcases nm (1 + i) q a1 a2 a4 with h | h | h
      · omega
      · omega
      · have := K0 (q - st) h.1 h.2.1
        omega) (by rw [hB.data i hi])).1 (.inl (by omega))
    rw [this, hB.data i hi]
  by_cases c1 : p ≤ n + 1
  · refine .inl ⟨by omega, fun j hj => ?_, fun m hm j hj => hrest m hm (fun i h1 h2 => by omega) j hj⟩
    rw [aft_none F E sf klen kf st 0 j hj p hokB (fun i h1 h2 h3 => by
      rcases nm 0 i h1 h2 h3 with h | h | h
      · omega
      · omega
      · omega), hA]
    exact h0 j hj
  · by_cases c2 : p ≤ n + 3 + n + 1
    · have hH := fun j (hj : j < 256) => aft_one F E sf klen kf st (st + n + 1) (st + p) 0 j hj (by omega) (by omega) hokB (fun q a1 a2 a3 a4 => by
        rcases nm 0 q a1 a2 a4 with h | h | h
        · omega
        · omega
        · have := K0 (q - st) h.1 h.2.1
          omega) (by rw [hB.hdr]; rfl)
      by_cases hd : doneE sf klen kf (st + n + 1)
      · exact .inr (.inl ⟨by omega, fun j hj => by rw [(hH j hj).1 hd, hB.hdr], hdata (by omega), fun m hm hk j hj => hrest m hm (fun i h1 _ => hk i h1) j hj⟩)
      · have hp2 : p = n + 2 := by
          rcases Nat.lt_or_ge p (n + 3) with h | h
          · omega
          · exact absurd (.inl (by have := sf2 h; omega)) hd
        exact .inl ⟨by omega, fun j hj => by rw [(hH j hj).2 hd, hA]; exact h0 j hj, fun m hm j hj => hrest m hm (fun i h1 h2 => by omega) j hj⟩
    · have h3 := sf3 (by omega)
      have hZ := fun j (hj : j < 256) => aft_one F E sf klen kf (st + n + 2) (st + n + 3 + n + 1) (st + p) 0 j hj (by omega) (by omega) (fun i a1 a2 => hokB i (by omega) a2) (fun q a1 a2 a3 a4 => by
        rcases nm 0 q (by omega) a2 a4 with h | h | h
        · omega
        · omega
        · have := K0 (q - st) h.1 h.2.1
          omega) (by rw [hB.zero]; rfl)
      have hH := fun j (hj : j < 256) => aft_one F E sf klen kf st (st + n + 1) (st + n + 2) 0 j hj (by omega) (by omega) (fun i a1 a2 => hokB i a1 (by omega)) (fun q a1 a2 a3 a4 => by
        rcases nm 0 q a1 (by omega) a4 with h | h | h
        · omega
        · omega
        · have := K0 (q - st) h.1 h.2.1
          omega) (by rw [hB.hdr]; rfl)
      by_cases hd : doneE sf klen kf (st + n + 3 + n + 1)
      · refine .inr (.inr ⟨fun j hj => by rw [(hZ j hj).1 hd, hB.zero], fun i hi j hj => ?_, fun m hm hk j hj => hrest m hm (fun i h1 _ => hk i h1) j hj⟩)
        have := (aft_one F E sf klen kf st (st + n + 3 + i) (st + p) (K i) j hj (by omega) (by omega) hokB (fun q a1 a2 a3 a4 => by
          have := hK4 i hi
          rcases nm (K i) q a1 a2 a4 with h | h | h
          · omega
          · omega
          · have := hKi i (q - st - (n + 3)) hi (by omega) h.2.2
            omega) (hB.done i hi).1).1 (.inl (by omega))
        rw [this]
        exact (hB.done i hi).2 j hj
      · refine .inr (.inl ⟨fun e => hd (.inl (by have := sf4 (by omega); omega)), fun j hj => ?_, hdata (by omega), fun m hm hk j hj => hrest m hm (fun i h1 _ => hk i h1) j hj⟩)
        rw [(hZ j hj).2 hd, (hH j hj).1 (.inl (by omega)), hB.hdr]
end Go.Proofs.Ytlbapnecmhlgmaa
