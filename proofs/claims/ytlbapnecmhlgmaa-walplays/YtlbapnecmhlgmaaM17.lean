/- The walk of shown: all sectors outside the journal, as one text. What a power loss in the midst of a commit leaves. The words of a header. A header's bytes, word by word. Bytes appended to a row: to one of one's own; and to one that is full, whatever is frozen of it. What the walk of the document's Commit keeps: the document's disk and journal, the numbers, the header. -/
import Derived.Test.YtlbapnecmhlgmaaM9
import Derived.Test.YtlbapnecmhlgmaaM14
import Derived.Test.YtlbapnecmhlgmaaM16
import Derived.Lib.SlBytesConst
namespace Go.Proofs.Ytlbapnecmhlgmaa
open Go.RowKit

def shN (B : Nat → Int) : Nat → ByteArray
  | 0 => ⟨#[]⟩
  | n + 1 => shN B n ++ S B (4 + n)
theorem sStr_size (f : Nat → Int) : (sStr f).size = 256 := by
  unfold sStr
  rw [strOfNums_size]
  simp
theorem shN_size (B : Nat → Int) (n : Nat) : (shN B n).size = 256 * n := by
  induction n with
  | zero => rfl
  | succ n ih =>
    show (shN B n ++ S B (4 + n)).size = _
    rw [ByteArray.size_append, ih, show (S B (4 + n)).size = 256 from sStr_size _]
    omega
set_option maxRecDepth 20000 in
set_option maxHeartbeats 2000000 in
theorem shown_ok {w : World} {base g1 c1 g2 c2 gd : Nat} {ev : Value} {D : Dk} (hD : DiskAt w base gd g1 c1 g2 c2 ev D) (h12 : D.s = 12) :
    Calls Try.prog 25 #[.pointer (some ⟨gd, 0, none⟩)] w fun e w' => e = .returned (.string (shN D.B 8)) ∧ Below w.heap.size w w' := by
  have HD : Hid _ := hD
  clear hD
  go_enter Try.func25, Try.ntmps25
  go_wp2
  go_loopw [3, 4] (fun sv iv wx => ∃ n : Nat, n ≤ 8 ∧ iv = .int .i64 ((4 : Int) + n) ∧ sv = .string (shN D.B n) ∧ Hid (Below w.heap.size w wx)) (fun _ iv _ => 12 - (intOf iv).toNat)
  case atStart => exact ⟨0, by omega, by go_num, rfl, Below.refl _ _⟩
  case round =>
    obtain ⟨n, hn, rfl, rfl, hB⟩ := hrel
    by_cases hlt : n < 8
    · have hDr := HD.out.below hB.out (Nat.le_refl _)
      have HR := read_ok hDr (4 + n) (by omega)
      rw [show ((4 + n : Nat) : Int) = 4 + (n : Int) by omega] at HR
      have hcv : (convert 40 9 (.slice (some ⟨wr.heap.size, 0, none⟩) 256 256)).run Try.prog (wr.alloc (.cells (byts (fun i => D.B ((4 + n) * 256 + i)) 256).toArray 5)) = .ok (.string (S D.B (4 + n))) (wr.alloc (.cells (byts (fun i => D.B ((4 + n) * 256 + i)) 256).toArray 5)) := conv256 _ wr.heap.size 0 256 _ (fun i hi => by
        rw [Nat.zero_add, (Row.new wr _ 5).cell i]
        simpa using byts_at (fun i => D.B ((4 + n) * 256 + i)) 256 i hi)
      have hadd := fun w => run_string_add_sum (P := Try.prog) (w := w) (shN D.B n) (S D.B (4 + n)) (by rw [shN_size, show (S D.B (4 + n)).size = 256 from sStr_size _]; omega)
      have hnx : Hid (shN D.B (n + 1) = shN D.B n ++ S D.B (4 + n)) := (rfl : _ = _)
      generalize (byts (fun i => D.B ((4 + n) * 256 + i)) 256).toArray = C at *
      generalize shN D.B n = T at *
      generalize S D.B (4 + n) = T2 at *
      have HHR : Hid _ := HR
      have hB2 : Hid (Below w.heap.size w (wr.alloc (.cells C 5))) := hB.out.alloc hB.out.size _
      have hlI : (4 : Int) + n < 12 := by omega
      clear HR hDr
      go_wp2_with fail
      refine Calls.mono HHR.out ?_
      rintro e w' ⟨rfl, hw'⟩
      subst w'
      go_wp2
      go_roundw
      case rel => exact ⟨n + 1, by omega, by go_num, by rw [show shN D.B (n + 1) = _ from hnx.out], hB2⟩
      case measure => simp [intOf]; omega
    · have hn8 : n = 8 := by omega
      subst hn8
      go_wp2
      go_ret
      exact ⟨rfl, hB.out⟩
end Go.Proofs.Ytlbapnecmhlgmaa
namespace Go.Proofs.Ytlbapnecmhlgmaa
open Go.RowKit

theorem redo_at {s : Nat} (e : Ev) (he : e.ok s) (F : Nat → Int) (m j : Nat) (hj : j < 256) : redoF e F (m * 256 + j) = if e.n = (m : Int) then e.f j else F (m * 256 + j) := by
  unfold redoF
  rcases he.2 with rfl | h
  · rw [if_pos (by simp [Ev.isFl, flushEv]), if_neg (by simp [flushEv])]
  · rw [if_neg (by simp [Ev.isFl]; omega)]
    unfold over
    by_cases hm : e.n = (m : Int)
    · rw [if_pos hm, if_pos (by omega)]
      congr 1
      omega
    · rw [if_neg hm, if_neg (by omega)]
/-- Whether event i is done. -/
def doneE (sf klen : Nat) (kf : Nat → Bool) (i : Nat) : Prop := i < sf ∨ keptB klen kf (i - sf) = true
theorem aft_step {s : Nat} (F : Nat → Int) (E : Nat → Ev) (sf klen : Nat) (kf : Nat → Bool) (i m j : Nat) (hj : j < 256) (he : (E i).ok s) :
    (doneE sf klen kf i ∧ (E i).n = (m : Int) → afterF F E sf klen kf (i + 1) (m * 256 + j) = (E i).f j) ∧ (¬ (doneE sf klen kf i ∧ (E i).n = (m : Int)) → afterF F E sf klen kf (i + 1) (m * 256 + j) = afterF F E sf klen kf i (m * 256 + j)) := by
  rw [afterF]
  unfold doneE
  by_cases h : i < sf ∨ keptB klen kf (i - sf) = true
  · rw [if_pos h, redo_at _ he _ _ _ hj]
    exact ⟨fun h2 => if_pos h2.2, fun h2 => if_neg (fun e => h2 ⟨h, e⟩)⟩
  · rw [if_neg h]
    exact ⟨fun h2 => absurd h2.1 h, fun _ => rfl⟩
/-- A sector that nothing writes stays. -/
theorem aft_none {s : Nat} (F : Nat → Int) (E : Nat → Ev) (sf klen : Nat) (kf : Nat → Bool) (a m j : Nat) (hj : j < 256) : ∀ n, (∀ i, a ≤ i → i < a + n → (E i).ok s) → (∀ i, a ≤ i → i < a + n → (E i).n ≠ (m : Int)) → afterF F E sf klen kf (a + n) (m * 256 + j) = afterF F E sf klen kf a (m * 256 + j)
  | 0, _, _ => rfl
  | n + 1, hok, hno => by
    rw [← Nat.add_assoc, (aft_step F E sf klen kf (a + n) m j hj (hok _ (by omega) (by omega))).2 (fun h => hno _ (by omega) (by omega) h.2)]
    exact aft_none F E sf klen kf a m j hj n (fun i h1 h2 => hok i h1 (by omega)) (fun i h1 h2 => hno i h1 (by omega))
/-- A sector that one event writes. -/
theorem aft_one {s : Nat} (F : Nat → Int) (E : Nat → Ev) (sf klen : Nat) (kf : Nat → Bool) (a i0 b m j : Nat) (hj : j < 256) (ha : a ≤ i0) (hb : i0 < b) (hok : ∀ i, a ≤ i → i < b → (E i).ok s) (hno : ∀ i, a ≤ i → i < b → i ≠ i0 → (E i).n ≠ (m : Int)) (hw : (E i0).n = (m : Int)) :
    (doneE sf klen kf i0 → afterF F E sf klen kf b (m * 256 + j) = (E i0).f j) ∧ (¬ doneE sf klen kf i0 → afterF F E sf klen kf b (m * 256 + j) = afterF F E sf klen kf a (m * 256 + j)) := by
  have h1 := aft_none F E sf klen kf (i0 + 1) m j hj (b - (i0 + 1)) (s := s) (fun i h1 h2 => hok i (by omega) (by omega)) (fun i h1 h2 => hno i (by omega) (by omega) (by omega))
  rw [show i0 + 1 + (b - (i0 + 1)) = b by omega] at h1
  have h2 := aft_step F E sf klen kf i0 m j hj (hok i0 ha hb)
  have h3 := aft_none F E sf klen kf a m j hj (i0 - a) (s := s) (fun i h1 h2 => hok i (by omega) (by omega)) (fun i h1 h2 => hno i (by omega) (by omega) (by omega))
  rw [show a + (i0 - a) = i0 by omega] at h3
  exact ⟨fun hd => by rw [h1, h2.1 ⟨hd, hw⟩], fun hd => by rw [h1, h2.2 (fun h => hd h.1), h3]⟩
theorem aft_all (F : Nat → Int) (E : Nat → Ev) (sf klen : Nat) (kf : Nat → Bool) : ∀ n, n ≤ sf → afterF F E sf klen kf n = redoAll F E n
  | 0, _ => rfl
  | n + 1, h => by
    rw [afterF, if_pos (.inl (by omega)), aft_all F E sf klen kf n (by omega)]
    rfl
/-- A flush makes all ahead of it last. -/
theorem safe_ge (E : Nat → Ev) (i : Nat) : ∀ n, i < n → (E i).isFl = true → i + 1 ≤ safeN E n
  | 0, h, _ => by omega
  | n + 1, h, hf => by
    rw [safeN]
    by_cases hn : (E n).isFl = true
    · rw [if_pos hn]; omega
    · rw [if_neg hn]
      have : i ≠ n := fun e => hn (by rw [← e]; exact hf)
      exact safe_ge E i n (by omega) hf

/-- The events of a commit. -/
structure Blk (E : Nat → Ev) (st : Nat) (n : Nat) (K : Nat → Nat) (d : Nat → Nat → Int) (h : Nat → Int) : Prop where
  data : ∀ i, i < n → E (st + i) = ⟨((1 + i : Nat) : Int), d i⟩
  f1 : E (st + n) = flushEv
  hdr : E (st + n + 1) = ⟨0, h⟩
  f2 : E (st + n + 2) = flushEv
  done : ∀ i, i < n → (E (st + n + 3 + i)).n = (K i : Int) ∧ ∀ j, j < 256 → (E (st + n + 3 + i)).f j = d i j
  f3 : E (st + n + 3 + n) = flushEv
  zero : E (st + n + 3 + n + 1) = ⟨0, fun _ => 0⟩
  f4 : E (st + n + 3 + n + 2) = flushEv

/-- The header and the data stand; what the numbers name may be old or new. -/
structure MidB (B0 : Nat → Int) (n : Nat) (K : Nat → Nat) (d : Nat → Nat → Int) (h : Nat → Int) (X : Nat → Int) : Prop where
  hdr : ∀ j, j < 256 → X (0 * 256 + j) = h j
  data : ∀ i, i < n → ∀ j, j < 256 → X ((1 + i) * 256 + j) = d i j
  rest : ∀ m, 4 ≤ m → (∀ i, i < n → K i ≠ m) → ∀ j, j < 256 → X (m * 256 + j) = B0 (m * 256 + j)
/-- No header; all is new. -/
structure NewB (B0 : Nat → Int) (n : Nat) (K : Nat → Nat) (d : Nat → Nat → Int) (X : Nat → Int) : Prop where
  hdr : ∀ j, j < 256 → X (0 * 256 + j) = 0
  done : ∀ i, i < n → ∀ j, j < 256 → X (K i * 256 + j) = d i j
  rest : ∀ m, 4 ≤ m → (∀ i, i < n → K i ≠ m) → ∀ j, j < 256 → X (m * 256 + j) = B0 (m * 256 + j)
/-- No header; all is old. -/
structure OldB (B0 X : Nat → Int) : Prop where
  hdr : ∀ j, j < 256 → X (0 * 256 + j) = 0
  rest : ∀ m, 4 ≤ m → ∀ j, j < 256 → X (m * 256 + j) = B0 (m * 256 + j)

/-- Behind a power loss in the midst of a commit: all is old, or the header stands, or all is new. -/
theorem crash {s : Nat} {F : Nat → Int} {E : Nat → Ev} {st n : Nat} {K : Nat → Nat} {d : Nat → Nat → Int} {h : Nat → Int} (hB : Blk E st n K d h) (hn : n ≤ 3) (hK4 : ∀ i, i < n → 4 ≤ K i) (hKi : ∀ i j, i < n → j < n → K i = K j → i = j)
    (p : Nat) (hp : p ≤ n + 3 + n + 3) (hok : ∀ i, i < st + p → (E i).ok s) (hst : st = 0 ∨ (E (st - 1)).isFl = true) (h0 : ∀ j, j < 256 → redoAll F E st (0 * 256 + j) = 0) (klen : Nat) (kf : Nat → Bool) :
    (p ≠ n + 3 + n + 3 ∧ OldB (redoAll F E st) (afterF F E (safeN E (st + p)) klen kf (st + p))) ∨ (p ≠ n + 3 + n + 3 ∧ MidB (redoAll F E st) n K d h (afterF F E (safeN E (st + p)) klen kf (st + p))) ∨ NewB (redoAll F E st) n K d (afterF F E (safeN E (st + p)) klen kf (st + p)) := by
  have fl : ∀ i, E i = flushEv → (E i).isFl = true := fun i e => by rw [e]; rfl
  have hs0 : st ≤ safeN E (st + p) := by
    rcases hst with h | h
    · omega
    · rcases Nat.eq_zero_or_pos st with h1 | h1
      · omega
      · have := safe_ge E (st - 1) (st + p) (by omega) h
        omega
  have hA : afterF F E (safeN E (st + p)) klen kf st = redoAll F E st := aft_all F E _ klen kf st hs0
  have hokB : ∀ i, st ≤ i → i < st + p → (E i).ok s := fun i _ h2 => hok i h2
  -- who writes what
  have hn_at : ∀ q, q < n + 3 + n + 3 → (E (st + q)).n = if q < n then ((1 + q : Nat) : Int) else if q = n then -1 else if q = n + 1 then 0 else if q = n + 2 then -1 else if q < n + 3 + n then (K (q - (n + 3)) : Int) else if q = n + 3 + n then -1 else if q = n + 3 + n + 1 then 0 else -1 := fun q hq => by
    by_cases h1 : q < n
    · rw [if_pos h1, hB.data q h1]
    rw [if_neg h1]
    by_cases h2 : q = n
    · rw [if_pos h2, h2, hB.f1]; rfl
    rw [if_neg h2]
    by_cases h3 : q = n + 1
    · rw [if_pos h3, h3, ← Nat.add_assoc, hB.hdr]
    rw [if_neg h3]
    by_cases h4 : q = n + 2
    · rw [if_pos h4, h4, ← Nat.add_assoc, hB.f2]; rfl
    rw [if_neg h4]
    by_cases h5 : q < n + 3 + n
    · rw [if_pos h5]
      have := (hB.done (q - (n + 3)) (by omega)).1
      rwa [show st + n + 3 + (q - (n + 3)) = st + q by omega] at this
    rw [if_neg h5]
    by_cases h6 : q = n + 3 + n
    · rw [if_pos h6, h6, show st + (n + 3 + n) = st + n + 3 + n by omega, hB.f3]; rfl
    rw [if_neg h6]
    by_cases h7 : q = n + 3 + n + 1
    · rw [if_pos h7, h7, show st + (n + 3 + n + 1) = st + n + 3 + n + 1 by omega, hB.zero]
    rw [if_neg h7, show st + q = st + n + 3 + n + 2 by omega, hB.f4]
    rfl
  have sf1 : n + 1 ≤ p → st + n + 1 ≤ safeN E (st + p) := fun h => safe_ge E (st + n) (st + p) (by omega) (fl _ hB.f1)
  have sf2 : n + 3 ≤ p → st + n + 3 ≤ safeN E (st + p) := fun h => safe_ge E (st + n + 2) (st + p) (by omega) (fl _ hB.f2)
  have sf3 : n + 3 + n + 1 ≤ p → st + n + 3 + n + 1 ≤ safeN E (st + p) := fun h => safe_ge E (st + n + 3 + n) (st + p) (by omega) (fl _ hB.f3)
  have sf4 : n + 3 + n + 3 ≤ p → st + n + 3 + n + 3 ≤ safeN E (st + p) := fun h => safe_ge E (st + n + 3 + n + 2) (st + p) (by omega) (fl _ hB.f4)
  generalize safeN E (st + p) = sf at *
  -- sectors beyond the journal that no number names
  have hrest : ∀ m, 4 ≤ m → (∀ i, i < n → i + n + 3 < p → K i ≠ m) → ∀ j, j < 256 → afterF F E sf klen kf (st + p) (m * 256 + j) = redoAll F E st (m * 256 + j) := fun m hm hk j hj => by
    rw [aft_none F E sf klen kf st m j hj p hokB (fun i h1 h2 => ?_), hA]
    have := hn_at (i - st) (by omega)
    rw [show st + (i - st) = i by omega] at this
    rw [this]
    repeat' split
    all_goals first
      | omega
      | (have := hk (i - st - (n + 3)) (by omega) (by omega); omega)
  have nm : ∀ (m : Nat) (i : Nat), st ≤ i → i < st + p → (E i).n = (m : Int) → (m = 1 + (i - st) ∧ i - st < n) ∨ (m = 0 ∧ (i - st = n + 1 ∨ i - st = n + 3 + n + 1)) ∨ (n + 3 ≤ i - st ∧ i - st < n + 3 + n ∧ m = K (i - st - (n + 3))) := fun m i h1 h2 h3 => by
    have := hn_at (i - st) (by omega)
    rw [show st + (i - st) = i by omega, h3] at this
    by_cases a1 : i - st < n
    · rw [if_pos a1] at this; exact .inl ⟨by omega, a1⟩
    rw [if_neg a1] at this
    by_cases a2 : i - st = n
    · rw [if_pos a2] at this; omega
    rw [if_neg a2] at this
    by_cases a3 : i - st = n + 1
    · rw [if_pos a3] at this; exact .inr (.inl ⟨by omega, .inl a3⟩)
    rw [if_neg a3] at this
    by_cases a4 : i - st = n + 2
    · rw [if_pos a4] at this; omega
    rw [if_neg a4] at this
    by_cases a5 : i - st < n + 3 + n
    · rw [if_pos a5] at this; exact .inr (.inr ⟨by omega, a5, by omega⟩)
    rw [if_neg a5] at this
    by_cases a6 : i - st = n + 3 + n
    · rw [if_pos a6] at this; omega
    rw [if_neg a6] at this
    by_cases a7 : i - st = n + 3 + n + 1
    · rw [if_pos a7] at this; exact .inr (.inl ⟨by omega, .inr a7⟩)
    rw [if_neg a7] at this
    omega
  have K0 : ∀ i, n + 3 ≤ i → i < n + 3 + n → 4 ≤ K (i - (n + 3)) := fun i h1 h2 => hK4 _ (by omega)
  -- the data sectors
  have hdata : n + 1 ≤ p → ∀ i, i < n → ∀ j, j < 256 → afterF F E sf klen kf (st + p) ((1 + i) * 256 + j) = d i j := fun hp1 i hi j hj => by
    have h1 := sf1 hp1
    have := (aft_one F E sf klen kf st (st + i) (st + p) (1 + i) j hj (by omega) (by omega) hokB (fun q a1 a2 a3 a4 => by
      rcases nm (1 + i) q a1 a2 a4 with h | h | h
      · omega
      · omega
      · have := K0 (q - st) h.1 h.2.1
        omega) (by rw [hB.data i hi])).1 (.inl (by omega))
    rw [this, hB.data i hi]
  by_cases c1 : p ≤ n + 1
  · refine .inl ⟨by omega, fun j hj => ?_, fun m hm j hj => hrest m hm (fun i h1 h2 => by omega) j hj⟩
    rw [aft_none F E sf klen kf st 0 j hj p hokB (fun i h1 h2 h3 => by
      rcases nm 0 i h1 h2 h3 with h | h | h
      · omega
      · omega
      · omega), hA]
    exact h0 j hj
  · by_cases c2 : p ≤ n + 3 + n + 1
    · have hH := fun j (hj : j < 256) => aft_one F E sf klen kf st (st + n + 1) (st + p) 0 j hj (by omega) (by omega) hokB (fun q a1 a2 a3 a4 => by
        rcases nm 0 q a1 a2 a4 with h | h | h
        · omega
        · omega
        · have := K0 (q - st) h.1 h.2.1
          omega) (by rw [hB.hdr]; rfl)
      by_cases hd : doneE sf klen kf (st + n + 1)
      · exact .inr (.inl ⟨by omega, fun j hj => by rw [(hH j hj).1 hd, hB.hdr], hdata (by omega), fun m hm hk j hj => hrest m hm (fun i h1 _ => hk i h1) j hj⟩)
      · have hp2 : p = n + 2 := by
          rcases Nat.lt_or_ge p (n + 3) with h | h
          · omega
          · exact absurd (.inl (by have := sf2 h; omega)) hd
        exact .inl ⟨by omega, fun j hj => by rw [(hH j hj).2 hd, hA]; exact h0 j hj, fun m hm j hj => hrest m hm (fun i h1 h2 => by omega) j hj⟩
    · have h3 := sf3 (by omega)
      have hZ := fun j (hj : j < 256) => aft_one F E sf klen kf (st + n + 2) (st + n + 3 + n + 1) (st + p) 0 j hj (by omega) (by omega) (fun i a1 a2 => hokB i (by omega) a2) (fun q a1 a2 a3 a4 => by
        rcases nm 0 q (by omega) a2 a4 with h | h | h
        · omega
        · omega
        · have := K0 (q - st) h.1 h.2.1
          omega) (by rw [hB.zero]; rfl)
      have hH := fun j (hj : j < 256) => aft_one F E sf klen kf st (st + n + 1) (st + n + 2) 0 j hj (by omega) (by omega) (fun i a1 a2 => hokB i a1 (by omega)) (fun q a1 a2 a3 a4 => by
        rcases nm 0 q a1 (by omega) a4 with h | h | h
        · omega
        · omega
        · have := K0 (q - st) h.1 h.2.1
          omega) (by rw [hB.hdr]; rfl)
      by_cases hd : doneE sf klen kf (st + n + 3 + n + 1)
      · refine .inr (.inr ⟨fun j hj => by rw [(hZ j hj).1 hd, hB.zero], fun i hi j hj => ?_, fun m hm hk j hj => hrest m hm (fun i h1 _ => hk i h1) j hj⟩)
        have := (aft_one F E sf klen kf st (st + n + 3 + i) (st + p) (K i) j hj (by omega) (by omega) hokB (fun q a1 a2 a3 a4 => by
          have := hK4 i hi
          rcases nm (K i) q a1 a2 a4 with h | h | h
          · omega
          · omega
          · have := hKi i (q - st - (n + 3)) hi (by omega) h.2.2
            omega) (hB.done i hi).1).1 (.inl (by omega))
        rw [this]
        exact (hB.done i hi).2 j hj
      · refine .inr (.inl ⟨fun e => hd (.inl (by have := sf4 (by omega); omega)), fun j hj => ?_, hdata (by omega), fun m hm hk j hj => hrest m hm (fun i h1 _ => hk i h1) j hj⟩)
        rw [(hZ j hj).2 hd, (hH j hj).1 (.inl (by omega)), hB.hdr]
end Go.Proofs.Ytlbapnecmhlgmaa
namespace Go.Proofs.Ytlbapnecmhlgmaa
open Go.RowKit

theorem num_congr (f g : Nat → Int) : ∀ n, (∀ j, j < n → f j = g j) → num f n = num g n
  | 0, _ => rfl
  | n + 1, h => by rw [num, num, num_congr f g n (fun j hj => h j (by omega)), h n (by omega)]
theorem num_of (v : Nat) (hv : v < 9223372036854775808) : num (fun j => (v : Int) / 2 ^ (8 * (7 - j)) % 256) 8 = v := by
  simp only [num, show 8 * (7 - 0) = 56 from rfl, show 8 * (7 - 1) = 48 from rfl, show 8 * (7 - 2) = 40 from rfl, show 8 * (7 - 3) = 32 from rfl, show 8 * (7 - 4) = 24 from rfl, show 8 * (7 - 5) = 16 from rfl, show 8 * (7 - 6) = 8 from rfl, show 8 * (7 - 7) = 0 from rfl, show (2 : Int) ^ 56 = 72057594037927936 from rfl, show (2 : Int) ^ 48 = 281474976710656 from rfl, show (2 : Int) ^ 40 = 1099511627776 from rfl, show (2 : Int) ^ 32 = 4294967296 from rfl, show (2 : Int) ^ 24 = 16777216 from rfl, show (2 : Int) ^ 16 = 65536 from rfl, show (2 : Int) ^ 8 = 256 from rfl, show (2 : Int) ^ 0 = 1 from rfl]
  omega
theorem word_same (f : Nat → Int) (i v : Nat) (hv : v < 9223372036854775808) : word (setw f i v) i = v := by
  unfold word
  rw [num_congr _ (fun j => (v : Int) / 2 ^ (8 * (7 - j)) % 256) 8 (fun j hj => by
    unfold setw
    rw [if_pos (by omega), show i * 8 + j - i * 8 = j by omega]), num_of v hv]
theorem word_other (f : Nat → Int) (i i' v : Nat) (h : i' ≠ i) : word (setw f i v) i' = word f i' := by
  unfold word
  exact num_congr _ _ 8 (fun j hj => by
    unfold setw
    rw [if_neg (by omega)])
theorem word_congr (f g : Nat → Int) (i : Nat) (hi : i ≤ 31) (h : ∀ j, j < 256 → f j = g j) : word f i = word g i := num_congr _ _ 8 (fun j hj => h _ (by omega))
theorem hdrN_word1 (K : List Nat) (hl : K.length < 9223372036854775808) : ∀ n, word (hdrN K n) 1 = K.length
  | 0 => word_same _ _ _ hl
  | n + 1 => by rw [hdrN, word_other _ _ _ _ (by omega)]; exact hdrN_word1 K hl n
theorem hdrN_word (K : List Nat) (hk : ∀ i, K.getD i 0 < 9223372036854775808) (i : Nat) : ∀ n, i < n → word (hdrN K n) (2 + i) = (K.getD i 0 : Nat)
  | 0, h => by omega
  | n + 1, h => by
    rw [hdrN]
    by_cases e : i = n
    · subst e
      exact word_same _ _ _ (hk i)
    · rw [word_other _ _ _ _ (by omega)]
      exact hdrN_word K hk i n (by omega)
theorem hdrN_mark (K : List Nat) (j : Nat) (hj : j < 8) : ∀ n, hdrN K n j = markF j
  | 0 => by rw [hdrN]; unfold setw; rw [if_neg (by omega)]
  | n + 1 => by rw [hdrN]; unfold setw; rw [if_neg (by omega)]; exact hdrN_mark K j hj n
theorem hdr_marked (K : List Nat) (f : Nat → Int) (h : ∀ j, j < 256 → f j = hdr K j) : ((s8 f).toList == [115, 116, 105, 108, 108, 119, 97, 108]) = true := by
  have e : s8 f = s8 markF := by
    unfold s8
    congr 1
    apply List.map_congr_left
    intro j hj
    rw [h j (by simp at hj; omega)]
    exact hdrN_mark K j (by simpa using hj) _
  rw [e]
  show _ = true
  kernel_rfl
end Go.Proofs.Ytlbapnecmhlgmaa
namespace Go.Proofs.Ytlbapnecmhlgmaa
open Go.RowKit

/-- A number's j-th byte of eight. -/
def byteOf (v : Int) (j : Nat) : Int := v / 2 ^ (8 * (8 - 1 - j)) % 256
theorem byteOf_bd (v : Int) (j : Nat) : 0 ≤ byteOf v j ∧ byteOf v j < 256 := by unfold byteOf; omega
theorem byts_add (f : Nat → Int) (a b : Nat) : byts f (a + b) = byts f a ++ byts (fun j => f (a + j)) b := by
  unfold byts
  rw [List.range_add, List.map_append, List.map_map]
  rfl
theorem setw_in (f : Nat → Int) (i v j : Nat) (h : j < 8) : setw f i v (i * 8 + j) = byteOf v j := by
  unfold setw byteOf
  rw [if_pos (by omega), show i * 8 + j - i * 8 = j by omega]
theorem setw_out (f : Nat → Int) (i v j : Nat) (h : j < i * 8 ∨ i * 8 + 8 ≤ j) : setw f i v j = f j := by
  unfold setw
  rw [if_neg (by omega)]
theorem hdrN_low (K : List Nat) (j m : Nat) (hj : j < 16 + 8 * m) : ∀ n, m ≤ n → hdrN K n j = hdrN K m j := by
  intro n
  induction n with
  | zero =>
    intro hm
    obtain rfl : m = 0 := by omega
    rfl
  | succ n ih =>
    intro hm
    by_cases e : m = n + 1
    · subst e; rfl
    · show setw (hdrN K n) (2 + n) (K.getD n 0) j = _
      rw [setw_out _ _ _ _ (.inl (by omega)), ih (by omega)]
theorem hdr_mark (K : List Nat) (j : Nat) (h : j < 8) : hdr K j = markF j := hdrN_mark K j h _
theorem hdr_count (K : List Nat) (j : Nat) (h : j < 8) : hdr K (8 + j) = byteOf K.length j := by
  unfold hdr
  rw [hdrN_low K (8 + j) 0 (by omega) _ (Nat.zero_le _)]
  show setw markF 1 K.length (8 + j) = _
  rw [show 8 + j = 1 * 8 + j by omega, setw_in _ _ _ _ h]
theorem hdr_num (K : List Nat) (i j : Nat) (hi : i < K.length) (h : j < 8) : hdr K (16 + 8 * i + j) = byteOf (K.getD i 0 : Nat) j := by
  unfold hdr
  rw [hdrN_low K (16 + 8 * i + j) (i + 1) (by omega) _ (by omega)]
  show setw (hdrN K i) (2 + i) (K.getD i 0) (16 + 8 * i + j) = _
  rw [show 16 + 8 * i + j = (2 + i) * 8 + j by omega, setw_in _ _ _ _ h]
theorem hdr_rest (K : List Nat) (j : Nat) (h : 16 + 8 * K.length ≤ j) : hdr K j = 0 := by
  unfold hdr
  have key : ∀ n, n ≤ K.length → hdrN K n j = 0 := by
    intro n
    induction n with
    | zero =>
      intro _
      show setw markF 1 K.length j = 0
      rw [setw_out _ _ _ _ (.inr (by omega))]
      unfold markF
      rw [List.getD, List.getElem?_eq_none (by simp; omega)]
      rfl
    | succ n ih =>
      intro hn
      show setw (hdrN K n) (2 + n) (K.getD n 0) j = 0
      rw [setw_out _ _ _ _ (.inr (by omega)), ih (by omega)]
  exact key _ (Nat.le_refl _)
end Go.Proofs.Ytlbapnecmhlgmaa
namespace Go.Proofs.Ytlbapnecmhlgmaa
open Go.RowKit

/-- 'append(s, x...)' of bytes, s full: a new row. -/
theorem wpList_grow_byts {w : World} {ops : Array Oper} {rest : List Oper} {o : Oper} {act : Act} {Q : Exit → Act → World → Prop} (hgd : o.guard = none) (s x : Operand)
    (ho : o.op = .call { callee := .builtin .append, args := #[s, x], argTypes := #[40, 40] }) (base g n : Nat) (f : Nat → Int) (hs : act.eval s = .slice (some ⟨g, 0, none⟩) n n) (hold : Hid (∀ i, i < n → w.cell? ⟨g, i, none⟩ = some (.int .u8 (f i))))
    (b m cap : Nat) (hm : 0 < m) (hx : act.eval x = .slice (some ⟨b, 0, none⟩) m cap) (hcell : Hid (∀ i, i < m → w.cell? ⟨b, i, none⟩ = some (.int .u8 (f (n + i))))) (hl : n + m ≤ 1000000) (hbase : base ≤ w.heap.size)
    (h : ∀ v' w', Hid (w'.ownsRow base 5 1 v' (n + m) (byts f (n + m))) → Below w.heap.size w w' → wpList Try.prog ops Q rest (act.put o.dst v') w') : wpList Try.prog ops Q (o :: rest) act w := by
  obtain ⟨i0, hi, hz0, hz1, hz2⟩ := info_parts Try.info5
  have e1 : (byts f n).length = n * i0.size := by rw [byts_len, hz1, Nat.mul_one]
  have e2 : (byts (fun j => f (n + j)) m).length = m * i0.size := by rw [byts_len, hz1, Nat.mul_one]
  have hr := run_append_grow (P := Try.prog) w 40 o.type 5 i0 (.int .u8 0) Try.underlying40 hi hz0 ⟨g, 0, none⟩ n n (byts f n) e1 (fun j u hj => by
      have hl := (List.getElem?_eq_some_iff.1 hj).1
      rw [byts_len] at hl
      rw [byts_at _ _ _ hl] at hj
      rw [Addr.add_lit, Nat.zero_add, hold.out j hl, hj]) ⟨b, 0, none⟩ m cap (byts (fun j => f (n + j)) m) e2 (fun j u hj => by
      have hl := (List.getElem?_eq_some_iff.1 hj).1
      rw [byts_len] at hl
      rw [byts_at _ _ _ hl] at hj
      rw [Addr.add_lit, Nat.zero_add, hcell.out j hl, hj]) (by omega) (by omega) (growslice_fits (by omega) (by rw [hz2]; omega))
  refine wpList_plain hgd fun K hK => ?_
  unfold Oper.wp execOp
  simp only [ho, resolve, invoke, builtin, Sem.run_bind, Sem.run_pure, Result.andThen_ok, List.map_toArray, List.map_cons, List.map_nil, hs, hx, hr]
  have hge := grownCap_ge w (n + m) n 5
  refine hK _ _ (h _ _ ?_ ?_)
  · show World.ownsRow _ _ _ _ _ _ _
    refine ⟨by rw [byts_len, Nat.mul_one], .inr ⟨w.heap.size, _, _, rfl, hbase, heap_alloc_new w.drew _, hge, grownCap_le_maxLen w (n + m) n 5 (by unfold maxLen; omega), ?_, ?_⟩⟩
    · simp only [Array.size_append, List.size_toArray, size_zeroCells, byts_len]
      rw [show (Value.int .u8 0).cells.size = 1 from rfl]
      omega
    · simp only [Array.toList_append, List.append_assoc]
      rw [← List.append_assoc, Nat.mul_one, byts_add]
      exact List.take_left' (by simp [byts_len])
  · exact ((Below.refl _ _).drew).alloc (Nat.le_refl _) _
/-- 'append(v, x...)' of bytes, v one's own. -/
theorem wpList_byts {w : World} {ops : Array Oper} {rest : List Oper} {o : Oper} {act : Act} {Q : Exit → Act → World → Prop} (hgd : o.guard = none) (s x : Operand)
    (ho : o.op = .call { callee := .builtin .append, args := #[s, x], argTypes := #[40, 40] }) (base : Nat) (v : Value) (n : Nat) (f : Nat → Int) (hs : act.eval s = v) (hown : Hid (w.ownsRow base 5 1 v n (byts f n)))
    (b m cap : Nat) (hx : act.eval x = .slice (some ⟨b, 0, none⟩) m cap) (hcell : Hid (∀ i, i < m → w.cell? ⟨b, i, none⟩ = some (.int .u8 (f (n + i))))) (hl : n + m ≤ 1000000) (hbase : base ≤ w.heap.size)
    (h : ∀ v' w', Hid (w'.ownsRow base 5 1 v' (n + m) (byts f (n + m))) → w.grownBy w' v.ownBlock → wpList Try.prog ops Q rest (act.put o.dst v') w') : wpList Try.prog ops Q (o :: rest) act w := by
  obtain ⟨i0, hi, hz0, hz1, hz2⟩ := info_parts Try.info5
  refine wpList_append_own_wide w hgd s x 40 ho base 5 i0 (.int .u8 0) 1 1 Try.underlying40 hi hz0 hz1 hz2 rfl (by decide) v n (byts f n) hs hown.out ⟨b, 0, none⟩ m cap (byts (fun j => f (n + j)) m) hx (by rw [byts_len, Nat.mul_one]) ?_ (byts_one _ _) (by unfold maxLen; omega) (by omega) hbase
      (fun v' w' h1 h2 _ => h v' w' (by show World.ownsRow _ _ _ _ _ _ _; rw [byts_add]; exact h1) h2)
  intro j u hj
  have hl := (List.getElem?_eq_some_iff.1 hj).1
  rw [byts_len] at hl
  rw [byts_at _ _ _ hl] at hj
  rw [Addr.add_lit, Nat.zero_add, hcell.out j hl, hj]
/-- A row of one's own stays where the document's disk's rows change. -/
theorem ownsRow_frR {w w' : World} {B n s : Nat} {e : TypeId} {v : Value} {xs : List Value} (h : w.ownsRow B e s v n xs) (hf : FrR w w') (h1 : e ≠ 75) (h2 : e ≠ 96) : w'.ownsRow B e s v n xs :=
  ownsRow_keep h fun k hk _ => by
    obtain ⟨_, _, cur, hr⟩ := ownsRow_lt h k hk
    exact hf.row hr h1 h2
/-- A row of another kind stays where one grows. -/
theorem ownsRow_grown {w w' : World} {B B' n s n' s' : Nat} {e e' : TypeId} {v v' : Value} {xs xs' : List Value} (h : w.ownsRow B e s v n xs) (h' : w.ownsRow B' e' s' v' n' xs') (hg : w.grownBy w' v'.ownBlock) (hne : e ≠ e') : w'.ownsRow B e s v n xs :=
  ownsRow_keep h fun k hk hl => hg.block k hl fun hh => by
    obtain ⟨_, _, cur, hr⟩ := ownsRow_lt h k hk
    obtain ⟨_, _, cur', hr'⟩ := ownsRow_lt h' k hh.symm
    exact row_ne hr hr' hne rfl
end Go.Proofs.Ytlbapnecmhlgmaa
namespace Go.Proofs.Ytlbapnecmhlgmaa
open Go.RowKit

theorem FrR.grown {w wx wy : World} (h : FrR w wx) {B n s : Nat} {e : TypeId} {v : Value} {xs : List Value} (o : wx.ownsRow B e s v n xs) (hg : wx.grownBy wy v.ownBlock) (hB : w.heap.size ≤ B) : FrR w wy :=
  ⟨Nat.le_trans h.size hg.size, fun k ob ho p1 p2 => (hg.block k (Nat.lt_of_lt_of_le (Array.getElem?_eq_some_iff.1 ho).1 h.size) (fun hh => by
    have h1 := (ownsRow_lt o k hh.symm).2.1
    have h2 := (Array.getElem?_eq_some_iff.1 ho).1
    omega)).trans (h.obj k ob ho p1 p2)⟩
theorem RJ.grown {w0 wx wy : World} {base gr : Nat} {fv : Value} {D : Dk} (h : RJ w0 base gr fv D wx) {B n s : Nat} {e : TypeId} {v : Value} {xs : List Value} (o : wx.ownsRow B e s v n xs) (hg : wx.grownBy wy v.ownBlock) (h1 : e ≠ 75) (h2 : e ≠ 96) (h3 : e ≠ 9) (hB : base ≤ B) (hB0 : w0.heap.size ≤ B) (hBx : base ≤ wx.heap.size) : RJ w0 base gr fv D wy := by
  obtain ⟨rv, R, Fl, r1, r2, r3⟩ := h.ref
  have hk : ∀ k C t, Row wx k C t → t ≠ e → wy.heap[k]? = wx.heap[k]? := fun k C t hr ht => hg.block k hr.lt (fun hh => by
    obtain ⟨_, _, cur, hr'⟩ := ownsRow_lt o k hh.symm
    exact row_ne hr hr' ht rfl)
  exact ⟨⟨rv, R, Fl, ⟨(hk _ _ _ r1.row (Ne.symm h1)).trans r1.row, ownsRow_grown r1.first o hg (Ne.symm h3), ownsRow_grown r1.evs o hg (Ne.symm h2), r1.ge⟩, r2, r3⟩, h.ok, h.fr.grown o hg hB0, own_grown (ownsRow_base o hB) h.old hBx hg⟩

structure ComAt (w0 : World) (base gr : Nat) (fv : Value) (qb gq A sec : Nat) (lv : Value) (P : List Rv) (w : World) (f : Nat → Int) (D : Dk) (u : Value) (N : List Nat) (h : Value) (n : Nat) (wx : World) : Prop where
  rj : RJ w0 base gr fv D wx
  fr : FrR w wx
  q : QAt wx qb gq gr A sec lv P
  l : wx.ownsRow w.heap.size 3 1 u N.length (N.map fun k => Value.int .i64 (k : Nat))
  h : wx.ownsRow w.heap.size 5 1 h n (byts f n)
  b : base ≤ w.heap.size
  b0 : w0.heap.size ≤ w.heap.size
section
variable {w0 : World} {base gr : Nat} {fv : Value} {qb gq A sec : Nat} {lv : Value} {P : List Rv} {w : World} {f : Nat → Int} {D : Dk} {u : Value} {N : List Nat} {h : Value} {n : Nat} {wx : World}
theorem ComAt.sz (c : ComAt w0 base gr fv qb gq A sec lv P w f D u N h n wx) : w.heap.size ≤ wx.heap.size := c.fr.size
theorem ComAt.below (c : ComAt w0 base gr fv qb gq A sec lv P w f D u N h n wx) {wy : World} (hb : Below wx.heap.size wx wy) : ComAt w0 base gr fv qb gq A sec lv P w f D u N h n wy :=
  ⟨c.rj.below hb (Nat.le_trans c.b c.sz), c.fr.trans (FrR.of_below hb), c.q.below hb, ownsRow_below c.l hb, ownsRow_below c.h hb, c.b, c.b0⟩
theorem ComAt.disk (c : ComAt w0 base gr fv qb gq A sec lv P w f D u N h n wx) {wy : World} {D' : Dk} (h1 : RJ w0 base gr fv D' wy) (h2 : FrR wx wy) : ComAt w0 base gr fv qb gq A sec lv P w f D' u N h n wy :=
  ⟨h1, c.fr.trans h2, c.q.frR h2, ownsRow_frR c.l h2 (by decide) (by decide), ownsRow_frR c.h h2 (by decide) (by decide), c.b, c.b0⟩
theorem QAt.grown {base gq gr A sec : Nat} (c : QAt wx base gq gr A sec lv P) {wy : World} {B n s : Nat} {e : TypeId} {v : Value} {xs : List Value} (o : wx.ownsRow B e s v n xs) (hg : wx.grownBy wy v.ownBlock) (h1 : e ≠ 50) (h2 : e ≠ 86) : QAt wy base gq gr A sec lv P :=
  c.keepT fun k C t hr ht => hg.block k hr.lt (fun hh => by
    obtain ⟨_, _, cur, hr'⟩ := ownsRow_lt o k hh.symm
    refine row_ne hr hr' ?_ rfl
    rcases ht with rfl | rfl
    · exact Ne.symm h1
    · exact Ne.symm h2)
theorem ComAt.num (c : ComAt w0 base gr fv qb gq A sec lv P w f D u N h n wx) {wy : World} {u' : Value} {N' : List Nat} (o : wy.ownsRow w.heap.size 3 1 u' N'.length (N'.map fun k => Value.int .i64 (k : Nat))) (hg : wx.grownBy wy u.ownBlock) : ComAt w0 base gr fv qb gq A sec lv P w f D u' N' h n wy :=
  ⟨c.rj.grown c.l hg (by decide) (by decide) (by decide) c.b c.b0 (Nat.le_trans c.b c.sz), c.fr.grown c.l hg (Nat.le_refl _), c.q.grown c.l hg (by decide) (by decide), o, ownsRow_grown c.h c.l hg (by decide), c.b, c.b0⟩
theorem ComAt.hd (c : ComAt w0 base gr fv qb gq A sec lv P w f D u N h n wx) {wy : World} {h' : Value} {n' : Nat} (o : wy.ownsRow w.heap.size 5 1 h' n' (byts f n')) (hg : wx.grownBy wy h.ownBlock) : ComAt w0 base gr fv qb gq A sec lv P w f D u N h' n' wy :=
  ⟨c.rj.grown c.h hg (by decide) (by decide) (by decide) c.b c.b0 (Nat.le_trans c.b c.sz), c.fr.grown c.h hg (Nat.le_refl _), c.q.grown c.h hg (by decide) (by decide), ownsRow_grown c.l c.h hg (by decide), o, c.b, c.b0⟩
theorem ComAt.nums (c : ComAt w0 base gr fv qb gq A sec lv P w f D u N h n wx) : NumsAt wx w.heap.size u N := by
  rcases own_ints c.l with ⟨h1, h2⟩ | ⟨b', c', h1, h2, h3⟩
  · exact ⟨none, 0, by rw [h1, h2]; rfl, fun h => absurd h (by rw [h2]; simp)⟩
  · exact ⟨_, c', h1, fun _ => ⟨b', rfl, h2, h3⟩⟩
end
end Go.Proofs.Ytlbapnecmhlgmaa
