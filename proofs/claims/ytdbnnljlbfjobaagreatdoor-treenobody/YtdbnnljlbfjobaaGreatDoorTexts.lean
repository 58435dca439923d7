/- Sectors as texts; the mask of two bits; what a disk has behind a power loss of which nothing, or all, is kept. -/
import Derived.Test.YtdbnnljlbfjobaaGreatDoorAfter
import Derived.Laws.BytesArg
import Derived.WalkKit
namespace Go.Proofs.YtdbnnljlbfjobaaGreatDoor
open Go.RowKit

theorem two_pow_pos (k : Nat) : (0 : Int) < 2 ^ k := Int.pow_pos (by decide)
theorem and_i64 (x y : Int) : bits .and .i64 x y = IntKind.i64.wrap (((BitVec.ofInt 64 x).toNat &&& (BitVec.ofInt 64 y).toNat : Nat) : Int) := by
  show IntKind.i64.wrap ((BitVec.ofInt 64 x &&& BitVec.ofInt 64 y).toNat : Int) = _
  rw [BitVec.toNat_and]

/-- A mask of the i lowest bits, of a number of whatever sign. -/
theorem and_mask_i64 (i : Nat) (hi : i ≤ 62) (x : Int) : bits .and .i64 x (2 ^ i - 1) = x % 2 ^ i := by
  have hpos : 0 < 2 ^ i := Nat.two_pow_pos i
  have hle : 2 ^ i ≤ 2 ^ 62 := Nat.pow_le_pow_right (by decide) hi
  have hc : ((2 : Int) ^ i - 1) = ((2 ^ i - 1 : Nat) : Int) := by rw [Int.natCast_sub hpos]; simp
  have hm : (2 ^ i - 1) % 2 ^ 64 = 2 ^ i - 1 := Nat.mod_eq_of_lt (by omega)
  have hx : (BitVec.ofInt 64 x).toNat % 2 ^ i = (x % 2 ^ i).toNat := by
    rw [BitVec.toNat_ofInt]
    have h1 : ((x % ((2 ^ 64 : Nat) : Int)).toNat : Int) = x % 2 ^ 64 := by
      rw [Int.toNat_of_nonneg (Int.emod_nonneg _ (by decide))]; rfl
    have hd : ((2 : Int) ^ i) ∣ 2 ^ 64 := by
      refine ⟨2 ^ (64 - i), ?_⟩
      rw [← Int.pow_add]; congr 1; omega
    have h2 : (((x % ((2 ^ 64 : Nat) : Int)).toNat % 2 ^ i : Nat) : Int) = x % 2 ^ i := by
      rw [Int.natCast_emod, h1]
      have : ((2 ^ i : Nat) : Int) = 2 ^ i := by simp
      rw [this, Int.emod_emod_of_dvd _ hd]
    omega
  rw [hc, and_i64, BitVec.ofInt_natCast, BitVec.toNat_ofNat, hm, Nat.and_two_pow_sub_one_eq_mod, hx]
  have h0 : 0 ≤ x % 2 ^ i := Int.emod_nonneg _ (Int.ne_of_gt (two_pow_pos i))
  have h1 : x % 2 ^ i < 2 ^ i := Int.emod_lt_of_pos _ (two_pow_pos i)
  have h2 : (2 : Int) ^ i ≤ 2 ^ 62 := by exact_mod_cast hle
  rw [Int.toNat_of_nonneg h0, IntKind.wrap_i64]
  omega

theorem and3 (x : Int) : ∃ k : Nat, bits .and .i64 x 3 = (k : Int) ∧ k < 4 := by
  have h := and_mask_i64 2 (by decide) x
  have h4 : (2 : Int) ^ 2 = 4 := by decide
  rw [h4] at h
  have e : bits .and .i64 x 3 = x % 4 := h
  refine ⟨(x % 4).toNat, ?_, ?_⟩ <;> omega

/-- 256 bytes as a text. -/
def sStr (f : Nat → Int) : ByteArray := strOfNums ((List.range 256).map f)
theorem sStr_congr (f g : Nat → Int) (h : ∀ i, i < 256 → f i = g i) : sStr f = sStr g := by
  unfold sStr
  congr 1
  apply List.map_congr_left
  intro i hi
  exact h i (by simpa using hi)
theorem conv256 (w : World) (b off cap : Nat) (f : Nat → Int) (h : ∀ i, i < 256 → w.cell? ⟨b, off + i, none⟩ = some (.int .u8 (f i))) : (convert 31 9 (.slice (some ⟨b, off, none⟩) 256 cap)).run Tryz.prog w = .ok (.string (sStr f)) w := by
  refine run_convert_bytes_arg (P := Tryz.prog) w 31 5 Tryz.underlying31 Tryz.underlying5 b off 256 cap ((List.range 256).map f) (by simp) (fun i hi => ?_) 9 Tryz.underlying9
  rw [h i hi]; simp [List.getD, hi]
/-- The text of a sector. -/
def S (B : Nat → Int) (k : Nat) : ByteArray := sStr fun j => B (k * 256 + j)
theorem S_over (B : Nat → Int) (n k : Nat) (f : Nat → Int) : S (over B n f) k = if k = n then sStr f else S B k := by
  unfold S
  split
  · rename_i e
    subst e
    exact sStr_congr _ _ (fun i hi => by unfold over; rw [if_pos (by omega)]; congr 1; omega)
  · exact sStr_congr _ _ (fun i hi => by unfold over; rw [if_neg (by omega)])

/-- All of the first n events done. -/
def redoAll (F : Nat → Int) (E : Nat → Ev) : Nat → Nat → Int
  | 0 => F
  | n + 1 => redoF (E n) (redoAll F E n)
theorem redoAll_congr (F : Nat → Int) (E E' : Nat → Ev) (n : Nat) (h : ∀ i, i < n → E i = E' i) : redoAll F E n = redoAll F E' n := by
  induction n with
  | zero => rfl
  | succ n ih => rw [redoAll, redoAll, h n (by omega), ih (fun i hi => h i (by omega))]
theorem after_none (F : Nat → Int) (E : Nat → Ev) (sf : Nat) (kf : Nat → Bool) (n : Nat) : afterF F E sf 0 kf n = redoAll F E (min n sf) := by
  induction n with
  | zero => simp [afterF, redoAll]
  | succ n ih =>
    unfold afterF
    by_cases h : n < sf
    · rw [if_pos (.inl h), ih, show min n sf = n by omega, show min (n + 1) sf = n + 1 by omega]; rfl
    · rw [if_neg (by simp [keptB]; omega), ih, show min n sf = sf by omega, show min (n + 1) sf = sf by omega]
theorem after_every (F : Nat → Int) (E : Nat → Ev) (sf klen : Nat) (kf : Nat → Bool) (n : Nat) (hl : n ≤ klen) (hk : ∀ i, i < klen → kf i = true) : afterF F E sf klen kf n = redoAll F E n := by
  induction n with
  | zero => rfl
  | succ n ih =>
    unfold afterF
    by_cases h : n < sf
    · rw [if_pos (.inl h), ih (by omega)]; rfl
    · rw [if_pos (.inr (by simp [keptB, hk (n - sf) (by omega)]; omega)), ih (by omega)]; rfl

/-- The disk's bytes are what all its events did; Fl is what it was at the last flush. -/
structure Hist (D : Dk) (Fl : Nat → Int) : Prop where
  now : D.B = redoAll D.F D.ev D.E.length
  fl : Fl = redoAll D.F D.ev (safeN D.ev D.E.length)
theorem Dk.ev_old (D : Dk) (e : Ev) (i : Nat) (h : i < D.E.length) : Dk.ev { D with E := D.E ++ [e] } i = D.ev i := by
  simp [Dk.ev, List.getD, List.getElem?_append_left h]
theorem ev_last (F B : Nat → Int) (s : Nat) (E : List Ev) (e : Ev) : Dk.ev ⟨s, F, B, E ++ [e]⟩ E.length = e := by
  simp [Dk.ev, List.getD]
theorem safeN_congr (E E' : Nat → Ev) (n : Nat) (h : ∀ i, i < n → E i = E' i) : safeN E n = safeN E' n := by
  induction n with
  | zero => rfl
  | succ n ih => rw [safeN, safeN, h n (by omega), ih (fun i hi => h i (by omega))]
theorem ev_pre (F B : Nat → Int) (s : Nat) (E : List Ev) (e : Ev) (F' B' : Nat → Int) (s' : Nat) (i : Nat) (h : i < E.length) : Dk.ev ⟨s, F, B, E ++ [e]⟩ i = Dk.ev ⟨s', F', B', E⟩ i := by
  simp [Dk.ev, List.getD, List.getElem?_append_left h]
theorem Hist.flush {D : Dk} {Fl : Nat → Int} (h : Hist D Fl) : Hist D.flush D.B := by
  have h1 : redoAll D.F D.flush.ev D.E.length = redoAll D.F D.ev D.E.length := redoAll_congr _ _ _ _ (fun i hi => ev_pre _ _ _ _ _ _ _ _ i hi)
  have h2 : D.flush.ev D.E.length = flushEv := ev_last _ _ _ _ _
  have h3 : redoAll D.F D.flush.ev (D.E.length + 1) = D.B := by
    rw [redoAll, h2, h1, ← h.now]
    simp [redoF, Ev.isFl, flushEv]
  refine ⟨?_, ?_⟩
  · show D.B = redoAll D.F D.flush.ev (D.E ++ [flushEv]).length
    rw [List.length_append, List.length_cons, List.length_nil, h3]
  · show D.B = redoAll D.F D.flush.ev (safeN D.flush.ev (D.E ++ [flushEv]).length)
    rw [List.length_append, List.length_cons, List.length_nil]
    have : safeN D.flush.ev (D.E.length + 1) = D.E.length + 1 := by rw [safeN, h2]; simp [Ev.isFl, flushEv]
    rw [this, h3]
theorem Hist.write {D : Dk} {Fl : Nat → Int} (h : Hist D Fl) (n : Nat) (f : Nat → Int) : Hist (D.write n f) Fl := by
  have hp : ∀ i, i < D.E.length → (D.write n f).ev i = D.ev i := fun i hi => ev_pre _ _ _ _ _ _ _ _ i hi
  have h1 : redoAll D.F (D.write n f).ev D.E.length = redoAll D.F D.ev D.E.length := redoAll_congr _ _ _ _ hp
  have h2 : (D.write n f).ev D.E.length = ⟨n, f⟩ := ev_last _ _ _ _ _
  refine ⟨?_, ?_⟩
  · show over D.B n f = redoAll D.F (D.write n f).ev (D.E ++ [(⟨n, f⟩ : Ev)]).length
    rw [List.length_append, List.length_cons, List.length_nil, redoAll, h2, h1, ← h.now]
    simp [redoF, Ev.isFl]
    omega
  · show Fl = redoAll D.F (D.write n f).ev (safeN (D.write n f).ev (D.E ++ [(⟨n, f⟩ : Ev)]).length)
    have hs : safeN (D.write n f).ev (D.E.length + 1) = safeN D.ev D.E.length := by
      rw [safeN, h2, if_neg (by simp [Ev.isFl]), safeN_congr _ _ _ hp]
    rw [List.length_append, List.length_cons, List.length_nil, hs, h.fl]
    exact (redoAll_congr _ _ _ _ (fun i hi => hp i (by have := safeN_le D.ev D.E.length; omega))).symm
end Go.Proofs.YtdbnnljlbfjobaaGreatDoor
