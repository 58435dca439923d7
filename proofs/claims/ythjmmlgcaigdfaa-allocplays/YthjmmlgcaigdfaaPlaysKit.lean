/- Both sets and an act in memory; the calls of the law AllocPlays by what they do to them. -/
import Derived.Test.YthjmmlgcaigdfaaReads
import Derived.Test.YthjmmlgcaigdfaaCounts
namespace Go.Proofs.Ythjmmlgcaigdfaa
open Go.RowKit

/-- The program's set T, the document's S, and an act. -/
structure PK (w : World) (n gr gi ga : Nat) (A : Array Value) (gs : Nat) (T S : Nat → Bool) (wr : World) : Prop where
  set : SetAt wr gs n T
  ref : RAt wr gr gi n S
  act : Row wr ga A 32
  old : Below w.heap.size w wr
  ge : w.heap.size ≤ gs
  gei : w.heap.size ≤ gi
section
variable {w : World} {n gr gi ga : Nat} {A : Array Value} {gs : Nat} {T S : Nat → Bool} {wr w2 : World}
theorem PK.still (h : PK w n gr gi ga A gs T S wr) (hs : Still wr w2) : PK w n gr gi ga A gs T S w2 := ⟨h.set.still hs, h.ref.still hs, h.act.still hs, h.old.trans (hs.below _), h.ge, h.gei⟩
theorem PK.below (h : PK w n gr gi ga A gs T S wr) (hb : Below wr.heap.size wr w2) : PK w n gr gi ga A gs T S w2 := ⟨h.set.below hb, h.ref.below hb, h.act.below hb h.act.lt, h.old.trans (hb.mono h.old.size), h.ge, h.gei⟩
theorem PK.acts (h : PK w n gr gi ga A gs T S wr) : ga ≠ gs ∧ ga ≠ gi :=
  ⟨fun e => by subst e; have := h.act.symm.trans h.set.row; simp at this, fun e => by subst e; have := h.act.symm.trans h.ref.bits; simp at this⟩
theorem PK.setStep (h : PK w n gr gi ga A gs T S wr) {T' : Nat → Bool} (hs : SetAt w2 gs n T') (hc : Chg gs wr w2) : PK w n gr gi ga A gs T' S w2 :=
  ⟨hs, h.ref.chg hc (h.ref.apart h.set).1 (h.ref.apart h.set).2, h.act.chg hc h.acts.1, h.old.trans (hc.to_below h.ge h.old.size), h.ge, h.gei⟩
theorem PK.refStep (h : PK w n gr gi ga A gs T S wr) {S' : Nat → Bool} (hs : RAt w2 gr gi n S') (hc : Chg gi wr w2) : PK w n gr gi ga A gs T S' w2 :=
  ⟨h.set.chg hc (fun e => (h.ref.apart h.set).2 e.symm), hs, h.act.chg hc h.acts.2, h.old.trans (hc.to_below h.gei h.old.size), h.ge, h.gei⟩
theorem PK.other (h : PK w n gr gi ga A gs T S wr) {g : Nat} {T' : Nat → Bool} (hs : SetAt wr g n T') (hg : w.heap.size ≤ g) : PK w n gr gi ga A g T' S wr := ⟨hs, h.ref, h.act, h.old, hg, h.gei⟩
end

/-- What Put and Drop tell, and what they do. -/
def errOf (n : Nat) (T : Nat → Bool) (k : Int) (b : Bool) : Int := if 0 ≤ k ∧ k < n then (if T k.toNat = b then (if b then 13 else 14) else 0) else 2
def setOf (n : Nat) (T : Nat → Bool) (k : Int) (b : Bool) : Nat → Bool := if 0 ≤ k ∧ k < n then (if T k.toNat = b then T else fl T k.toNat) else T

section
variable {w : World} {n gr gi ga : Nat} {A : Array Value} {gs : Nat} {T S : Nat → Bool} {wr : World}
theorem put_any (h : PK w n gr gi ga A gs T S wr) (k : Int) : Calls Try.prog 13 #[.pointer (some ⟨gs, 0, none⟩), .int .i64 k] wr fun e w' => e = .returned (.int .i64 (errOf n T k true)) ∧ PK w n gr gi ga A gs (setOf n T k true) S w' := by
  unfold errOf setOf
  by_cases hk : 0 ≤ k ∧ k < n
  · obtain ⟨q, rfl⟩ : ∃ q : Nat, k = q := ⟨k.toNat, by omega⟩
    rw [if_pos hk, if_pos hk, Int.toNat_natCast]
    cases hT : T q with
    | true =>
      rw [if_pos rfl, if_pos rfl]
      exact (put_there h.set q (by omega) hT).mono fun e w' ⟨h1, h2⟩ => ⟨h1, h.still h2⟩
    | false =>
      rw [if_neg (by decide), if_neg (by decide)]
      exact (put_new h.set q (by omega) hT).mono fun e w' ⟨h1, h2, h3⟩ => ⟨h1, h.setStep h2 h3⟩
  · rw [if_neg hk, if_neg hk]
    exact (put_arg h.set k hk).mono fun e w' ⟨h1, h2⟩ => ⟨h1, by rw [h2]; exact h⟩
theorem drop_any (h : PK w n gr gi ga A gs T S wr) (k : Int) : Calls Try.prog 15 #[.pointer (some ⟨gs, 0, none⟩), .int .i64 k] wr fun e w' => e = .returned (.int .i64 (errOf n T k false)) ∧ PK w n gr gi ga A gs (setOf n T k false) S w' := by
  unfold errOf setOf
  by_cases hk : 0 ≤ k ∧ k < n
  · obtain ⟨q, rfl⟩ : ∃ q : Nat, k = q := ⟨k.toNat, by omega⟩
    rw [if_pos hk, if_pos hk, Int.toNat_natCast]
    cases hT : T q with
    | true =>
      rw [if_neg (by decide), if_neg (by decide)]
      exact (drop_in h.set q (by omega) hT).mono fun e w' ⟨h1, h2, h3⟩ => ⟨h1, h.setStep h2 h3⟩
    | false =>
      rw [if_pos rfl, if_pos rfl]
      exact (drop_none h.set q (by omega) hT).mono fun e w' ⟨h1, h2⟩ => ⟨h1, h.still h2⟩
  · rw [if_neg hk, if_neg hk]
    exact (drop_arg h.set k hk).mono fun e w' ⟨h1, h2⟩ => ⟨h1, by rw [h2]; exact h⟩
theorem rset_any (h : PK w n gr gi ga A gs T S wr) (k : Int) (b : Bool) : Calls Try.prog 14 #[.pointer (some ⟨gr, 0, none⟩), .int .i64 k, .bool b] wr fun e w' => e = .returned (.int .i64 (errOf n S k b)) ∧ PK w n gr gi ga A gs T (setOf n S k b) w' := by
  unfold errOf setOf
  by_cases hk : 0 ≤ k ∧ k < n
  · obtain ⟨q, rfl⟩ : ∃ q : Nat, k = q := ⟨k.toNat, by omega⟩
    rw [if_pos hk, if_pos hk, Int.toNat_natCast]
    by_cases hT : S q = b
    · rw [if_pos hT, if_pos hT]
      exact (rset_same h.ref q b (by omega) hT).mono fun e w' ⟨h1, h2⟩ => ⟨h1, by rw [h2]; exact h⟩
    · rw [if_neg hT, if_neg hT]
      exact (rset_new h.ref q b (by omega) (by cases hq : S q <;> cases b <;> simp_all)).mono fun e w' ⟨h1, h2, h3⟩ => ⟨h1, h.refStep h2 h3⟩
  · rw [if_neg hk, if_neg hk]
    exact (rset_arg h.ref k b hk).mono fun e w' ⟨h1, h2⟩ => ⟨h1, by rw [h2]; exact h⟩
theorem has_any (h : PK w n gr gi ga A gs T S wr) (k : Int) : Calls Try.prog 21 #[.pointer (some ⟨gs, 0, none⟩), .int .i64 k] wr fun e w' => e = .returned (.bool (decide (0 ≤ k ∧ k < n) && T k.toNat)) ∧ Still wr w' := by
  by_cases hk : 0 ≤ k ∧ k < n
  · obtain ⟨q, rfl⟩ : ∃ q : Nat, k = q := ⟨k.toNat, by omega⟩
    rw [decide_eq_true hk, Bool.true_and, Int.toNat_natCast]
    exact has_in h.set q (by omega)
  · rw [decide_eq_false hk, Bool.false_and]
    exact (has_arg h.set k hk).mono fun e w' ⟨h1, h2⟩ => ⟨h1, by rw [h2]; exact Still.refl _⟩

/-- The least that is not in it, or none. -/
theorem least (T : Nat → Bool) (n : Nat) : (∀ j, j < n → T j = true) ∨ ∃ k, k < n ∧ (∀ j, j < k → T j = true) ∧ T k = false := by
  induction n with
  | zero => exact .inl fun j h => by omega
  | succ n ih =>
    rcases ih with h | ⟨k, h1, h2, h3⟩
    · cases hn : T n with
      | true =>
        refine .inl fun j hj => ?_
        by_cases e : j = n
        · rw [e]; exact hn
        · exact h j (by omega)
      | false => exact .inr ⟨n, by omega, h, hn⟩
    · exact .inr ⟨k, by omega, h2, h3⟩
/-- Both sets, alike, take the same. -/
theorem take_both (h : PK w n gr gi ga A gs T T wr) : ∃ (x r : Int) (T' : Nat → Bool), Calls Try.prog 11 #[.pointer (some ⟨gs, 0, none⟩)] wr fun e w' => e = .returned (.tuple #[.int .i64 x, .int .i64 r]) ∧ Hid (PK w n gr gi ga A gs T' T w' ∧ Calls Try.prog 12 #[.pointer (some ⟨gr, 0, none⟩)] w' fun e w' => e = .returned (.tuple #[.int .i64 x, .int .i64 r]) ∧ PK w n gr gi ga A gs T' T' w') := by
  rcases least T n with hall | ⟨k, hk, hmin, hT⟩
  · refine ⟨0, 15, T, (take_full h.set hall).mono fun e w' ⟨h1, h2⟩ => ⟨h1, h.still h2, ?_⟩⟩
    exact (rtake_full (h.still h2).ref hall).mono fun e w3 ⟨h3, h4⟩ => ⟨h3, by rw [h4]; exact h.still h2⟩
  · refine ⟨k, 0, fl T k, (take_ok h.set k hk hmin hT).mono fun e w' ⟨h1, h2, h3⟩ => ⟨h1, h.setStep h2 h3, ?_⟩⟩
    exact (rtake_ok (h.setStep h2 h3).ref k hk hmin hT).mono fun e w3 ⟨h4, h5, h6⟩ => ⟨h4, (h.setStep h2 h3).refStep h5 h6⟩
theorem take_any (h : SetAt wr gs n T) : Calls Try.prog 11 #[.pointer (some ⟨gs, 0, none⟩)] wr fun e w' => ∃ v T', e = .returned v ∧ SetAt w' gs n T' ∧ Chg gs wr w' := by
  rcases least T n with hall | ⟨k, hk, hmin, hT⟩
  · exact (take_full h hall).mono fun e w' ⟨h1, h2⟩ => ⟨_, T, h1, h.still h2, Chg.of_still h2⟩
  · exact (take_ok h k hk hmin hT).mono fun e w' ⟨h1, h2, h3⟩ => ⟨_, _, h1, h2, h3⟩
end

theorem bit_tab : ∀ b0 b1 b2 b3 b4 b5 b6 b7 : Bool, ∀ r, r < 8 → decide ((oct fun j => [b0, b1, b2, b3, b4, b5, b6, b7].getD j false).toNat / 2 ^ r % 2 = 1) = [b0, b1, b2, b3, b4, b5, b6, b7].getD r false := by decide +kernel
theorem bit_oct (f : Nat → Bool) (r : Nat) (h : r < 8) : decide ((oct f).toNat / 2 ^ r % 2 = 1) = f r := by
  have h1 := bit_tab (f 0) (f 1) (f 2) (f 3) (f 4) (f 5) (f 6) (f 7) r h
  rw [← oct_tab f r h, ← oct_congr f _ (oct_tab f)] at h1
  exact h1
theorem bitsOf_byt (T : Nat → Bool) (h : ∀ k, 2048 ≤ k → T k = false) : bitsOf (byt T) = T := by
  funext k
  unfold bitsOf
  by_cases hk : k < 2048
  · rw [decide_eq_true hk, Bool.true_and]
    unfold byt
    rw [bit_oct _ _ (by omega), show 8 * (k / 8) + k % 8 = k by omega]
  · rw [decide_eq_false hk, h k (by omega)]
    rfl
theorem beyond_none (T : Nat → Bool) (n j : Nat) (h : ∀ k, n ≤ k → T k = false) : beyond T n j = false := by
  induction j with
  | zero => rfl
  | succ j ih => rw [beyond, ih, h (n + j) (by omega)]; rfl
/-- What is read of a set's bytes is that set. -/
theorem reread {w : World} {p n : Nat} {T : Nat → Bool} (h0 : 1 ≤ n) (h1 : n ≤ 2048) (htop : ∀ k, n ≤ k → T k = false) (hR : Row w p (arr (byt T)) 5) :
    Calls Try.prog 18 #[.slice (some ⟨p, 0, none⟩) 256 256, .int .i64 n] w fun e w' => e = .returned (.tuple #[.pointer (some ⟨w.heap.size, 0, none⟩), .int .i64 0]) ∧ SetAt w' w.heap.size n T ∧ Below w.heap.size w w' := by
  have hB : Bs w (some ⟨p, 0, none⟩) p 0 256 (byt T) := ⟨fun _ => rfl, fun i hi => by rw [Nat.zero_add, hR.cell i]; exact arr_at _ i hi, fun i => byt_bd T i⟩
  refine (read_ok n p 0 256 (byt T) w h0 h1 hB).mono ?_
  rw [bitsOf_byt T (fun k hk => htop k (by omega)), beyond_none T n _ htop]
  rintro e w' ⟨hb, ⟨hy, _⟩ | ⟨_, he, hs⟩⟩
  · cases hy
  · exact ⟨he, hs, hb⟩
end Go.Proofs.Ythjmmlgcaigdfaa
