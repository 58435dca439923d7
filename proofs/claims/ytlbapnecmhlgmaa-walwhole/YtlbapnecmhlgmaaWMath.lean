/- Events of a commit; what a journal that is opened shows. -/
import Derived.Test.YtlbapnecmhlgmaaHdrMath
namespace Go.Proofs.Ytlbapnecmhlgmaa
open Go.RowKit

theorem write_old (D : Dk) (n : Nat) (f : Nat → Int) (i : Nat) (h : i < D.E.length) : (D.write n f).ev i = D.ev i := ev_pre _ _ _ _ _ _ _ _ i h
theorem write_last (D : Dk) (n : Nat) (f : Nat → Int) : (D.write n f).ev D.E.length = ⟨n, f⟩ := ev_last _ _ _ _ _
theorem flush_old (D : Dk) (i : Nat) (h : i < D.E.length) : D.flush.ev i = D.ev i := ev_pre _ _ _ _ _ _ _ _ i h
theorem flush_last (D : Dk) : D.flush.ev D.E.length = flushEv := ev_last _ _ _ _ _
theorem write_len (D : Dk) (n : Nat) (f : Nat → Int) : (D.write n f).E.length = D.E.length + 1 := by
  show (D.E ++ [_]).length = _
  simp
theorem flush_len (D : Dk) : D.flush.E.length = D.E.length + 1 := by
  show (D.E ++ [_]).length = _
  simp
theorem wrN_old (D : Dk) (at' : Nat) (L : List Pt) (K : List Nat) (i : Nat) (h : i < D.E.length) : ∀ n, (wrN D at' L K n).ev i = D.ev i
  | 0 => rfl
  | n + 1 => by rw [wrN, write_old _ _ _ _ (by rw [wrN_len]; omega)]; exact wrN_old D at' L K i h n
theorem wrN_ev (D : Dk) (at' : Nat) (L : List Pt) (K : List Nat) (i : Nat) : ∀ n, i < n → (wrN D at' L K n).ev (D.E.length + i) = ⟨((at' + 1 + i : Nat) : Int), lookD L (K.getD i 0)⟩
  | 0, h => by omega
  | n + 1, h => by
    rw [wrN]
    by_cases e : i = n
    · subst e
      rw [← wrN_len D at' L K i, write_last]
    · rw [write_old _ _ _ _ (by rw [wrN_len]; omega)]
      exact wrN_ev D at' L K i n (by omega)
theorem doN_old (D : Dk) (at' : Nat) (K : List Nat) (i : Nat) (h : i < D.E.length) : ∀ n, (doN D at' K n).ev i = D.ev i
  | 0 => rfl
  | n + 1 => by rw [doN, write_old _ _ _ _ (by rw [doN_len]; omega)]; exact doN_old D at' K i h n
theorem doN_ev (D : Dk) (at' : Nat) (K : List Nat) (i : Nat) : ∀ n, i < n → (doN D at' K n).ev (D.E.length + i) = ⟨(K.getD i 0 : Nat), secF (doN D at' K i).B (at' + 1 + i)⟩
  | 0, h => by omega
  | n + 1, h => by
    rw [doN]
    by_cases e : i = n
    · subst e
      rw [← doN_len D at' K i, write_last]
    · rw [write_old _ _ _ _ (by rw [doN_len]; omega)]
      exact doN_ev D at' K i n (by omega)
theorem over_at (B : Nat → Int) (n m j : Nat) (f : Nat → Int) (hj : j < 256) : over B n f (m * 256 + j) = if m = n then f j else B (m * 256 + j) := by
  unfold over
  split
  · rw [if_pos (by omega)]
    congr 1
    have : m = n := by omega
    subst this
    omega
  · rw [if_neg (by omega)]
theorem doN_rest (D : Dk) (at' : Nat) (K : List Nat) (m j : Nat) (hj : j < 256) : ∀ n, (∀ i, i < n → K.getD i 0 ≠ m) → (doN D at' K n).B (m * 256 + j) = D.B (m * 256 + j)
  | 0, _ => rfl
  | n + 1, h => by
    show over _ _ _ _ = _
    rw [over_at _ _ _ _ _ hj, if_neg (fun e => h n (by omega) e.symm)]
    exact doN_rest D at' K m j hj n (fun i hi => h i (by omega))
theorem wrN_data (D : Dk) (at' : Nat) (L : List Pt) (K : List Nat) (i j : Nat) (hj : j < 256) : ∀ n, i < n → (wrN D at' L K n).B ((at' + 1 + i) * 256 + j) = lookD L (K.getD i 0) j
  | 0, h => by omega
  | n + 1, h => by
    show over _ _ _ _ = _
    rw [over_at _ _ _ _ _ hj]
    by_cases e : i = n
    · subst e
      rw [if_pos rfl]
    · rw [if_neg (by omega)]
      exact wrN_data D at' L K i j hj n (by omega)

theorem doD_old (D : Dk) (at' : Nat) (K : List Nat) (i : Nat) (h : i < D.E.length) : (doD D at' K).ev i = D.ev i := by
  unfold doD
  rw [flush_old _ _ (by rw [write_len, flush_len, doN_len]; omega), write_old _ _ _ _ (by rw [flush_len, doN_len]; omega), flush_old _ _ (by rw [doN_len]; omega), doN_old _ _ _ _ h]
theorem doD_ev (D : Dk) (at' : Nat) (K : List Nat) (i : Nat) (h : i < K.length) : (doD D at' K).ev (D.E.length + i) = ⟨(K.getD i 0 : Nat), secF (doN D at' K i).B (at' + 1 + i)⟩ := by
  unfold doD
  rw [flush_old _ _ (by rw [write_len, flush_len, doN_len]; omega), write_old _ _ _ _ (by rw [flush_len, doN_len]; omega), flush_old _ _ (by rw [doN_len]; omega), doN_ev _ _ _ _ _ h]
theorem doD_f1 (D : Dk) (at' : Nat) (K : List Nat) : (doD D at' K).ev (D.E.length + K.length) = flushEv := by
  unfold doD
  rw [flush_old _ _ (by rw [write_len, flush_len, doN_len]; omega), write_old _ _ _ _ (by rw [flush_len, doN_len]; omega), ← doN_len D at' K K.length, flush_last]
theorem doD_zero (D : Dk) (at' : Nat) (K : List Nat) : (doD D at' K).ev (D.E.length + K.length + 1) = ⟨at', fun _ => 0⟩ := by
  unfold doD
  rw [flush_old _ _ (by rw [write_len, flush_len, doN_len]; omega), ← doN_len D at' K K.length, ← flush_len, write_last]
theorem doD_f2 (D : Dk) (at' : Nat) (K : List Nat) : (doD D at' K).ev (D.E.length + K.length + 2) = flushEv := by
  unfold doD
  rw [← doN_len D at' K K.length, show (doN D at' K K.length).E.length + 2 = ((doN D at' K K.length).flush.write at' fun _ => 0).E.length by rw [write_len, flush_len], flush_last]
theorem hdD_old (D : Dk) (at' : Nat) (L : List Pt) (K : List Nat) (i : Nat) (h : i < D.E.length) : (hdD D at' L K).ev i = D.ev i := by
  unfold hdD
  rw [flush_old _ _ (by rw [write_len, flush_len, wrN_len]; omega), write_old _ _ _ _ (by rw [flush_len, wrN_len]; omega), flush_old _ _ (by rw [wrN_len]; omega), wrN_old _ _ _ _ _ h]
theorem hdD_ev (D : Dk) (at' : Nat) (L : List Pt) (K : List Nat) (i : Nat) (h : i < K.length) : (hdD D at' L K).ev (D.E.length + i) = ⟨((at' + 1 + i : Nat) : Int), lookD L (K.getD i 0)⟩ := by
  unfold hdD
  rw [flush_old _ _ (by rw [write_len, flush_len, wrN_len]; omega), write_old _ _ _ _ (by rw [flush_len, wrN_len]; omega), flush_old _ _ (by rw [wrN_len]; omega), wrN_ev _ _ _ _ _ _ h]
theorem hdD_f1 (D : Dk) (at' : Nat) (L : List Pt) (K : List Nat) : (hdD D at' L K).ev (D.E.length + K.length) = flushEv := by
  unfold hdD
  rw [flush_old _ _ (by rw [write_len, flush_len, wrN_len]; omega), write_old _ _ _ _ (by rw [flush_len, wrN_len]; omega), ← wrN_len D at' L K K.length, flush_last]
theorem hdD_hdr (D : Dk) (at' : Nat) (L : List Pt) (K : List Nat) : (hdD D at' L K).ev (D.E.length + K.length + 1) = ⟨at', hdr K⟩ := by
  unfold hdD
  rw [flush_old _ _ (by rw [write_len, flush_len, wrN_len]; omega), ← wrN_len D at' L K K.length, ← flush_len, write_last]
theorem hdD_f2 (D : Dk) (at' : Nat) (L : List Pt) (K : List Nat) : (hdD D at' L K).ev (D.E.length + K.length + 2) = flushEv := by
  unfold hdD
  rw [← wrN_len D at' L K K.length, show (wrN D at' L K K.length).E.length + 2 = ((wrN D at' L K K.length).flush.write at' (hdr K)).E.length by rw [write_len, flush_len], flush_last]

/-- The numbers of a commit. -/
structure Nums (K : List Nat) : Prop where
  lo : 1 ≤ K.length
  hi : K.length ≤ 3
  up : ∀ i j, i < j → j < K.length → K.getD i 0 < K.getD j 0
  ge : ∀ i, i < K.length → 4 ≤ K.getD i 0 ∧ K.getD i 0 < 12
theorem Nums.inj {K : List Nat} (h : Nums K) (i j : Nat) (hi : i < K.length) (hj : j < K.length) (e : K.getD i 0 = K.getD j 0) : i = j := by
  rcases Nat.lt_trichotomy i j with h1 | h1 | h1
  · have := h.up i j h1 hj; omega
  · exact h1
  · have := h.up j i h1 hi; omega
theorem hdD_data (D : Dk) (L : List Pt) (K : List Nat) (i j : Nat) (hj : j < 256) (h : i < K.length) : (hdD D 0 L K).B ((1 + i) * 256 + j) = lookD L (K.getD i 0) j := by
  show over _ 0 _ _ = _
  rw [over_at _ _ _ _ _ hj, if_neg (by omega)]
  have := wrN_data D 0 L K i j hj K.length h
  rwa [show 0 + 1 + i = 1 + i by omega] at this
theorem com_old (D : Dk) (L : List Pt) (K : List Nat) (i : Nat) (h : i < D.E.length) : (comD D 0 L K).ev i = D.ev i := by
  unfold comD
  rw [doD_old _ _ _ _ (by rw [hdD_len]; omega), hdD_old _ _ _ _ _ h]
theorem com_blk (D : Dk) (L : List Pt) (K : List Nat) (hK : Nums K) : Blk (comD D 0 L K).ev D.E.length K.length (fun i => K.getD i 0) (fun i => lookD L (K.getD i 0)) (hdr K) := by
  have hl := hdD_len D 0 L K
  unfold comD
  refine ⟨fun i hi => ?_, ?_, ?_, ?_, fun i hi => ?_, ?_, ?_, ?_⟩
  · rw [doD_old _ _ _ _ (by omega), hdD_ev _ _ _ _ _ hi, show 0 + 1 + i = 1 + i by omega]
  · rw [doD_old _ _ _ _ (by omega), hdD_f1]
  · rw [doD_old _ _ _ _ (by omega), hdD_hdr]; rfl
  · rw [doD_old _ _ _ _ (by omega), hdD_f2]
  · rw [← hl, doD_ev _ _ _ _ hi]
    refine ⟨rfl, fun j hj => ?_⟩
    show (doN (hdD D 0 L K) 0 K i).B ((0 + 1 + i) * 256 + j) = _
    rw [doN_rest _ _ _ _ _ hj _ (fun q hq => by have := (hK.ge q (by omega)).1; have := hK.hi; omega), show 0 + 1 + i = 1 + i by omega]
    exact hdD_data D L K i j hj hi
  · rw [← hl, doD_f1]
  · rw [← hl, doD_zero]; rfl
  · rw [← hl, doD_f2]

theorem shN_congr (A B : Nat → Int) : ∀ n, (∀ m, 4 ≤ m → m < 4 + n → ∀ j, j < 256 → A (m * 256 + j) = B (m * 256 + j)) → shN A n = shN B n
  | 0, _ => rfl
  | n + 1, h => by
    rw [shN, shN, shN_congr A B n (fun m h1 h2 => h m h1 (by omega)), show S A (4 + n) = S B (4 + n) from sStr_congr _ _ (fun j hj => h (4 + n) (by omega) (by omega) j hj)]
theorem newB_same {B0 Y Z : Nat → Int} {n : Nat} {K : Nat → Nat} {d : Nat → Nat → Int} (h : NewB B0 n K d Y) (h' : NewB B0 n K d Z) : shN Y 8 = shN Z 8 := shN_congr _ _ 8 fun m hm _ j hj => by
  by_cases hk : ∀ i, i < n → K i ≠ m
  · rw [h.rest m hm hk j hj, h'.rest m hm hk j hj]
  · have ⟨i, hi⟩ := Classical.not_forall.1 hk
    have ⟨hin, he⟩ := Classical.not_imp.1 hi
    have he := Classical.not_not.1 he
    rw [← he, h.done i hin j hj, h'.done i hin j hj]

/-- A header that stands, and what is shown when its numbers are done. -/
structure Mk (T : ByteArray) (K : List Nat) (X : Nat → Int) : Prop where
  nums : Nums K
  hdr : ∀ j, j < 256 → X (0 * 256 + j) = hdr K j
  all : ∀ Y, NewB X K.length (fun i => K.getD i 0) (fun i j => X ((1 + i) * 256 + j)) Y → shN Y 8 = T
/-- Opened, the disk shows T. -/
def Rec (T : ByteArray) (X : Nat → Int) : Prop := (unmarked (secF X 0) ∧ shN X 8 = T) ∨ ∃ K, Mk T K X
theorem NewB.unmarked {B0 X : Nat → Int} {n : Nat} {K : Nat → Nat} {d : Nat → Nat → Int} (h : NewB B0 n K d X) : unmarked (secF X 0) := unmarked_zero _ (fun j hj => h.hdr j (by omega))
theorem OldB.unmarked {B0 X : Nat → Int} (h : OldB B0 X) : Ytlbapnecmhlgmaa.unmarked (secF X 0) := unmarked_zero _ (fun j hj => h.hdr j (by omega))
theorem OldB.shows {B0 X : Nat → Int} (h : OldB B0 X) : shN X 8 = shN B0 8 := shN_congr _ _ 8 fun m hm _ j hj => h.rest m hm j hj
theorem mid_new {B0 X Y : Nat → Int} {n : Nat} {K : Nat → Nat} {d : Nat → Nat → Int} {h : Nat → Int} (hM : MidB B0 n K d h X) (hY : NewB X n K (fun i j => X ((1 + i) * 256 + j)) Y) : NewB B0 n K d Y :=
  ⟨hY.hdr, fun i hi j hj => by rw [hY.done i hi j hj]; exact hM.data i hi j hj, fun m hm hk j hj => by rw [hY.rest m hm hk j hj]; exact hM.rest m hm hk j hj⟩
/-- Its numbers done, a disk is new. -/
theorem doD_new (D : Dk) (K : List Nat) (hK : Nums K) : NewB D.B K.length (fun i => K.getD i 0) (fun i j => D.B ((1 + i) * 256 + j)) (doD D 0 K).B := by
  have hB : ∀ m j, j < 256 → m ≠ 0 → (doD D 0 K).B (m * 256 + j) = (doN D 0 K K.length).B (m * 256 + j) := fun m j hj hm => by
    have e : (doD D 0 K).B = over (doN D 0 K K.length).B 0 (fun _ => 0) := rfl
    rw [e, over_at _ _ _ _ _ hj, if_neg hm]
  refine ⟨fun j hj => ?_, fun i hi j hj => ?_, fun m hm hk j hj => ?_⟩
  · have e : (doD D 0 K).B = over (doN D 0 K K.length).B 0 (fun _ => 0) := rfl
    rw [e, over_at _ _ _ _ _ hj, if_pos rfl]
  · have h4 := (hK.ge i hi).1
    show (doD D 0 K).B (K.getD i 0 * 256 + j) = _
    rw [hB _ _ hj (by omega)]
    have : ∀ n, i < n → n ≤ K.length → (doN D 0 K n).B (K.getD i 0 * 256 + j) = D.B ((1 + i) * 256 + j) := fun n => by
      induction n with
      | zero => intro h; omega
      | succ n ih =>
        intro h h2
        show over _ _ _ _ = _
        rw [over_at _ _ _ _ _ hj]
        by_cases e : i = n
        · subst e
          rw [if_pos rfl]
          show (doN D 0 K i).B ((0 + 1 + i) * 256 + j) = _
          rw [doN_rest _ _ _ _ _ hj _ (fun q hq => by have := (hK.ge q (by omega)).1; have := hK.hi; omega), show 0 + 1 + i = 1 + i by omega]
        · rw [if_neg (fun e2 => e (hK.inj i n hi (by omega) e2))]
          exact ih (by omega) (by omega)
    exact this _ hi (Nat.le_refl _)
  · rw [hB _ _ hj (by omega)]
    exact doN_rest _ _ _ _ _ hj _ hk
/-- In the midst of it, too, the header stands. -/
theorem doD_half {T : ByteArray} {K : List Nat} {D : Dk} (hM : Mk T K D.F) (hE : D.E = []) (hok : ∀ i, i < (doD D 0 K).E.length → ((doD D 0 K).ev i).ok 12) (klen : Nat) (kf : Nat → Bool) (sf h : Nat) (hh : h ≤ K.length + 1) : Mk T K (afterF D.F (doD D 0 K).ev sf klen kf h) := by
  have hl := doD_len D 0 K
  rw [hE] at hl
  have hsame : ∀ m j, j < 256 → (∀ i, i < K.length → K.getD i 0 ≠ m) → afterF D.F (doD D 0 K).ev sf klen kf h (m * 256 + j) = D.F (m * 256 + j) := fun m j hj hk => by
    have := aft_none (s := 12) D.F (doD D 0 K).ev sf klen kf 0 m j hj h (fun i _ hi => hok i (by rw [hl]; simp; omega)) (fun i _ hi => by
      by_cases e : i < K.length
      · have := doD_ev D 0 K i e
        rw [hE] at this
        rw [show i = ([] : List Ev).length + i by simp, this]
        have := hk i e
        show ((K.getD i 0 : Nat) : Int) ≠ _
        omega
      · have := doD_f1 D 0 K
        rw [hE] at this
        rw [show i = ([] : List Ev).length + K.length by simp; omega, this]
        show (-1 : Int) ≠ _
        omega)
    rw [Nat.zero_add] at this
    rw [this]
    rfl
  have hlow : ∀ m, m < 4 → ∀ i, i < K.length → K.getD i 0 ≠ m := fun m hm i hi => by have := (hM.nums.ge i hi).1; omega
  have hhi := hM.nums.hi
  refine ⟨hM.nums, fun j hj => by rw [hsame 0 j hj (hlow 0 (by omega))]; exact hM.hdr j hj, fun Y hY => hM.all Y ⟨hY.hdr, fun i hi j hj => ?_, fun m hm hk j hj => ?_⟩⟩
  · rw [hY.done i hi j hj]
    exact hsame (1 + i) j hj (hlow _ (by omega))
  · rw [hY.rest m hm hk j hj]
    exact hsame m j hj hk
end Go.Proofs.Ytlbapnecmhlgmaa
