/- A power loss on the document's side; what Open makes of a disk is one thing. Events of a commit; what a journal that is opened shows. The states that are sure, and what each power loss leaves. Open behind a power loss; a disk stays where another changes. -/
import Derived.Test.YtlbapnecmhlgmaaM18
import Derived.Test.YtlbapnecmhlgmaaM17
namespace Go.Proofs.Ytlbapnecmhlgmaa
open Go.RowKit

theorem opened_uniq {D D1 D2 : Dk} {A sec : Nat} (h1 : opened D A sec D1) (h2 : opened D A sec D2) : D1 = D2 := by
  rcases h1 with ⟨c1, s1, rfl⟩ | ⟨n1, rfl⟩ <;> rcases h2 with ⟨c2, s2, rfl⟩ | ⟨n2, rfl⟩
  · obtain rfl : c1 = c2 := by
      have := s1.count.symm.trans s2.count
      omega
    rfl
  · exact absurd s1 (n2 c1)
  · exact absurd s2 (n1 c2)
  · rfl
theorem ev_n {D : Dk} {R : Rk} (h : Twin D R) (ho : D.ok) (k : Nat) (hk : k ≤ D.E.length) : ∀ i, i < k → (R.ev i).n < 0 ∨ (0 ≤ (R.ev i).n ∧ (R.ev i).n < R.F.length) := by
  intro i hi
  rw [h.ev i (by omega), h.len]
  have hm : D.ev i ∈ D.E := by
    unfold Dk.ev
    simp only [List.getD, List.getElem?_eq_getElem (show i < D.E.length by omega), Option.getD_some]
    exact List.getElem_mem _
  have he := (ho.E _ hm).2
  show (D.ev i).n < 0 ∨ (0 ≤ (D.ev i).n ∧ (D.ev i).n < D.s)
  rcases he with e | e
  · left
    rw [e]
    decide
  · exact .inr e
/-- After of the document's disk. -/
theorem rafter_ok {w0 w : World} {base gr : Nat} {fv : Value} {D : Dk} (h : RJ w0 base gr fv D w) (k : Nat) (hk : k ≤ D.E.length) (hL : D.E.length ≤ 1000000)
    (ka : Option Addr) (kb koff klen kcap : Nat) (kf : Nat → Bool) (hK : Bl w ka kb koff klen kf) (hkl : klen ≤ 140737488351232) (hok : (D.after k klen kf).ok) :
    Calls Try.prog 45 #[.pointer (some ⟨gr, 0, none⟩), .int .i64 k, .slice ka klen kcap] w fun e w' => ∃ g' fv', e = .returned (.tuple #[.pointer (some ⟨g', 0, none⟩), .int .i64 0]) ∧ RJ w' w.heap.size g' fv' (D.after k klen kf) w' ∧ Below w.heap.size w w' := by
  obtain ⟨rv, R, Fl, h1, h2, h3⟩ := h.ref
  have hlo := h.ok.lo
  have hhi := h.ok.hi
  refine (refAfter_ok h1 k (by rw [h2.llen]; exact hk) (by rw [h2.llen]; exact hL) (by rw [h2.len]; exact hlo) (by rw [h2.len]; omega) (ev_n h2 h.ok k hk) ka kb koff klen kcap kf hK hkl).mono ?_
  rintro e w' ⟨g', fv', he, hR, hb⟩
  exact ⟨g', fv', he, ⟨⟨_, _, _, hR, h2.after h.ok k klen kf hk, hist_fresh _ _⟩, hok, FrR.refl _, Below.refl _ _⟩, hb⟩
end Go.Proofs.Ytlbapnecmhlgmaa
namespace Go.Proofs.Ytlbapnecmhlgmaa
open Go.RowKit

theorem write_old (D : Dk) (n : Nat) (f : Nat → Int) (i : Nat) (h : i < D.E.length) : (D.write n f).ev i = D.ev i := ev_pre _ _ _ _ _ _ _ _ i h
theorem write_last (D : Dk) (n : Nat) (f : Nat → Int) : (D.write n f).ev D.E.length = ⟨n, f⟩ := ev_last _ _ _ _ _
theorem flush_old (D : Dk) (i : Nat) (h : i < D.E.length) : D.flush.ev i = D.ev i := ev_pre _ _ _ _ _ _ _ _ i h
theorem flush_last (D : Dk) : D.flush.ev D.E.length = flushEv := ev_last _ _ _ _ _
theorem write_len (D : Dk) (n : Nat) (f : Nat → Int) : (D.write n f).E.length = D.E.length + 1 := by
  show (D.E ++ [_]).length = _
  simp
theorem flush_len (D : Dk) : D.flush.E.length = D.E.length + 1 := by
  show (D.E ++ [_]).length = _
  simp
theorem wrN_old (D : Dk) (at' : Nat) (L : List Pt) (K : List Nat) (i : Nat) (h : i < D.E.length) : ∀ n, (wrN D at' L K n).ev i = D.ev i
  | 0 => rfl
  | n + 1 => by rw [wrN, write_old _ _ _ _ (by rw [wrN_len]; omega)]; exact wrN_old D at' L K i h n
theorem wrN_ev (D : Dk) (at' : Nat) (L : List Pt) (K : List Nat) (i : Nat) : ∀ n, i < n → (wrN D at' L K n).ev (D.E.length + i) = ⟨((at' + 1 + i : Nat) : Int), lookD L (K.getD i 0)⟩
  | 0, h => by omega
  | n + 1, h => by
    rw [wrN]
    by_cases e : i = n
    · subst e
      rw [← wrN_len D at' L K i, write_last]
    · rw [write_old _ _ _ _ (by rw [wrN_len]; omega)]
      exact wrN_ev D at' L K i n (by omega)
theorem doN_old (D : Dk) (at' : Nat) (K : List Nat) (i : Nat) (h : i < D.E.length) : ∀ n, (doN D at' K n).ev i = D.ev i
  | 0 => rfl
  | n + 1 => by rw [doN, write_old _ _ _ _ (by rw [doN_len]; omega)]; exact doN_old D at' K i h n
theorem doN_ev (D : Dk) (at' : Nat) (K : List Nat) (i : Nat) : ∀ n, i < n → (doN D at' K n).ev (D.E.length + i) = ⟨(K.getD i 0 : Nat), secF (doN D at' K i).B (at' + 1 + i)⟩
  | 0, h => by omega
  | n + 1, h => by
    rw [doN]
    by_cases e : i = n
    · subst e
      rw [← doN_len D at' K i, write_last]
    · rw [write_old _ _ _ _ (by rw [doN_len]; omega)]
      exact doN_ev D at' K i n (by omega)
theorem over_at (B : Nat → Int) (n m j : Nat) (f : Nat → Int) (hj : j < 256) : over B n f (m * 256 + j) = if m = n then f j else B (m * 256 + j) := by
  unfold over
  split
  · rw [if_pos (by omega)]
    congr 1
    have : m = n := by omega
    subst this
    omega
  · rw [if_neg (by omega)]
theorem doN_rest (D : Dk) (at' : Nat) (K : List Nat) (m j : Nat) (hj : j < 256) : ∀ n, (∀ i, i < n → K.getD i 0 ≠ m) → (doN D at' K n).B (m * 256 + j) = D.B (m * 256 + j)
  | 0, _ => rfl
  | n + 1, h => by
    show over _ _ _ _ = _
    rw [over_at _ _ _ _ _ hj, if_neg (fun e => h n (by omega) e.symm)]
    exact doN_rest D at' K m j hj n (fun i hi => h i (by omega))
theorem wrN_data (D : Dk) (at' : Nat) (L : List Pt) (K : List Nat) (i j : Nat) (hj : j < 256) : ∀ n, i < n → (wrN D at' L K n).B ((at' + 1 + i) * 256 + j) = lookD L (K.getD i 0) j
  | 0, h => by omega
  | n + 1, h => by
    show over _ _ _ _ = _
    rw [over_at _ _ _ _ _ hj]
    by_cases e : i = n
    · subst e
      rw [if_pos rfl]
    · rw [if_neg (by omega)]
      exact wrN_data D at' L K i j hj n (by omega)

theorem doD_old (D : Dk) (at' : Nat) (K : List Nat) (i : Nat) (h : i < D.E.length) : (doD D at' K).ev i = D.ev i := by
  unfold doD
  rw [flush_old _ _ (by rw [write_len, flush_len, doN_len]; omega), write_old _ _ _ _ (by rw [flush_len, doN_len]; omega), flush_old _ _ (by rw [doN_len]; omega), doN_old _ _ _ _ h]
theorem doD_ev (D : Dk) (at' : Nat) (K : List Nat) (i : Nat) (h : i < K.length) : (doD D at' K).ev (D.E.length + i) = ⟨(K.getD i 0 : Nat), secF (doN D at' K i).B (at' + 1 + i)⟩ := by
  unfold doD
  rw [flush_old _ _ (by rw [write_len, flush_len, doN_len]; omega), write_old _ _ _ _ (by rw [flush_len, doN_len]; omega), flush_old _ _ (by rw [doN_len]; omega), doN_ev _ _ _ _ _ h]
theorem doD_f1 (D : Dk) (at' : Nat) (K : List Nat) : (doD D at' K).ev (D.E.length + K.length) = flushEv := by
  unfold doD
  rw [flush_old _ _ (by rw [write_len, flush_len, doN_len]; omega), write_old _ _ _ _ (by rw [flush_len, doN_len]; omega), ← doN_len D at' K K.length, flush_last]
theorem doD_zero (D : Dk) (at' : Nat) (K : List Nat) : (doD D at' K).ev (D.E.length + K.length + 1) = ⟨at', fun _ => 0⟩ := by
  unfold doD
  rw [flush_old _ _ (by rw [write_len, flush_len, doN_len]; omega), ← doN_len D at' K K.length, ← flush_len, write_last]
theorem doD_f2 (D : Dk) (at' : Nat) (K : List Nat) : (doD D at' K).ev (D.E.length + K.length + 2) = flushEv := by
  unfold doD
  rw [← doN_len D at' K K.length, show (doN D at' K K.length).E.length + 2 = ((doN D at' K K.length).flush.write at' fun _ => 0).E.length by rw [write_len, flush_len], flush_last]
theorem hdD_old (D : Dk) (at' : Nat) (L : List Pt) (K : List Nat) (i : Nat) (h : i < D.E.length) : (hdD D at' L K).ev i = D.ev i := by
  unfold hdD
  rw [flush_old _ _ (by rw [write_len, flush_len, wrN_len]; omega), write_old _ _ _ _ (by rw [flush_len, wrN_len]; omega), flush_old _ _ (by rw [wrN_len]; omega), wrN_old _ _ _ _ _ h]
theorem hdD_ev (D : Dk) (at' : Nat) (L : List Pt) (K : List Nat) (i : Nat) (h : i < K.length) : (hdD D at' L K).ev (D.E.length + i) = ⟨((at' + 1 + i : Nat) : Int), lookD L (K.getD i 0)⟩ := by
  unfold hdD
  rw [flush_old _ _ (by rw [write_len, flush_len, wrN_len]; omega), write_old _ _ _ _ (by rw [flush_len, wrN_len]; omega), flush_old _ _ (by rw [wrN_len]; omega), wrN_ev _ _ _ _ _ _ h]
theorem hdD_f1 (D : Dk) (at' : Nat) (L : List Pt) (K : List Nat) : (hdD D at' L K).ev (D.E.length + K.length) = flushEv := by
  unfold hdD
  rw [flush_old _ _ (by rw [write_len, flush_len, wrN_len]; omega), write_old _ _ _ _ (by rw [flush_len, wrN_len]; omega), ← wrN_len D at' L K K.length, flush_last]
theorem hdD_hdr (D : Dk) (at' : Nat) (L : List Pt) (K : List Nat) : (hdD D at' L K).ev (D.E.length + K.length + 1) = ⟨at', hdr K⟩ := by
  unfold hdD
  rw [flush_old _ _ (by rw [write_len, flush_len, wrN_len]; omega), ← wrN_len D at' L K K.length, ← flush_len, write_last]
theorem hdD_f2 (D : Dk) (at' : Nat) (L : List Pt) (K : List Nat) : (hdD D at' L K).ev (D.E.length + K.length + 2) = flushEv := by
  unfold hdD
  rw [← wrN_len D at' L K K.length, show (wrN D at' L K K.length).E.length + 2 = ((wrN D at' L K K.length).flush.write at' (hdr K)).E.length by rw [write_len, flush_len], flush_last]

/-- The numbers of a commit. -/
structure Nums (K : List Nat) : Prop where
  lo : 1 ≤ K.length
  hi : K.length ≤ 3
  up : ∀ i j, i < j → j < K.length → K.getD i 0 < K.getD j 0
  ge : ∀ i, i < K.length → 4 ≤ K.getD i 0 ∧ K.getD i 0 < 12
theorem Nums.inj {K : List Nat} (h : Nums K) (i j : Nat) (hi : i < K.length) (hj : j < K.length) (e : K.getD i 0 = K.getD j 0) : i = j := by
  rcases Nat.lt_trichotomy i j with h1 | h1 | h1
  · have := h.up i j h1 hj; omega
  · exact h1
  · have := h.up j i h1 hi; omega
theorem hdD_data (D : Dk) (L : List Pt) (K : List Nat) (i j : Nat) (hj : j < 256) (h : i < K.length) : (hdD D 0 L K).B ((1 + i) * 256 + j) = lookD L (K.getD i 0) j := by
  show over _ 0 _ _ = _
  rw [over_at _ _ _ _ _ hj, if_neg (by omega)]
  have := wrN_data D 0 L K i j hj K.length h
  rwa [show 0 + 1 + i = 1 + i by omega] at this
theorem com_old (D : Dk) (L : List Pt) (K : List Nat) (i : Nat) (h : i < D.E.length) : (comD D 0 L K).ev i = D.ev i := by
  unfold comD
  rw [doD_old _ _ _ _ (by rw [hdD_len]; omega), hdD_old _ _ _ _ _ h]
theorem com_blk (D : Dk) (L : List Pt) (K : List Nat) (hK : Nums K) : Blk (comD D 0 L K).ev D.E.length K.length (fun i => K.getD i 0) (fun i => lookD L (K.getD i 0)) (hdr K) := by
  have hl := hdD_len D 0 L K
  unfold comD
  refine ⟨fun i hi => ?_, ?_, ?_, ?_, fun i hi => ?_, ?_, ?_, ?_⟩
  · rw [doD_old _ _ _ _ (by omega), hdD_ev _ _ _ _ _ hi, show 0 + 1 + i = 1 + i by omega]
  · rw [doD_old _ _ _ _ (by omega), hdD_f1]
  · rw [doD_old _ _ _ _ (by omega), hdD_hdr]; rfl
  · rw [doD_old _ _ _ _ (by omega), hdD_f2]
  · rw [← hl, doD_ev _ _ _ _ hi]
    refine ⟨rfl, fun j hj => ?_⟩
    show (doN (hdD D 0 L K) 0 K i).B ((0 + 1 + i) * 256 + j) = _
    rw [doN_rest _ _ _ _ _ hj _ (fun q hq => by have := (hK.ge q (by omega)).1; have := hK.hi; omega), show 0 + 1 + i = 1 + i by omega]
    exact hdD_data D L K i j hj hi
  · rw [← hl, doD_f1]
  · rw [← hl, doD_zero]; rfl
  · rw [← hl, doD_f2]

theorem shN_congr (A B : Nat → Int) : ∀ n, (∀ m, 4 ≤ m → m < 4 + n → ∀ j, j < 256 → A (m * 256 + j) = B (m * 256 + j)) → shN A n = shN B n
  | 0, _ => rfl
  | n + 1, h => by
    rw [shN, shN, shN_congr A B n (fun m h1 h2 => h m h1 (by omega)), show S A (4 + n) = S B (4 + n) from sStr_congr _ _ (fun j hj => h (4 + n) (by omega) (by omega) j hj)]
theorem newB_same {B0 Y Z : Nat → Int} {n : Nat} {K : Nat → Nat} {d : Nat → Nat → Int} (h : NewB B0 n K d Y) (h' : NewB B0 n K d Z) : shN Y 8 = shN Z 8 := shN_congr _ _ 8 fun m hm _ j hj => by
  by_cases hk : ∀ i, i < n → K i ≠ m
  · rw [h.rest m hm hk j hj, h'.rest m hm hk j hj]
  · have ⟨i, hi⟩ := Classical.not_forall.1 hk
    have ⟨hin, he⟩ := Classical.not_imp.1 hi
    have he := Classical.not_not.1 he
    rw [← he, h.done i hin j hj, h'.done i hin j hj]

/-- A header that stands, and what is shown when its numbers are done. -/
structure Mk (T : ByteArray) (K : List Nat) (X : Nat → Int) : Prop where
  nums : Nums K
  hdr : ∀ j, j < 256 → X (0 * 256 + j) = hdr K j
  all : ∀ Y, NewB X K.length (fun i => K.getD i 0) (fun i j => X ((1 + i) * 256 + j)) Y → shN Y 8 = T
/-- Opened, the disk shows T. -/
def Rec (T : ByteArray) (X : Nat → Int) : Prop := (unmarked (secF X 0) ∧ shN X 8 = T) ∨ ∃ K, Mk T K X
theorem NewB.unmarked {B0 X : Nat → Int} {n : Nat} {K : Nat → Nat} {d : Nat → Nat → Int} (h : NewB B0 n K d X) : unmarked (secF X 0) := unmarked_zero _ (fun j hj => h.hdr j (by omega))
theorem OldB.unmarked {B0 X : Nat → Int} (h : OldB B0 X) : Ytlbapnecmhlgmaa.unmarked (secF X 0) := unmarked_zero _ (fun j hj => h.hdr j (by omega))
theorem OldB.shows {B0 X : Nat → Int} (h : OldB B0 X) : shN X 8 = shN B0 8 := shN_congr _ _ 8 fun m hm _ j hj => h.rest m hm j hj
theorem mid_new {B0 X Y : Nat → Int} {n : Nat} {K : Nat → Nat} {d : Nat → Nat → Int} {h : Nat → Int} (hM : MidB B0 n K d h X) (hY : NewB X n K (fun i j => X ((1 + i) * 256 + j)) Y) : NewB B0 n K d Y :=
  ⟨hY.hdr, fun i hi j hj => by rw [hY.done i hi j hj]; exact hM.data i hi j hj, fun m hm hk j hj => by rw [hY.rest m hm hk j hj]; exact hM.rest m hm hk j hj⟩
/-- Its numbers done, a disk is new. -/
theorem doD_new (D : Dk) (K : List Nat) (hK : Nums K) : NewB D.B K.length (fun i => K.getD i 0) (fun i j => D.B ((1 + i) * 256 + j)) (doD D 0 K).B := by
  have hB : ∀ m j, j < 256 → m ≠ 0 → (doD D 0 K).B (m * 256 + j) = (doN D 0 K K.length).B (m * 256 + j) := fun m j hj hm => by
    have e : (doD D 0 K).B = over (doN D 0 K K.length).B 0 (fun _ => 0) := rfl
    rw [e, over_at _ _ _ _ _ hj, if_neg hm]
  refine ⟨fun j hj => ?_, fun i hi j hj => ?_, fun m hm hk j hj => ?_⟩
  · have e : (doD D 0 K).B = over (doN D 0 K K.length).B 0 (fun _ => 0) := rfl
    rw [e, over_at _ _ _ _ _ hj, if_pos rfl]
  · have h4 := (hK.ge i hi).1
    show (doD D 0 K).B (K.getD i 0 * 256 + j) = _
    rw [hB _ _ hj (by omega)]
    have : ∀ n, i < n → n ≤ K.length → (doN D 0 K n).B (K.getD i 0 * 256 + j) = D.B ((1 + i) * 256 + j) := fun n => by
      induction n with
      | zero => intro h; omega
      | succ n ih =>
        intro h h2
        show over _ _ _ _ = _
        rw [over_at _ _ _ _ _ hj]
        by_cases e : i = n
        · subst e
          rw [if_pos rfl]
          show (doN D 0 K i).B ((0 + 1 + i) * 256 + j) = _
          rw [doN_rest _ _ _ _ _ hj _ (fun q hq => by have := (hK.ge q (by omega)).1; have := hK.hi; omega), show 0 + 1 + i = 1 + i by omega]
        · rw [if_neg (fun e2 => e (hK.inj i n hi (by omega) e2))]
          exact ih (by omega) (by omega)
    exact this _ hi (Nat.le_refl _)
  · rw [hB _ _ hj (by omega)]
    exact doN_rest _ _ _ _ _ hj _ hk
/-- In the midst of it, too, the header stands. -/
theorem doD_half {T : ByteArray} {K : List Nat} {D : Dk} (hM : Mk T K D.F) (hE : D.E = []) (hok : ∀ i, i < (doD D 0 K).E.length → ((doD D 0 K).ev i).ok 12) (klen : Nat) (kf : Nat → Bool) (sf h : Nat) (hh : h ≤ K.length + 1) : Mk T K (afterF D.F (doD D 0 K).ev sf klen kf h) := by
  have hl := doD_len D 0 K
  rw [hE] at hl
  have hsame : ∀ m j, j < 256 → (∀ i, i < K.length → K.getD i 0 ≠ m) → afterF D.F (doD D 0 K).ev sf klen kf h (m * 256 + j) = D.F (m * 256 + j) := fun m j hj hk => by
    have := aft_none (s := 12) D.F (doD D 0 K).ev sf klen kf 0 m j hj h (fun i _ hi => hok i (by rw [hl]; simp; omega)) (fun i _ hi => by
      by_cases e : i < K.length
      · have := doD_ev D 0 K i e
        rw [hE] at this
        rw [show i = ([] : List Ev).length + i by simp, this]
        have := hk i e
        show ((K.getD i 0 : Nat) : Int) ≠ _
        omega
      · have := doD_f1 D 0 K
        rw [hE] at this
        rw [show i = ([] : List Ev).length + K.length by simp; omega, this]
        show (-1 : Int) ≠ _
        omega)
    rw [Nat.zero_add] at this
    rw [this]
    rfl
  have hlow : ∀ m, m < 4 → ∀ i, i < K.length → K.getD i 0 ≠ m := fun m hm i hi => by have := (hM.nums.ge i hi).1; omega
  have hhi := hM.nums.hi
  refine ⟨hM.nums, fun j hj => by rw [hsame 0 j hj (hlow 0 (by omega))]; exact hM.hdr j hj, fun Y hY => hM.all Y ⟨hY.hdr, fun i hi j hj => ?_, fun m hm hk j hj => ?_⟩⟩
  · rw [hY.done i hi j hj]
    exact hsame (1 + i) j hj (hlow _ (by omega))
  · rw [hY.rest m hm hk j hj]
    exact hsame m j hj hk
end Go.Proofs.Ytlbapnecmhlgmaa
namespace Go.Proofs.Ytlbapnecmhlgmaa
open Go.RowKit

theorem ev_ok12 (D : Dk) (h : ∀ e ∈ D.E, e.ok D.s) (i : Nat) (hi : i < D.E.length) : (D.ev i).ok D.s := by
  apply h
  unfold Dk.ev
  rw [List.getD_eq_getElem?_getD, List.getElem?_eq_getElem hi]
  exact List.getElem_mem hi
theorem aft_congr (F : Nat → Int) (E E' : Nat → Ev) (sf klen : Nat) (kf : Nat → Bool) : ∀ n, (∀ i, i < n → E i = E' i) → afterF F E sf klen kf n = afterF F E' sf klen kf n
  | 0, _ => rfl
  | n + 1, h => by rw [afterF, afterF, h n (by omega), aft_congr F E E' sf klen kf n (fun i hi => h i (by omega))]
abbrev lossF (D : Dk) (cut klen : Nat) (kf : Nat → Bool) : Nat → Int := afterF D.F D.ev (safeN D.ev cut) klen kf cut
/-- The history of a disk with a journal. -/
structure Hs (D : Dk) (sts : List ByteArray) (ends : List Nat) : Prop where
  s12 : D.s = 12
  len : ends.length = sts.length
  pos : 0 < sts.length
  lastE : ends.getD (sts.length - 1) 0 = D.E.length
  lastS : sts.getD (sts.length - 1) ⟨#[]⟩ = shN D.B 8
  first : ends.getD 0 0 = 0
  bound : ∀ k, ends.getD k 0 ≤ D.E.length
  now : D.B = redoAll D.F D.ev D.E.length
  hdr : ∀ j, j < 256 → D.B (0 * 256 + j) = 0
  fl : D.E.length = 0 ∨ (D.ev (D.E.length - 1)).isFl = true
  loss : ∀ cut, cut ≤ D.E.length → ∀ k, k < sts.length → ends.getD k 0 ≤ cut → (k + 1 < sts.length → cut < ends.getD (k + 1) 0) → ∀ klen kf, Rec (sts.getD k ⟨#[]⟩) (lossF D cut klen kf) ∨ (k + 1 < sts.length ∧ Rec (sts.getD (k + 1) ⟨#[]⟩) (lossF D cut klen kf))
theorem getD_snoc_old {α : Type} (l : List α) (x d : α) (k : Nat) (h : k < l.length) : (l ++ [x]).getD k d = l.getD k d := by
  simp [List.getD, List.getElem?_append_left h]
theorem getD_snoc_last {α : Type} (l : List α) (x d : α) : (l ++ [x]).getD l.length d = x := by
  simp [List.getD]
theorem Hs.start : Hs (freshD 12 fun _ => 0) [shN (fun _ => 0) 8] [0] :=
  ⟨rfl, rfl, by decide, rfl, rfl, rfl, fun k => by cases k <;> simp [List.getD], rfl, fun _ _ => rfl, .inl rfl, fun cut hc k hk _ _ klen kf => by
    have h0 : cut = 0 := Nat.le_zero.1 hc
    have hk0 : k = 0 := by simp at hk; omega
    subst h0 hk0
    exact .inl (.inl ⟨unmarked_zero _ (fun _ _ => rfl), rfl⟩)⟩
/-- A commit of nothing. -/
theorem Hs.same {D : Dk} {sts : List ByteArray} {ends : List Nat} (h : Hs D sts ends) : Hs D (sts ++ [shN D.B 8]) (ends ++ [D.E.length]) := by
  have hp := h.pos
  have hl := h.len
  have el : ∀ k, k < sts.length → (ends ++ [D.E.length]).getD k 0 = ends.getD k 0 := fun k hk => getD_snoc_old _ _ _ _ (by omega)
  have eL : (ends ++ [D.E.length]).getD sts.length 0 = D.E.length := by rw [← hl]; exact getD_snoc_last _ _ _
  have sl : ∀ k, k < sts.length → (sts ++ [shN D.B 8]).getD k ⟨#[]⟩ = sts.getD k ⟨#[]⟩ := fun k hk => getD_snoc_old _ _ _ _ hk
  have sL : (sts ++ [shN D.B 8]).getD sts.length ⟨#[]⟩ = shN D.B 8 := getD_snoc_last _ _ _
  have hlen : (sts ++ [shN D.B 8]).length = sts.length + 1 := by simp
  refine ⟨h.s12, by simp [hl], by omega, ?_, ?_, ?_, fun k => ?_, h.now, h.hdr, h.fl, fun cut hc k hk hlo hhi klen kf => ?_⟩
  · rw [hlen]; exact eL
  · rw [hlen]; exact sL
  · rw [el 0 hp]; exact h.first
  · rcases Nat.lt_trichotomy k sts.length with h1 | h1 | h1
    · rw [el k h1]; exact h.bound k
    · rw [h1, eL]; exact Nat.le_refl _
    · rw [List.getD_eq_getElem?_getD, List.getElem?_eq_none (by simp; omega)]; exact Nat.zero_le _
  · rw [hlen] at hk hhi ⊢
    rcases Nat.lt_or_ge k (sts.length - 1) with h1 | h1
    · rw [el k (by omega)] at hlo
      have h2 := hhi (by omega)
      rw [el (k + 1) (by omega)] at h2
      rw [sl k (by omega), sl (k + 1) (by omega)]
      rcases h.loss cut hc k (by omega) hlo (fun _ => h2) klen kf with h3 | ⟨_, h3⟩
      · exact .inl h3
      · exact .inr ⟨by omega, h3⟩
    · rcases Nat.lt_or_ge k sts.length with h2 | h2
      · -- the old last: its end is the new one's, too
        have h3 := hhi (by omega)
        rw [show k + 1 = sts.length by omega, eL] at h3
        rw [show k = sts.length - 1 by omega, el _ (by omega), h.lastE] at hlo
        omega
      · have hk' : k = sts.length := by omega
        subst hk'
        rw [eL] at hlo
        rw [sL, ← h.lastS]
        rcases h.loss cut hc (sts.length - 1) (by omega) (by rw [h.lastE]; exact hlo) (fun h5 => by omega) klen kf with h3 | ⟨h4, _⟩
        · exact .inl h3
        · omega
/-- A commit. -/
theorem Hs.commit {D : Dk} {sts : List ByteArray} {ends : List Nat} (h : Hs D sts ends) (L : List Pt) (K : List Nat) (hK : Nums K) (hok : ∀ e ∈ (comD D 0 L K).E, e.ok 12) (hnow : (comD D 0 L K).B = redoAll D.F (comD D 0 L K).ev (comD D 0 L K).E.length) (hF : (comD D 0 L K).F = D.F) :
    Hs (comD D 0 L K) (sts ++ [shN (comD D 0 L K).B 8]) (ends ++ [(comD D 0 L K).E.length]) := by
  have hp := h.pos
  have hl := h.len
  have hcl := comD_len D 0 L K
  have hB := com_blk D L K hK
  have hold := com_old D L K
  have hcs : (comD D 0 L K).s = 12 := (comD_s D 0 L K).trans h.s12
  have hoke : ∀ i, i < (comD D 0 L K).E.length → ((comD D 0 L K).ev i).ok 12 := fun i hi => by
    have := ev_ok12 (comD D 0 L K) (by rw [hcs]; exact hok) i hi
    rwa [hcs] at this
  generalize hDD : comD D 0 L K = D' at *
  have hred : redoAll D.F D'.ev D.E.length = D.B := by
    rw [h.now]
    exact redoAll_congr _ _ _ _ hold
  have hst : D.E.length = 0 ∨ (D'.ev (D.E.length - 1)).isFl = true := by
    rcases h.fl with h1 | h1
    · exact .inl h1
    · rcases Nat.eq_zero_or_pos D.E.length with h2 | h2
      · exact .inl h2
      · exact .inr (by rw [hold _ (by omega)]; exact h1)
  have hcr := fun (p : Nat) (hp : p ≤ K.length + 3 + K.length + 3) (klen : Nat) (kf : Nat → Bool) => crash (s := 12) (F := D.F) hB hK.hi (fun i hi => (hK.ge i hi).1) (fun i j hi hj e => hK.inj i j hi hj e) p hp (fun i hi => hoke i (by omega)) hst (by rw [hred]; exact h.hdr) klen kf
  have hnew : NewB D.B K.length (fun i => K.getD i 0) (fun i => lookD L (K.getD i 0)) D'.B := by
    rcases hcr (K.length + 3 + K.length + 3) (Nat.le_refl _) 0 (fun _ => true) with h1 | h1 | h1
    · exact absurd rfl h1.1
    · exact absurd rfl h1.1
    · rw [hred, aft_all _ _ _ _ _ _ (by
        have := safe_ge D'.ev (D.E.length + K.length + 3 + K.length + 2) (D.E.length + (K.length + 3 + K.length + 3)) (by omega) (by rw [hB.f4]; rfl)
        omega), show D.E.length + (K.length + 3 + K.length + 3) = D'.E.length by omega, ← hnow] at h1
      exact h1
  have el : ∀ k, k < sts.length → (ends ++ [D'.E.length]).getD k 0 = ends.getD k 0 := fun k hk => getD_snoc_old _ _ _ _ (by omega)
  have eL : (ends ++ [D'.E.length]).getD sts.length 0 = D'.E.length := by rw [← hl]; exact getD_snoc_last _ _ _
  have sl : ∀ k, k < sts.length → (sts ++ [shN D'.B 8]).getD k ⟨#[]⟩ = sts.getD k ⟨#[]⟩ := fun k hk => getD_snoc_old _ _ _ _ hk
  have sL : (sts ++ [shN D'.B 8]).getD sts.length ⟨#[]⟩ = shN D'.B 8 := getD_snoc_last _ _ _
  have hlen : (sts ++ [shN D'.B 8]).length = sts.length + 1 := by simp
  refine ⟨hcs, by simp [hl], by omega, ?_, ?_, ?_, fun k => ?_, by rw [hF]; exact hnow, hnew.hdr, .inr ?_, fun cut hc k hk hlo hhi klen kf => ?_⟩
  · rw [hlen]; exact eL
  · rw [hlen]; exact sL
  · rw [el 0 hp]; exact h.first
  · rcases Nat.lt_trichotomy k sts.length with h1 | h1 | h1
    · rw [el k h1]; have := h.bound k; omega
    · rw [h1, eL]; exact Nat.le_refl _
    · rw [List.getD_eq_getElem?_getD, List.getElem?_eq_none (by simp; omega)]; exact Nat.zero_le _
  · rw [show D'.E.length - 1 = D.E.length + K.length + 3 + K.length + 2 by omega, hB.f4]; rfl
  · rw [hlen] at hk hhi ⊢
    rcases Nat.lt_or_ge k (sts.length - 1) with h1 | h1
    · -- within the old history
      rw [el k (by omega)] at hlo
      have h2 := hhi (by omega)
      rw [el (k + 1) (by omega)] at h2
      have h2b := h.bound (k + 1)
      rw [sl k (by omega), sl (k + 1) (by omega)]
      have heq : lossF D' cut klen kf = lossF D cut klen kf := by
        unfold lossF
        rw [hF, safeN_congr D'.ev D.ev cut (fun i hi => hold i (by omega))]
        exact aft_congr _ _ _ _ _ _ _ (fun i hi => hold i (by omega))
      rw [heq]
      rcases h.loss cut (by omega) k (by omega) hlo (fun _ => h2) klen kf with h3 | ⟨_, h3⟩
      · exact .inl h3
      · exact .inr ⟨by omega, h3⟩
    · have hge : D.E.length ≤ cut := by
        rcases Nat.lt_or_ge k sts.length with h2 | h2
        · rw [show k = sts.length - 1 by omega, el _ (by omega), h.lastE] at hlo
          exact hlo
        · rw [show k = sts.length by omega, eL] at hlo
          omega
      have hX : lossF D' cut klen kf = afterF D.F D'.ev (safeN D'.ev (D.E.length + (cut - D.E.length))) klen kf (D.E.length + (cut - D.E.length)) := by
        rw [show D.E.length + (cut - D.E.length) = cut by omega, ← hF]
      have hc3 := hcr (cut - D.E.length) (by omega) klen kf
      rw [← hX, hred] at hc3
      have hnewR : ∀ X, NewB D.B K.length (fun i => K.getD i 0) (fun i => lookD L (K.getD i 0)) X → Rec (shN D'.B 8) X := fun X hX => .inl ⟨hX.unmarked, newB_same hX hnew⟩
      rcases Nat.lt_or_ge k sts.length with h2 | h2
      · have hk' : k = sts.length - 1 := by omega
        rw [hk', sl _ (by omega), h.lastS, show sts.length - 1 + 1 = sts.length by omega, sL]
        rcases hc3 with ⟨_, h3⟩ | ⟨_, h3⟩ | h3
        · exact .inl (.inl ⟨h3.unmarked, h3.shows⟩)
        · exact .inr ⟨by omega, .inr ⟨K, hK, h3.hdr, fun Y hY => newB_same (mid_new h3 hY) hnew⟩⟩
        · exact .inr ⟨by omega, hnewR _ h3⟩
      · have hk' : k = sts.length := by omega
        rw [hk', eL] at hlo
        rw [hk', sL]
        rcases hc3 with ⟨h3, _⟩ | ⟨h3, _⟩ | h3
        · omega
        · omega
        · exact .inl (hnewR _ h3)
end Go.Proofs.Ytlbapnecmhlgmaa
namespace Go.Proofs.Ytlbapnecmhlgmaa
open Go.RowKit

theorem getD_bd {K : List Nat} (h : Nums K) (i : Nat) : K.getD i 0 < 9223372036854775808 := by
  rcases Nat.lt_or_ge i K.length with h1 | h1
  · have := (h.ge i h1).2; omega
  · rw [List.getD_eq_getElem?_getD, List.getElem?_eq_none h1]; decide
theorem doN_F (D : Dk) (at' : Nat) (K : List Nat) : ∀ n, (doN D at' K n).F = D.F
  | 0 => rfl
  | n + 1 => doN_F D at' K n
theorem doD_F (D : Dk) (at' : Nat) (K : List Nat) : (doD D at' K).F = D.F := doN_F D at' K _
theorem wrN_F (D : Dk) (at' : Nat) (L : List Pt) (K : List Nat) : ∀ n, (wrN D at' L K n).F = D.F
  | 0 => rfl
  | n + 1 => wrN_F D at' L K n
theorem comD_F (D : Dk) (at' : Nat) (L : List Pt) (K : List Nat) : (comD D at' L K).F = D.F := (doD_F _ _ _).trans (wrN_F D at' L K _)
/-- What has been opened. -/
structure Opn (T : ByteArray) (D D' : Dk) : Prop where
  s12 : D'.s = 12
  len : D'.E.length ≤ D.E.length + 6
  un : unmarked (secF D'.B 0)
  shows : shN D'.B 8 = T
  half : D.E = [] → D.F = D.B → ∀ klen kf, Rec T (lossF D' (D'.E.length / 2) klen kf)
theorem Opn.rec' {T : ByteArray} {D D' : Dk} (h : Opn T D D') : Rec T D'.B := .inl ⟨h.un, h.shows⟩

theorem open_rec {w : World} {base g1 c1 g2 c2 gd : Nat} {ev : Value} {D : Dk} (hD : DiskAt w base gd g1 c1 g2 c2 ev D) (hbase : base ≤ w.heap.size) (hlen : D.E.length ≤ 1000) (h12 : D.s = 12) (T : ByteArray) (hR : Rec T D.B) :
    Calls Try.prog 10 #[.pointer (some ⟨gd, 0, none⟩), .int .i64 0, .int .i64 4] w fun e w' => ∃ gj ev' D', e = .returned (.tuple #[.pointer (some ⟨gj, 0, none⟩), .int .i64 0]) ∧ Hid (To w w' base gd g1 c1 g2 c2 ev ev' D') ∧ Hid (Fr g2 w w') ∧ Hid (Below base w w') ∧ Hid (Opn T D D') := by
  rcases hR with ⟨hu, hs⟩ | ⟨K, hM⟩
  · refine (open_new hD 0 4 (by omega) (by omega) (by omega) hu).mono ?_
    rintro e w' ⟨gj, gm, rfl, _, hb⟩
    refine ⟨gj, ev, D, rfl, To.after hb (To.refl (hD.below hb (Nat.le_refl _))), Fr.of_below hb, hb.mono hbase, ⟨h12, by omega, hu, hs, fun h1 h2 klen kf => ?_⟩⟩
    show Rec T (afterF D.F D.ev (safeN D.ev (D.E.length / 2)) klen kf (D.E.length / 2))
    rw [h1]
    show Rec T D.F
    rw [h2]
    exact .inl ⟨hu, hs⟩
  · have hn := hM.nums
    have hH : ∀ j, j < 256 → secF D.B 0 j = hdr K j := hM.hdr
    have hlo := hn.lo
    have hhi := hn.hi
    have hw : ∀ i, i < K.length → word (secF D.B 0) (2 + i) = (K.getD i 0 : Nat) := fun i hi => by
      rw [word_congr _ (hdr K) (2 + i) (by omega) hH]
      exact hdrN_word K (getD_bd hn) i K.length hi
    have hc : word (secF D.B 0) 1 = (K.length : Nat) := by
      rw [word_congr _ (hdr K) 1 (by omega) hH]
      exact hdrN_word1 K (by omega) _
    have hL : wordsL (secF D.B 0) K.length = K := by
      apply List.ext_getElem?
      intro i
      rcases Nat.lt_or_ge i K.length with h1 | h1
      · have h2 := wordsL_at (secF D.B 0) K.length i h1
        rw [hw i h1, Int.toNat_natCast, List.getD_eq_getElem?_getD, List.getD_eq_getElem?_getD, List.getElem?_eq_getElem h1, List.getElem?_eq_getElem (by rw [wordsL_len]; exact h1)] at h2
        rw [List.getElem?_eq_getElem h1, List.getElem?_eq_getElem (by rw [wordsL_len]; exact h1)]
        simpa using h2
      · rw [List.getElem?_eq_none h1, List.getElem?_eq_none (by rw [wordsL_len]; exact h1)]
    refine (open_do hD hbase (by omega) 0 4 (by omega) (by omega) (by omega) (hdr_marked K _ hH) K.length hc hlo (by omega) (fun i hi => ⟨?_, ?_, fun h0 => ?_⟩)).mono ?_
    · rw [hw i hi]; have := (hn.ge i hi).2; omega
    · rw [hw i hi]; have := (hn.ge i hi).1; omega
    · rw [hw i hi, hw (i - 1) (by omega)]; have := hn.up (i - 1) i (by omega) hi; omega
    rintro e w' ⟨gj, ev', rfl, hT, hF, hB⟩
    rw [hL] at hT
    have hs : (doD D 0 K).s = 12 := (doD_s D 0 K).trans h12
    have hN := doD_new D K hn
    refine ⟨gj, ev', doD D 0 K, rfl, hT, hF, hB, ⟨hs, by rw [doD_len]; omega, hN.unmarked, hM.all _ hN, fun h1 h2 klen kf => .inr ⟨K, ?_⟩⟩⟩
    show Mk T K (afterF (doD D 0 K).F (doD D 0 K).ev _ klen kf ((doD D 0 K).E.length / 2))
    rw [doD_F]
    refine doD_half (by rw [h2]; exact hM) h1 (fun i hi => ?_) klen kf _ _ (by rw [doD_len, h1]; simp; omega)
    have := ev_ok12 _ hT.disk.ok.E i hi
    rwa [hs] at this

/-- A disk stays where another changes. -/
theorem DiskAt.other {w w' : World} {base g g1 c1 g2 c2 b' q q1 d1 q2 d2 : Nat} {ev ev' : Value} {D D' : Dk} (h : DiskAt w base g g1 c1 g2 c2 ev D) (hX : DiskAt w b' q q1 d1 q2 d2 ev' D') (hc : Chg q q2 ev' w w') (n0 : ev'.ownBlock = none) (n1 : q ≠ g) (n2 : q2 ≠ g1) (n3 : q2 ≠ g2) : DiskAt w' base g g1 c1 g2 c2 ev D := by
  have rq := hX.row
  obtain ⟨_, _, _, _, cq, rq2, _⟩ := ownsRow_slice hX.now
  obtain ⟨_, _, _, _, ca, r1, _⟩ := ownsRow_slice h.first
  obtain ⟨_, _, _, _, cb, r2, _⟩ := ownsRow_slice h.now
  have ne : ∀ k k' C C' t t', Row w k C t → Row w k' C' t' → t ≠ t' → k ≠ k' := fun k k' C C' t t' a1 a2 ht e => by
    subst e
    have := a1.symm.trans a2
    simp at this
    exact ht this.2
  refine h.keep fun k hk => ?_
  rcases hk with rfl | rfl | rfl | hk
  · exact hc.block _ h.row.lt (Ne.symm n1) (ne _ _ _ _ _ _ h.row rq2 (by decide)) (by rw [n0]; exact fun e => nomatch e)
  · exact hc.block _ r1.lt (ne _ _ _ _ _ _ r1 rq (by decide)) (Ne.symm n2) (by rw [n0]; exact fun e => nomatch e)
  · exact hc.block _ r2.lt (ne _ _ _ _ _ _ r2 rq (by decide)) (Ne.symm n3) (by rw [n0]; exact fun e => nomatch e)
  · obtain ⟨h1, _, cur, r3⟩ := ownsRow_lt h.evs k hk
    exact hc.block _ h1 (ne _ _ _ _ _ _ r3 rq (by decide)) (ne _ _ _ _ _ _ r3 rq2 (by decide)) (by rw [n0]; exact fun e => nomatch e)
/-- Rows of other kinds stay. -/
structure Ro (w w' : World) : Prop where
  row : ∀ k C t, Row w k C t → t ≠ 64 → t ≠ 95 → t ≠ 5 → Row w' k C t
theorem Ro.trans {a b c : World} (h : Ro a b) (k : Ro b c) : Ro a c := ⟨fun q C t hr h1 h2 h3 => k.row q C t (h.row q C t hr h1 h2 h3) h1 h2 h3⟩
theorem Ro.of_fr {g2 : Nat} {w w' : World} (h : Fr g2 w w') : Ro w w' := ⟨fun q C t hr h1 h2 h3 => h.row q C t hr h1 h2 (fun e => absurd e h3)⟩
theorem Ro.of_below {w w' : World} (h : Below w.heap.size w w') : Ro w w' := ⟨fun k _ _ hr _ _ _ => (h.block k hr.lt).trans hr⟩
theorem ownsRow_ro {w w' : World} {base n s : Nat} {e : TypeId} {v : Value} {xs : List Value} (h : w.ownsRow base e s v n xs) (hr : Ro w w') (h1 : e ≠ 64) (h2 : e ≠ 95) (h3 : e ≠ 5) : w'.ownsRow base e s v n xs :=
  ownsRow_keep h (fun k hk _ => by
    obtain ⟨_, _, cur, r⟩ := ownsRow_lt h k hk
    exact (hr.row k cur e r h1 h2 h3).trans r.symm)
end Go.Proofs.Ytlbapnecmhlgmaa
