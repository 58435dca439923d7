/- My own work: what the program's Read makes of a text's lines. -/
import Derived.Test.YthidlckipiamkaaDoorOT8
import Derived.Test.YthidlckipiamkaaDoorOT10
namespace Go.Proofs.YthidlckipiamkaaDoor
open S2 (bl bl_len bl_inj)

theorem index_at (L B : List UInt8) (c : UInt8) (h : c ∉ L) : Lib.indexByte (L ++ c :: B) c = (L.length : Int) := by
  rcases index_cases (L ++ c :: B) c with h0 | ⟨n, hn, _⟩
  · exact absurd (show (L ++ c :: B)[L.length]? = some c by simp) (Lib.indexByte_none h0 L.length)
  · obtain ⟨h1, h2⟩ := Lib.indexByte_some hn
    rw [hn]
    by_cases h3 : n < L.length
    · rw [List.getElem?_append_left h3] at h1
      exact absurd (List.mem_of_getElem? h1) h
    · by_cases h4 : L.length < n
      · exact absurd (show (L ++ c :: B)[L.length]? = some c by simp) (h2 L.length h4)
      · rw [show n = L.length by omega]
theorem index_not (L : List UInt8) (c : UInt8) (h : c ∉ L) : Lib.indexByte L c = -1 := by
  rcases index_cases L c with h0 | ⟨n, hn, _⟩
  · exact h0
  · exact absurd (List.mem_of_getElem? (Lib.indexByte_some hn).1) h
/-- The first line of a text, its end with it; what lies behind it. -/
def lineA (s : ByteArray) : ByteArray := if Lib.indexByte (bl s) 10 = -1 then s else s.extract 0 ((Lib.indexByte (bl s) 10).toNat + 1)
def lineZ (s : ByteArray) : ByteArray := if Lib.indexByte (bl s) 10 = -1 then ⟨#[]⟩ else s.extract ((Lib.indexByte (bl s) 10).toNat + 1) s.size
theorem lineA_le (s : ByteArray) : (lineA s).size ≤ s.size := by
  unfold lineA
  split
  · exact Nat.le_refl _
  · rw [ByteArray.size_extract]; omega
theorem lineZ_lt (s : ByteArray) (h : 0 < s.size) : (lineZ s).size < s.size := by
  unfold lineZ
  split
  · exact h
  · rw [ByteArray.size_extract]; omega
def linesF : Nat → ByteArray → List ByteArray
  | 0, _ => []
  | n + 1, s => if s.size = 0 then [] else lineA s :: linesF n (lineZ s)
def linesOf (s : ByteArray) : List ByteArray := linesF s.size s
theorem linesF_len : ∀ n s, (linesF n s).length ≤ n
  | 0, _ => Nat.le_refl _
  | n + 1, s => by
    unfold linesF
    split
    · exact Nat.zero_le _
    · exact Nat.succ_le_succ (linesF_len n _)
theorem linesF_le : ∀ n s, ∀ x ∈ linesF n s, x.size ≤ s.size
  | 0, _, _, h => by cases h
  | n + 1, s, x, h => by
    unfold linesF at h
    split at h
    · cases h
    · rcases List.mem_cons.1 h with rfl | h
      · exact lineA_le s
      · have := linesF_le n _ x h
        have := lineZ_lt s (by omega)
        omega
/-- What the lines told so far. -/
structure PSt where
  h : ByteArray
  d : ByteArray
  rs : List ByteArray
def pst0 : PSt := ⟨⟨#[]⟩, ⟨#[]⟩, []⟩
def wordL (x : ByteArray) : ByteArray := (cutV2 (trimE x)).1
def saidL (x : ByteArray) : ByteArray := (cutV2 (trimE x)).2
/-- What one more line does; none: its word is unknown. -/
def stepL (st : PSt) (x : ByteArray) : Option PSt :=
  if bl (wordL x) = WH then some { st with h := saidL x } else if bl (wordL x) = WD then some { st with d := saidL x } else if bl (wordL x) = WR then some { st with rs := st.rs ++ [saidL x] } else none
def pdL : Option PSt → List ByteArray → Option PSt
  | o, [] => o
  | o, x :: xs => pdL (o.bind fun st => stepL st x) xs
theorem pdL_app : ∀ (xs ys : List ByteArray) (o : Option PSt), pdL o (xs ++ ys) = pdL (pdL o xs) ys
  | [], _, _ => rfl
  | _ :: xs, ys, _ => pdL_app xs ys _
theorem pdL_none : ∀ xs, pdL none xs = none
  | [] => rfl
  | _ :: xs => pdL_none xs
theorem pdL_pre {pre ls : List ByteArray} (h : pre <+: ls) {o : Option PSt} (e : pdL o pre = none) : pdL o ls = none := by
  obtain ⟨t, rfl⟩ := h
  rw [pdL_app, e, pdL_none]
theorem cut_le (x : ByteArray) : (cutV2 x).1.size ≤ x.size ∧ (cutV2 x).2.size ≤ x.size := by
  unfold cutV2
  split
  · exact ⟨Nat.le_refl _, Nat.zero_le _⟩
  · simp only [ByteArray.size_extract]; omega
theorem trim_le (x : ByteArray) : (trimE x).size ≤ x.size := by
  unfold trimE
  split
  · simp only [ByteArray.size_extract]; omega
  · exact Nat.le_refl _
theorem said_le (x : ByteArray) : (saidL x).size ≤ x.size := Nat.le_trans (cut_le _).2 (trim_le x)
/-- How great is what is told. -/
def PSt.le (m : Nat) (st : PSt) : Prop := st.h.size ≤ m ∧ st.d.size ≤ m ∧ ∀ r ∈ st.rs, r.size ≤ m
theorem stepL_le {m : Nat} {st st' : PSt} {x : ByteArray} (h : st.le m) (hx : x.size ≤ m) (e : stepL st x = some st') : st'.le m ∧ st'.rs.length ≤ st.rs.length + 1 := by
  have hs := said_le x
  unfold stepL at e
  split at e
  · cases e; exact ⟨⟨by show (saidL x).size ≤ m; omega, h.2⟩, Nat.le_succ _⟩
  · split at e
    · cases e; exact ⟨⟨h.1, by show (saidL x).size ≤ m; omega, h.2.2⟩, Nat.le_succ _⟩
    · split at e
      · cases e
        refine ⟨⟨h.1, h.2.1, fun r hr => ?_⟩, by show (st.rs ++ [saidL x]).length ≤ _; simp⟩
        rcases List.mem_append.1 hr with hr | hr
        · exact h.2.2 r hr
        · rw [List.mem_singleton] at hr; subst hr; omega
      · cases e
/-- One line of a text. -/
theorem linesF_cons (n : Nat) (s : ByteArray) (L B : List UInt8) (hs : bl s = L ++ [10] ++ B) (hL : (10 : UInt8) ∉ L) : ∃ x t, linesF (n + 1) s = x :: linesF n t ∧ bl (trimE x) = L ∧ bl t = B := by
  have hs' : bl s = L ++ 10 :: B := by rw [hs]; simp
  have hi := index_at L B 10 hL
  rw [← hs'] at hi
  have hl := bl_len s
  have h0 : s.size ≠ 0 := by rw [← hl, hs']; simp
  have hA : lineA s = s.extract 0 (L.length + 1) := by unfold lineA; rw [hi, if_neg (by omega)]; rfl
  have hZ : lineZ s = s.extract (L.length + 1) s.size := by unfold lineZ; rw [hi, if_neg (by omega)]; rfl
  have bA : bl (lineA s) = L ++ [10] := by
    rw [hA, S2.bl_ex, hs', List.drop_zero]
    rw [show L ++ 10 :: B = (L ++ [10]) ++ B by simp, List.take_left' (by simp)]
  have bZ : bl (lineZ s) = B := by
    rw [hZ, S2.ex_all, hs, List.drop_left' (by simp)]
  refine ⟨lineA s, lineZ s, by rw [linesF, if_neg h0], ?_, bZ⟩
  have hsz : (lineA s).size = L.length + 1 := by rw [← bl_len, bA]; simp
  have e1 : ((lineA s).extract ((lineA s).size - 1) (lineA s).size).toList = [10] := by
    rw [ByteArray.toList_eq]
    have := S2.ex_all (lineA s) ((lineA s).size - 1)
    refine this.trans ?_
    rw [bA, hsz, List.drop_left' (by simp)]
  unfold trimE
  rw [e1, hsz, decide_eq_true (by omega)]
  show bl ((lineA s).extract 0 L.length) = L
  rw [S2.bl_ex, bA, List.drop_zero, List.take_left' rfl]
theorem cut_at (x : ByteArray) (W X : List UInt8) (hx : bl x = W ++ [32] ++ X) (hW : (32 : UInt8) ∉ W) : bl (cutV2 x).1 = W ∧ bl (cutV2 x).2 = X := by
  have hx' : bl x = W ++ 32 :: X := by rw [hx]; simp
  have hi := index_at W X 32 hW
  rw [← hx'] at hi
  unfold cutV2
  rw [hi, if_neg (by omega)]
  refine ⟨?_, ?_⟩
  · show bl (x.extract 0 W.length) = W
    rw [S2.bl_ex, hx', List.drop_zero, List.take_left' rfl]
  · show bl (x.extract (W.length + 1) x.size) = X
    rw [S2.ex_all, hx, List.drop_left' (by simp)]
theorem step_line (n : Nat) (s : ByteArray) (W X B : List UInt8) (hs : bl s = lineL W X ++ B) (hW : (10 : UInt8) ∉ W ∧ (32 : UInt8) ∉ W) (hX : (10 : UInt8) ∉ X) :
    ∃ x t, linesF (n + 1) s = x :: linesF n t ∧ bl (wordL x) = W ∧ bl (saidL x) = X ∧ bl t = B := by
  obtain ⟨x, t, h1, h2, h3⟩ := linesF_cons n s (W ++ [32] ++ X) B (by rw [hs]; simp [lineL]) (by simp [hW.1, hX])
  have := cut_at (trimE x) W X h2 hW.2
  exact ⟨x, t, h1, this.1, this.2, h3⟩
theorem linesF_nil (n : Nat) (s : ByteArray) (h : bl s = []) : linesF n s = [] := by
  have h0 : s.size = 0 := by rw [← bl_len, h]; rfl
  cases n with
  | zero => rfl
  | succ n => unfold linesF; rw [if_pos h0]
theorem pd_refs : ∀ (rs : List ByteArray) (n : Nat) (s : ByteArray) (st : PSt), bl s = refsL rs → s.size ≤ n → (∀ r ∈ rs, (10 : UInt8) ∉ bl r) → pdL (some st) (linesF n s) = some { st with rs := st.rs ++ rs }
  | [], n, s, st, hs, _, _ => by rw [linesF_nil n s hs]; simp [pdL]
  | r :: rs, n, s, st, hs, hn, hr => by
    have e : refsL (r :: rs) = lineL WR (bl r) ++ refsL rs := by simp [refsL]
    rw [e] at hs
    have hl := bl_len s
    have hpos : (lineL WR (bl r) ++ refsL rs).length = (lineL WR (bl r)).length + (refsL rs).length := List.length_append
    have hpos1 : 0 < (lineL WR (bl r)).length := by simp [lineL]
    rw [← hs, hl] at hpos
    obtain ⟨m, rfl⟩ : ∃ m, n = m + 1 := ⟨n - 1, by omega⟩
    obtain ⟨x, t, h1, h2, h3, h4⟩ := step_line m s WR (bl r) (refsL rs) hs (by decide) (hr r (by simp))
    have ht := bl_len t
    rw [h4] at ht
    rw [h1]
    show pdL (stepL st x) (linesF m t) = _
    have hst : stepL st x = some { st with rs := st.rs ++ [r] } := by
      unfold stepL
      rw [h2, if_neg (by decide), if_neg (by decide), if_pos rfl, bl_inj h3]
    rw [hst, pd_refs rs m t _ h4 (by omega) (fun y hy => hr y (List.mem_cons_of_mem _ hy))]
    simp
theorem pd_txt (s : ByteArray) (j : Inf) (hs : bl s = txt j) (hh : (10 : UInt8) ∉ bl j.hash) (hd : (10 : UInt8) ∉ bl j.der) (hr : ∀ r ∈ j.refs, (10 : UInt8) ∉ bl r) : pdL (some pst0) (linesOf s) = some ⟨j.hash, j.der, j.refs⟩ := by
  obtain ⟨p, h, d, rs⟩ := j
  simp only at hh hd hr
  have hsl := bl_len s
  unfold txt at hs
  simp only at hs
  rw [beq_nil, List.append_assoc] at hs
  have hlen := congrArg List.length hs
  rw [hsl, List.length_append] at hlen
  have hpos1 : 0 < (lineL WH (bl h)).length := by simp [lineL]
  unfold linesOf
  obtain ⟨m, hm⟩ : ∃ m, s.size = m + 1 := ⟨s.size - 1, by omega⟩
  rw [hm]
  obtain ⟨x, t, h1, h2, h3, h4⟩ := step_line m s WH (bl h) _ hs (by decide) hh
  have ht := bl_len t
  rw [h4] at ht
  rw [h1]
  show pdL (stepL pst0 x) (linesF m t) = _
  have hst : stepL pst0 x = some ⟨h, ⟨#[]⟩, []⟩ := by
    unfold stepL
    rw [h2, if_pos rfl, bl_inj h3]
    rfl
  rw [hst]
  by_cases hd0 : d.size = 0
  · rw [decide_eq_true hd0] at h4 ht hlen
    simp only [if_true, List.nil_append] at h4 ht hlen
    rw [pd_refs rs m t _ h4 (by omega) hr]
    have : d = ⟨#[]⟩ := by
      apply bl_inj
      have := bl_len d
      exact List.eq_nil_of_length_eq_zero (by omega)
    rw [this]
    rfl
  · rw [decide_eq_false hd0] at h4 ht hlen
    simp only [Bool.false_eq_true, if_false] at h4 ht hlen
    rw [List.length_append] at ht hlen
    have hpos2 : 0 < (lineL WD (bl d)).length := by simp [lineL]
    obtain ⟨m2, rfl⟩ : ∃ m2, m = m2 + 1 := ⟨m - 1, by omega⟩
    obtain ⟨x2, t2, g1, g2, g3, g4⟩ := step_line m2 t WD (bl d) _ h4 (by decide) hd
    have ht2 := bl_len t2
    rw [g4] at ht2
    rw [g1]
    show pdL (stepL _ x2) (linesF m2 t2) = _
    have hst2 : stepL ⟨h, ⟨#[]⟩, []⟩ x2 = some ⟨h, d, []⟩ := by
      unfold stepL
      rw [g2, if_neg (by decide), if_pos rfl, bl_inj g3]
    rw [hst2, pd_refs rs m2 t2 _ g4 (by omega) hr]
    rfl
/-- Whose text a text is, is read by the program's Read. -/
theorem pd_good {w0 : World} {D : ByteArray → Int} (hD : DP w0 D) {j : Inf} {s : ByteArray} (hh : j.hash.size ≤ big) (h : goodB D j s = true) : pdL (some pst0) (linesOf s) = some ⟨j.hash, j.der, j.refs⟩ := by
  unfold goodB at h
  rw [Bool.and_eq_true] at h
  obtain ⟨f1, f2, f3, f4, f5, f6⟩ := may_facts hD hh h.1
  have hs : bl s = txt j := by
    have e := beq_iff_eq.1 h.2
    rw [ByteArray.toList_eq, ByteArray.toList_eq] at e
    exact e.symm
  exact pd_txt s j hs (signs_no f1).1 (by
    rcases f5 with h5 | h5
    · rw [empty_no h5]; simp
    · exact (isP_no h5).1) (fun r hr => (isP_no (List.all_eq_true.1 f6 r hr)).1)
theorem pdL_le {m : Nat} : ∀ (xs : List ByteArray) (st st' : PSt), st.le m → (∀ x ∈ xs, x.size ≤ m) → pdL (some st) xs = some st' → st'.le m
  | [], st, st', h, _, e => by cases e; exact h
  | x :: xs, st, st', h, hx, e => by
    have e' : pdL (stepL st x) xs = some st' := e
    cases hs : stepL st x with
    | none => rw [hs, pdL_none] at e'; cases e'
    | some st1 =>
      rw [hs] at e'
      exact pdL_le xs st1 st' (stepL_le h (hx x (by simp)) hs).1 (fun y hy => hx y (List.mem_cons_of_mem _ hy)) e'
/-- Both Reads tell the same: what the program's walk tells is good just where the document's is, and then it is the same. -/
theorem both_reads {w0 : World} {D : ByteArray → Int} (hD : DP w0 D) (p s : ByteArray) (hs : s.size ≤ big) :
    (pdL (some pst0) (linesOf s) = none → goodB D (rdI p s) s = false) ∧ ∀ st, pdL (some pst0) (linesOf s) = some st → goodB D ⟨p, st.h, st.d, st.rs⟩ s = goodB D (rdI p s) s ∧ (goodB D (rdI p s) s = true → (⟨p, st.h, st.d, st.rs⟩ : Inf) = rdI p s) := by
  have key : goodB D (rdI p s) s = true → pdL (some pst0) (linesOf s) = some ⟨(rdI p s).hash, (rdI p s).der, (rdI p s).refs⟩ := fun h => pd_good hD (by
    show (dSt s s.size).h.size ≤ big
    exact Nat.le_trans (dSt_sz s s.size).1 hs) h
  refine ⟨fun e => ?_, fun st e => ?_⟩
  · cases hb : goodB D (rdI p s) s with
    | false => rfl
    | true => rw [key hb] at e; cases e
  · have hle : st.le s.size := pdL_le (linesOf s) pst0 st ⟨Nat.zero_le _, Nat.zero_le _, fun r hr => by cases hr⟩ (linesF_le _ _) e
    have k2 : goodB D ⟨p, st.h, st.d, st.rs⟩ s = true → rdI p s = ⟨p, st.h, st.d, st.rs⟩ := fun h => rdI_good hD (j := ⟨p, st.h, st.d, st.rs⟩) (Nat.le_trans hle.1 hs) h
    have k3 : goodB D (rdI p s) s = true → (⟨p, st.h, st.d, st.rs⟩ : Inf) = rdI p s := fun h => by
      have := key h
      rw [e] at this
      cases this
      rfl
    refine ⟨?_, k3⟩
    cases hb : goodB D (rdI p s) s with
    | true => rw [k3 hb, hb]
    | false =>
      cases hc : goodB D ⟨p, st.h, st.d, st.rs⟩ s with
      | false => rfl
      | true => rw [k2 hc, hc] at hb; cases hb
end Go.Proofs.YthidlckipiamkaaDoor
