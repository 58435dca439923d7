/- My own work: of an info's text the document's Read makes that info. -/
import Derived.Test.YthidlckipiamkaaDoorOT7
namespace Go.Proofs.YthidlckipiamkaaDoor
open S2 (bl bl_len bl_inj)

theorem dSt_stay (s : ByteArray) (a : Nat) : ∀ i, (∀ j, j < i → (bl s)[a + j]? ≠ some 10) → dSt s (a + i) = dSt s a
  | 0, _ => rfl
  | i + 1, h => by
    have ih := dSt_stay s a i (fun j hj => h j (by omega))
    show dStep s (a + i) (dSt s (a + i)) = _
    unfold dStep
    rw [if_neg (h i (by omega)), ih]
theorem line_step (s : ByteArray) (A L B : List UInt8) (hs : bl s = A ++ L ++ [10] ++ B) (hL : (10 : UInt8) ∉ L) (st : RSt) (hst : dSt s A.length = st) (hf : st.fro = A.length) :
    ∃ l, bl l = L ∧ dSt s (A.length + L.length + 1) = { updR l (updD l (updH l st)) with fro := A.length + L.length + 1 } := by
  have h1 : dSt s (A.length + L.length) = st := by
    rw [← hst]
    refine dSt_stay s A.length L.length fun j hj e => hL ?_
    rw [hs, List.append_assoc, List.append_assoc, List.getElem?_append_right (by omega), show A.length + j - A.length = j by omega, List.getElem?_append_left hj] at e
    exact List.mem_of_getElem? e
  refine ⟨s.extract A.length (A.length + L.length), ?_, ?_⟩
  · rw [S2.bl_ex, hs, List.append_assoc, List.append_assoc]
    rw [List.drop_take]
    simp
  · show dStep s (A.length + L.length) (dSt s (A.length + L.length)) = _
    unfold dStep
    rw [h1, if_pos (by rw [hs, List.append_assoc, ← List.length_append, List.getElem?_append_right (Nat.le_refl _)]; simp), hf]
theorem isLine_iff (n : Nat) (W : List UInt8) (l : ByteArray) : isLine n W l = (decide (n < (bl l).length) && ((bl l).take n == W)) := by
  unfold isLine
  rw [bl_len, ByteArray.toList_eq]
  have e : (l.extract 0 n).data.toList = (bl l).take n := by
    have := S2.bl_ex l 0 n
    rw [List.drop_zero] at this
    exact this
  rw [e]
theorem ext_tail (l : ByteArray) (W X : List UInt8) (n : Nat) (hn : W.length = n) (h : bl l = W ++ X) (x : ByteArray) (hx : bl x = X) : l.extract n l.size = x := by
  apply bl_inj
  rw [S2.ex_all, h, hx, ← hn, List.drop_left]
theorem step_hash (s : ByteArray) (A B : List UInt8) (h : ByteArray) (h0 : 0 < h.size) (hs : bl s = A ++ (PH ++ bl h) ++ [10] ++ B) (hL : (10 : UInt8) ∉ bl h) (st : RSt) (hst : dSt s A.length = st) (hf : st.fro = A.length) :
    dSt s (A.length + (PH ++ bl h).length + 1) = ⟨A.length + (PH ++ bl h).length + 1, h, st.d, st.rs⟩ := by
  obtain ⟨l, hl, e⟩ := line_step s A (PH ++ bl h) B hs (by simp [PH, hL]) st hst hf
  have hlen := bl_len h
  have b1 : isLine 5 PH l = true := by rw [isLine_iff, hl]; simp [PH]; omega
  have b2 : isLine 8 PD l = false := by rw [isLine_iff, hl]; simp [PH, PD]
  have b3 : isLine 4 PR l = false := by rw [isLine_iff, hl]; simp [PH, PR]
  rw [e]
  unfold updR updD updH
  rw [b1, b2, b3]
  simp only [if_true, Bool.false_eq_true, if_false]
  rw [ext_tail l PH (bl h) 5 rfl hl h rfl]
theorem step_der (s : ByteArray) (A B : List UInt8) (h : ByteArray) (h0 : 0 < h.size) (hs : bl s = A ++ (PD ++ bl h) ++ [10] ++ B) (hL : (10 : UInt8) ∉ bl h) (st : RSt) (hst : dSt s A.length = st) (hf : st.fro = A.length) :
    dSt s (A.length + (PD ++ bl h).length + 1) = ⟨A.length + (PD ++ bl h).length + 1, st.h, h, st.rs⟩ := by
  obtain ⟨l, hl, e⟩ := line_step s A (PD ++ bl h) B hs (by simp [PD, hL]) st hst hf
  have hlen := bl_len h
  have b1 : isLine 5 PH l = false := by rw [isLine_iff, hl]; simp [PH, PD]
  have b2 : isLine 8 PD l = true := by rw [isLine_iff, hl]; simp [PD]; omega
  have b3 : isLine 4 PR l = false := by rw [isLine_iff, hl]; simp [PD, PR]
  rw [e]
  unfold updR updD updH
  rw [b1, b2, b3]
  simp only [if_true, Bool.false_eq_true, if_false]
  rw [ext_tail l PD (bl h) 8 rfl hl h rfl]
theorem step_ref (s : ByteArray) (A B : List UInt8) (h : ByteArray) (h0 : 0 < h.size) (hs : bl s = A ++ (PR ++ bl h) ++ [10] ++ B) (hL : (10 : UInt8) ∉ bl h) (st : RSt) (hst : dSt s A.length = st) (hf : st.fro = A.length) :
    dSt s (A.length + (PR ++ bl h).length + 1) = ⟨A.length + (PR ++ bl h).length + 1, st.h, st.d, st.rs ++ [h]⟩ := by
  obtain ⟨l, hl, e⟩ := line_step s A (PR ++ bl h) B hs (by simp [PR, hL]) st hst hf
  have hlen := bl_len h
  have b1 : isLine 5 PH l = false := by rw [isLine_iff, hl]; simp [PH, PR]
  have b2 : isLine 8 PD l = false := by rw [isLine_iff, hl]; simp [PR, PD]
  have b3 : isLine 4 PR l = true := by rw [isLine_iff, hl]; simp [PR]; omega
  rw [e]
  unfold updR updD updH
  rw [b1, b2, b3]
  simp only [if_true, Bool.false_eq_true, if_false]
  rw [ext_tail l PR (bl h) 4 rfl hl h rfl]
theorem steps_refs (s : ByteArray) : ∀ (rs : List ByteArray) (A B : List UInt8) (_ : bl s = A ++ refsL rs ++ B) (_ : ∀ r ∈ rs, 0 < r.size ∧ (10 : UInt8) ∉ bl r) (st : RSt) (_ : dSt s A.length = st) (_ : st.fro = A.length),
    dSt s (A.length + (refsL rs).length) = ⟨A.length + (refsL rs).length, st.h, st.d, st.rs ++ rs⟩
  | [], A, B, _, _, st, hst, hf => by
    show dSt s (A.length + 0) = ⟨A.length + 0, st.h, st.d, st.rs ++ []⟩
    rw [List.append_nil, Nat.add_zero, hst]
    obtain ⟨a, b, c, d⟩ := st
    simp only at hf
    rw [hf]
  | r :: rs, A, B, hs, hr, st, hst, hf => by
    have e : refsL (r :: rs) = (PR ++ bl r) ++ [10] ++ refsL rs := by simp [refsL, lineL]
    rw [e] at hs
    have h1 := step_ref s A (refsL rs ++ B) r (hr r (by simp)).1 (by rw [hs]; simp) (hr r (by simp)).2 st hst hf
    have hl1 : (A ++ ((PR ++ bl r) ++ [10])).length = A.length + (PR ++ bl r).length + 1 := by rw [List.length_append, List.length_append]; rfl
    rw [← hl1] at h1
    have h2 := steps_refs s rs (A ++ ((PR ++ bl r) ++ [10])) B (by rw [hs]; simp) (fun x hx => hr x (List.mem_cons_of_mem _ hx)) _ h1 rfl
    rw [e]
    have el : (A ++ ((PR ++ bl r) ++ [10])).length + (refsL rs).length = A.length + ((PR ++ bl r) ++ [10] ++ refsL rs).length := by simp; omega
    rw [← el, h2]
    simp
/-- Of an info's text the document's Read makes its hash, its deriver and its references. -/
theorem dSt_txt (s : ByteArray) (j : Inf) (hs : bl s = txt j) (hh : 0 < j.hash.size ∧ (10 : UInt8) ∉ bl j.hash) (hd : (10 : UInt8) ∉ bl j.der) (hr : ∀ r ∈ j.refs, 0 < r.size ∧ (10 : UInt8) ∉ bl r) :
    (dSt s s.size).h = j.hash ∧ (dSt s s.size).d = j.der ∧ (dSt s s.size).rs = j.refs := by
  obtain ⟨p, h, d, rs⟩ := j
  simp only at hh hd hr
  have hsl := bl_len s
  unfold txt at hs
  simp only at hs
  have eH : lineL WH (bl h) = (PH ++ bl h) ++ [10] := by simp [lineL]
  have eD : lineL WD (bl d) = (PD ++ bl d) ++ [10] := by simp [lineL]
  rw [eH, eD, beq_nil] at hs
  by_cases hd0 : d.size = 0
  · rw [decide_eq_true hd0] at hs
    simp only [if_true, List.append_nil] at hs
    have s1 := step_hash s [] (refsL rs) h hh.1 (by rw [hs]; simp) hh.2 (dSt s 0) rfl rfl
    have hl1 : ((PH ++ bl h) ++ [10]).length = ([] : List UInt8).length + (PH ++ bl h).length + 1 := by rw [List.length_append, List.length_nil, Nat.zero_add]; rfl
    rw [← hl1] at s1
    have s2 := steps_refs s rs ((PH ++ bl h) ++ [10]) [] (by rw [hs]; simp) hr _ s1 rfl
    have el : s.size = ((PH ++ bl h) ++ [10]).length + (refsL rs).length := by rw [← hsl, hs, List.length_append]
    rw [el, s2]
    refine ⟨rfl, ?_, ?_⟩
    · show (⟨#[]⟩ : ByteArray) = d
      apply bl_inj
      have := bl_len d
      exact (List.eq_nil_of_length_eq_zero (by omega)).symm
    · show [] ++ rs = rs
      rfl
  · rw [decide_eq_false hd0] at hs
    simp only [Bool.false_eq_true, if_false] at hs
    have s1 := step_hash s [] ((PD ++ bl d) ++ [10] ++ refsL rs) h hh.1 (by rw [hs]; simp) hh.2 (dSt s 0) rfl rfl
    have hl1 : ((PH ++ bl h) ++ [10]).length = ([] : List UInt8).length + (PH ++ bl h).length + 1 := by rw [List.length_append, List.length_nil, Nat.zero_add]; rfl
    rw [← hl1] at s1
    have s2 := step_der s ((PH ++ bl h) ++ [10]) (refsL rs) d (by omega) (by rw [hs]; simp) hd _ s1 rfl
    have hl2 : ((PH ++ bl h) ++ [10] ++ ((PD ++ bl d) ++ [10])).length = ((PH ++ bl h) ++ [10]).length + (PD ++ bl d).length + 1 := by simp only [List.length_append, List.length_cons, List.length_nil]; omega
    rw [← hl2] at s2
    have s3 := steps_refs s rs ((PH ++ bl h) ++ [10] ++ ((PD ++ bl d) ++ [10])) [] (by rw [hs]; simp) hr _ s2 rfl
    have el : s.size = ((PH ++ bl h) ++ [10] ++ ((PD ++ bl d) ++ [10])).length + (refsL rs).length := by rw [← hsl, hs, List.length_append]
    rw [el, s3]
    exact ⟨rfl, rfl, rfl⟩
end Go.Proofs.YthidlckipiamkaaDoor
