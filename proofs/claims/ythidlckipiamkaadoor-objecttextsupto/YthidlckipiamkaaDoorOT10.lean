/- My own work: what may be has no line's end and no blank in its words: whose text a text is, is read. -/
import Derived.Test.YthidlckipiamkaaDoorOT9
namespace Go.Proofs.YthidlckipiamkaaDoor
open S2 (bl bl_len bl_inj)

theorem signs_no {l : List UInt8} (h : S2.signsB l = true) : (10 : UInt8) ∉ l ∧ (32 : UInt8) ∉ l := by
  have h' := List.all_eq_true.1 h
  have e1 : S2.isSg 10 = false := by kernel_rfl
  have e2 : S2.isSg 32 = false := by kernel_rfl
  exact ⟨(fun hm => by have := h' _ hm; rw [e1] at this; cases this), (fun hm => by have := h' _ hm; rw [e2] at this; cases this)⟩
theorem isP_no {s : ByteArray} (h : isP s = true) : (10 : UInt8) ∉ bl s ∧ (32 : UInt8) ∉ bl s ∧ 0 < s.size := by
  obtain ⟨h1, h2, h3, h4, h5⟩ := S2.splitB_facts h
  obtain ⟨_, _, _, h6⟩ := S2.nameB_facts h5
  have hd := S2.drop_dash h3
  have hl := bl_len s
  have e : bl s = (bl s).take 7 ++ (((bl s).drop 7).take 32 ++ (45 :: (bl s).drop 40)) := by
    rw [← hd]
    have e1 : (bl s).drop 39 = ((bl s).drop 7).drop 32 := by rw [List.drop_drop]
    rw [e1, List.take_append_drop, List.take_append_drop]
  have e7 : (bl s).take 7 = bl S2.STORE := by
    unfold S2.preB at h1
    exact beq_iff_eq.1 h1
  have hs := signs_no h4
  have hn := List.all_eq_true.1 h6
  have n1 : S2.nameC 10 = false := by kernel_rfl
  have n2 : S2.nameC 32 = false := by kernel_rfl
  have key : ∀ c : UInt8, c ∉ bl S2.STORE → c ∉ ((bl s).drop 7).take 32 → c ≠ 45 → S2.nameC c = false → c ∉ bl s := fun c a1 a2 a3 a4 hm => by
    rw [e, e7] at hm
    rcases List.mem_append.1 hm with hm | hm
    · exact a1 hm
    rcases List.mem_append.1 hm with hm | hm
    · exact a2 hm
    rcases List.mem_cons.1 hm with hm | hm
    · exact a3 hm
    · have := hn _ hm
      rw [a4] at this
      cases this
  exact ⟨key 10 (by decide) hs.1 (by decide) n1, key 32 (by decide) hs.2 (by decide) n2, by omega⟩
theorem empty_no {s : ByteArray} (h : (s.toList == []) = true) : bl s = [] := by
  rw [beq_nil] at h
  have := of_decide_eq_true h
  have hl := bl_len s
  exact List.eq_nil_of_length_eq_zero (by omega)
/-- Whose text a text is, is read by the document's Read. -/
theorem rdI_good {w0 : World} {D : ByteArray → Int} (hD : DP w0 D) {j : Inf} {s : ByteArray} (hh : j.hash.size ≤ big) (h : goodB D j s = true) : rdI j.path s = j := by
  unfold goodB at h
  rw [Bool.and_eq_true] at h
  obtain ⟨f1, f2, f3, f4, f5, f6⟩ := may_facts hD hh h.1
  have hs : bl s = txt j := by
    have e := beq_iff_eq.1 h.2
    rw [ByteArray.toList_eq, ByteArray.toList_eq] at e
    exact e.symm
  obtain ⟨g1, g2, g3⟩ := dSt_txt s j hs ⟨by omega, (signs_no f1).1⟩ (by
    rcases f5 with h5 | h5
    · rw [empty_no h5]; simp
    · exact (isP_no h5).1) (fun r hr => by
      have := isP_no (List.all_eq_true.1 f6 r hr)
      exact ⟨this.2.2, this.1⟩)
  unfold rdI
  rw [g1, g2, g3]
end Go.Proofs.YthidlckipiamkaaDoor
