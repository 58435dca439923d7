/- My own work: the walk of Texts. -/
import Derived.Test.YtpkbfljoakodoaaDoorSVals
import Derived.Test.YtpkbfljoakodoaaDoorSText
namespace Go.Proofs.YtpkbfljoakodoaaDoor
open Go.RowKit Go.Shelf
open S2 (bl bl_len)

/-- The texts of a node that may be; none of another. -/
def textsOf (n : Nd) : List ByteArray := if rightE n = 0 then n.texts else []
theorem right_each {n : Nd} (h : rightE n = 0) : eachE n = 0 ∧ n.count ≤ 1024 := by
  unfold rightE at h
  cases hc : (cen n 0 1).2 with
  | false => rw [hc] at h; simp at h
  | true =>
    rw [hc] at h
    simp at h
    exact ⟨h, by have := ((cen_iff n 0 1 (by omega)).1.1 hc).2; omega⟩
mutual
theorem texts_len : ∀ (n : Nd), n.texts.length + 1 ≤ 2 * n.count
  | .mk k e d ns ks => by
    unfold Nd.texts Nd.count
    split
    · simp; omega
    · have := textsL_len ks ns
      omega
theorem textsL_len : ∀ (ks : List Nd) (ns : List ByteArray), (Nd.textsL ks ns).length ≤ 2 * Nd.countL ks
  | [], ns => by simp [Nd.textsL]
  | k :: ks, [] => by simp [Nd.textsL]
  | k :: ks, n :: ns => by
    have h1 := texts_len k
    have h2 := textsL_len ks ns
    simp only [Nd.textsL, List.length_cons, List.length_append, Nd.countL]
    omega
end
theorem textsL_mem : ∀ (ks : List Nd) (ns : List ByteArray) (t : ByteArray), t ∈ Nd.textsL ks ns → t ∈ ns ∨ ∃ i, ∃ h : i < ks.length, t ∈ (ks[i]).texts
  | [], ns, t, h => by simp [Nd.textsL] at h
  | k :: ks, [], t, h => by simp [Nd.textsL] at h
  | k :: ks, n :: ns, t, h => by
    simp only [Nd.textsL, List.mem_cons, List.mem_append] at h
    rcases h with h | h | h
    · exact .inl (by simp [h])
    · exact .inr ⟨0, by simp, h⟩
    · rcases textsL_mem ks ns t h with h | ⟨i, hi, h⟩
      · exact .inl (List.mem_cons_of_mem _ h)
      · exact .inr ⟨i + 1, by simpa using hi, by simpa using h⟩
theorem texts_big {w : World} {n : Nd} {C : Array Value} (h : NodeAt w n C) : ∀ t ∈ n.texts, t.size ≤ big := by
  induction h with
  | @mk k e d ns ks _ _ _ _ _ _ _ _ _ hk hd hn hks each ih =>
    intro t ht
    unfold Nd.texts at ht
    split at ht
    · simp at ht
      subst ht
      exact hd.len
    · rcases textsL_mem ks ns t ht with h | ⟨i, hi, h⟩
      · exact hn.each t h
      · exact ih i hi t h
/-- A row of one's own that holds texts is a slice of texts. -/
theorem tx_of_own {w : World} {B : Nat} {v : Value} {ts : List ByteArray} (h : w.ownsRow B 9 1 v ts.length (ts.map Value.string)) (hs : ∀ t ∈ ts, t.size ≤ big) : ∃ zs : List Tx, zs.map (·.1) = ts ∧ (∃ a len cap, v = .slice a len cap) ∧ TxAt w.heap.size w v zs := by
  refine ⟨ts.pmap Subtype.mk hs, by rw [List.map_pmap]; simp, ?_⟩
  have hl : (ts.pmap Subtype.mk hs).length = ts.length := by simp
  rcases h.2 with ⟨rfl, h0⟩ | ⟨g, cap, cur, rfl, hb, hg, h1, h2, h3, h4⟩
  · have : ts = [] := List.eq_nil_of_length_eq_zero h0
    subst this
    exact ⟨⟨_, _, _, rfl⟩, .inl ⟨rfl, rfl⟩⟩
  · refine ⟨⟨_, _, _, rfl⟩, .inr ⟨g, 0, cap, by rw [hl], (Array.getElem?_eq_some_iff.1 hg).1, fun j hj => ?_⟩⟩
    rw [hl] at hj
    rw [Nat.zero_add, cell_of_row w g j cur 9 (0, 0) hg]
    have e1 : cur.toList[j]? = (ts.map Value.string)[j]? := by
      rw [← h4, List.getElem?_take_of_lt (by omega)]
    rw [← Array.getElem?_toList, e1]
    simp [hj]
set_option maxRecDepth 20000 in
set_option maxHeartbeats 2000000 in
/-- Texts: an iterator over the texts of a node that may be. -/
theorem stexts_ok (n : Nd) (w : World) (C : Array Value) (h : NodeAt w n C) (h6 : n.count ≤ 16000) : Calls Tryd.prog 15 #[.agg C] w fun e w' => ∃ (Bs : Nat) (sv : Value) (zs : List Tx), e = .returned (.func (.func 47) #[] #[.pointer (some ⟨Bs, 0, none⟩)]) ∧ Bs < w'.heap.size ∧ w'.cell? ⟨Bs, 0, none⟩ = some sv ∧ zs.map (·.1) = textsOf n ∧ TxAt w'.heap.size w' sv zs ∧ Below w.heap.size w w' ∧ zs.length ≤ 4096 := by
  have hb0 : Below w.heap.size w (w.alloc (.cells C 26)) := (Below.refl _ _).alloc (Nat.le_refl _) _
  have HR : Hid (Row (w.alloc (.cells C 26)) w.heap.size C 26) := Row.new w _ _
  have hri := right_ok n _ C (h.keep hb0) h6
  have HN : Hid (NodeAt w n C) := h
  have HB : Hid _ := hb0
  have hsi : (Tryd.prog.info? 26).map (·.size) = some C.size := by rw [infoN, h.size]
  clear h hb0
  go_enter Tryd.func15, Tryd.ntmps15
  generalize hwB : w.alloc (.cells C 26) = wB at *
  by_cases hr : rightE n = 0
  · obtain ⟨hE, hct⟩ := right_each hr
    have hT : textsOf n = n.texts := by unfold textsOf; rw [if_pos hr]
    have hbg := texts_big HN.out
    have hln := texts_len n
    rw [hr] at hri
    have HX : Hid (textsOf n = n.texts ∧ (∀ t ∈ n.texts, t.size ≤ big) ∧ n.texts.length ≤ 4096) := ⟨hT, hbg, by omega⟩
    have HE : Hid (eachE n = 0) := hE
    have HC2 : Hid ((0 + n.texts.length) * 16 ≤ 140737488355328) := by show _ ≤ _; omega
    clear hr hE hct hT hbg hln
    go_wp2_with (refine wpList_load_row rfl 26 _ rfl w.heap.size rfl 26 C (0, 0) _ HR.out Tryd.underlying26 rfl hsi ?_)
    refine Calls.mono hri ?_
    rintro e w1 ⟨rfl, hb1⟩
    have hB1 : Below w.heap.size w w1 := HB.out.trans (hb1.mono HB.out.size)
    have HB1 : Hid (Below w.heap.size w w1) := hB1
    have HR1 : Hid (Row w1 w.heap.size C 26) := Row.below HR.out hb1 (Row.lt HR.out)
    have hap := appendTexts_ok w1 n HE.out C w1 (.slice none 0 0) [] (HN.out.keep hB1) (Below.refl _ _) (World.ownsRow_nil ..) HC2.out
    clear hri hb1 hB1 HR
    go_wp2_with (refine wpList_load_row rfl 26 _ rfl w.heap.size rfl 26 C (0, 0) _ HR1.out Tryd.underlying26 rfl hsi ?_)
    refine Calls.mono hap ?_
    rintro e w2 ⟨v2, rfl, hO2, hG2, _⟩
    have hb2 := below_own (e := 9) (s := 1) (World.ownsRow_nil ..) (Below.refl w1.heap.size w1) hG2
    obtain ⟨zs, hz1, ⟨a2, l2, c2, hv2⟩, hz2⟩ := tx_of_own hO2 (by simpa using HX.out.2.1)
    have hva := values_ok v2 a2 l2 c2 hv2 w2
    have hb3 : Below w2.heap.size w2 (w2.alloc (.cells #[v2] 23)) := (Below.refl _ _).alloc (Nat.le_refl _) _
    have HF : Hid (∃ (Bs : Nat) (sv : Value) (zs : List Tx), Ending.returned (.func (.func 47) #[] #[.pointer (some ⟨w2.heap.size, 0, none⟩)]) = .returned (.func (.func 47) #[] #[.pointer (some ⟨Bs, 0, none⟩)]) ∧ Bs < (w2.alloc (.cells #[v2] 23)).heap.size ∧ (w2.alloc (.cells #[v2] 23)).cell? ⟨Bs, 0, none⟩ = some sv ∧ zs.map (·.1) = textsOf n ∧ TxAt (w2.alloc (.cells #[v2] 23)).heap.size (w2.alloc (.cells #[v2] 23)) sv zs ∧ Below w.heap.size w (w2.alloc (.cells #[v2] 23)) ∧ zs.length ≤ 4096) := by
      refine ⟨w2.heap.size, v2, zs, rfl, by simp, (Row.cell (Row.new w2 #[v2] _) 0).trans rfl, ?_, ?_, ?_, ?_⟩
      · rw [hz1, HX.out.1]; simp
      · rcases hz2.below hb3 with e | ⟨b, off, cap, e, hb, hc⟩
        · exact .inl e
        · exact .inr ⟨b, off, cap, e, by simp; omega, hc⟩
      · have hb12 := HB1.out.trans (hb2.mono HB1.out.size)
        exact hb12.trans (hb3.mono hb12.size)
      · have e1 := congrArg List.length hz1
        have := HX.out.2.2
        simp at e1
        omega
    clear hO2 hG2 hb2 hz1 hz2 hb3 hap
    subst hv2
    go_wp2_with (go_at_call 31; refine hva.mono ?_; rintro e w3 ⟨rfl, rfl⟩; clear hva)
    go_ret
    exact HF.out
  · obtain ⟨r, hrr⟩ : ∃ r, r = rightE n := ⟨_, rfl⟩
    have hT : textsOf n = [] := by unfold textsOf; rw [if_neg hr]
    rw [← hrr] at hri hr
    have HT : Hid _ := hT
    have hr0 : decide (r = 0) = false := decide_eq_false hr
    have hr1 : (r == 0) = false := by simpa using hr
    clear hT hrr
    go_wp2_with (refine wpList_load_row rfl 26 _ rfl w.heap.size rfl 26 C (0, 0) _ HR.out Tryd.underlying26 rfl hsi ?_)
    refine Calls.mono hri ?_
    rintro e w1 ⟨rfl, hb1⟩
    have HB1 : Hid (Below w.heap.size w w1) := HB.out.trans (hb1.mono HB.out.size)
    have hva := values_ok (.slice none 0 0) none 0 0 rfl w1
    clear hri hb1
    go_wp2_with (go_at_call 31; refine hva.mono ?_; rintro e w3 ⟨rfl, rfl⟩; clear hva)
    go_ret
    have hb3 : Below w1.heap.size w1 (w1.alloc (.cells #[.slice none 0 0] 23)) := (Below.refl _ _).alloc (Nat.le_refl _) _
    exact ⟨w1.heap.size, .slice none 0 0, [], rfl, by simp, (Row.cell (Row.new w1 #[.slice none 0 0] _) 0).trans rfl, HT.out.symm, .inl ⟨rfl, rfl⟩, HB1.out.trans (hb3.mono HB1.out.size), Nat.zero_le _⟩
end Go.Proofs.YtpkbfljoakodoaaDoor
