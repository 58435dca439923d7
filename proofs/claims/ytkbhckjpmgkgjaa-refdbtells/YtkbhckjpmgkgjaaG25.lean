/- My own work: parts of infos, and infos of one's own behind an append. -/
import Derived.Test.YtkbhckjpmgkgjaaG24
namespace Go.Proofs.Ytkbhckjpmgkgjaa
open Go.RowKit

theorem LsAt.take {w : World} {a : Option Addr} {L : List Inf} {c k : Nat} (h : LsAt w a L c) (hk : k ≤ L.length) : LsAt w a (L.take k) c := by
  obtain ⟨b, off, h1, h2⟩ := h.ex
  have hl : (L.take k).length = k := by rw [List.length_take]; omega
  have hle := h.le
  refine ⟨⟨b, off, fun h0 => h1 (by omega), fun i hi => ?_⟩, by omega, h.cap⟩
  rw [List.getElem_take]
  exact h2 i (by omega)
theorem LsAt.drop {w : World} {b off : Nat} {L : List Inf} {c k : Nat} (h : LsAt w (some ⟨b, off, none⟩) L c) (hk : k < L.length) : LsAt w (some ⟨b, off + k * 4, none⟩) (L.drop k) (c - k) := by
  obtain ⟨b', off', h1, h2⟩ := h.ex
  have h3 := h1 (by omega)
  cases h3
  have hl : (L.drop k).length = L.length - k := List.length_drop
  have hle := h.le
  have hcap := h.cap
  refine ⟨⟨b, off + k * 4, fun _ => rfl, fun i hi => ?_⟩, by omega, by omega⟩
  have h4 := h2 (k + i) (by omega)
  rw [List.getElem_drop]
  rw [show off + k * 4 + i * 4 = off + (k + i) * 4 by omega]
  exact h4
theorem flatL_append (L1 L2 : List Inf) (rv1 rv2 : Nat → Value) : ∀ j, j ≤ L2.length → flatL (L1 ++ L2) (fun t => if t < L1.length then rv1 t else rv2 (t - L1.length)) (L1.length + j) = flatL L1 rv1 L1.length ++ flatL L2 rv2 j
  | 0, _ => by
    have e : flatL L2 rv2 0 = [] := rfl
    rw [e, List.append_nil, Nat.add_zero, flatL_cong (L1 ++ L2) (rv' := rv1) (fun t ht => if_pos ht)]
    unfold flatL
    rw [List.flatMap_def, List.flatMap_def]
    congr 1
    refine List.map_congr_left ?_
    intro t ht
    rw [List.mem_range] at ht
    have e2 : (L1 ++ L2).getD t ⟨⟨#[]⟩, ⟨#[]⟩, ⟨#[]⟩, []⟩ = L1.getD t ⟨⟨#[]⟩, ⟨#[]⟩, ⟨#[]⟩, []⟩ := by
      rw [List.getD_eq_getElem?_getD, List.getD_eq_getElem?_getD, List.getElem?_append_left ht]
    rw [e2]
  | j + 1, hj => by
    have ih := flatL_append L1 L2 rv1 rv2 j (by omega)
    rw [← Nat.add_assoc, flatL_succ _ _ _ (by rw [List.length_append]; omega), ih, flatL_succ _ _ _ (by omega), List.append_assoc]
    congr 1
    congr 1
    rw [List.getElem_append_right (by omega)]
    simp
    omega
theorem ownsRow_base {w : World} {B B' n s : Nat} {e : TypeId} {v : Value} {xs : List Value} (h : w.ownsRow B e s v n xs) (hB : B' ≤ B) : w.ownsRow B' e s v n xs := by
  obtain ⟨h1, h2 | ⟨g, cap, cur, e1, e2, e3⟩⟩ := h
  · exact ⟨h1, .inl h2⟩
  · exact ⟨h1, .inr ⟨g, cap, cur, e1, Nat.le_trans hB e2, e3⟩⟩
theorem OwnSt.app {w w1 w2 w3 : World} {L1 L2 : List Inf} {v1 v2 v3 : Value} {rv1 rv2 : Nat → Value} (h1 : OwnSt w L1 L1.length v1 rv1 w1) (h2 : OwnSt w1 L2 L2.length v2 rv2 w2) (hown : w3.ownsRow w.heap.size 33 4 v3 (L1.length + L2.length) (flatL L1 rv1 L1.length ++ flatL L2 rv2 L2.length)) (hg : w2.grownBy w3 v1.ownBlock) :
    OwnSt w (L1 ++ L2) (L1 ++ L2).length v3 (fun t => if t < L1.length then rv1 t else rv2 (t - L1.length)) w3 := by
  have ho1 := ownsRow_keep' (w' := w2) h1.out fun g _ hl => h2.old.block g hl
  have hne : ∀ (k : Nat) (D : Array Value) (t : TypeId) (fr : Nat × Nat), w2.heap[k]? = some (.cells D t fr) → t ≠ 33 → w3.heap[k]? = w2.heap[k]? := fun k D t fr hk ht => hg.block k (Array.getElem?_eq_some_iff.1 hk).1 fun e => by
    obtain ⟨D', hD'⟩ := ownsRow_row ho1 k e.symm
    rw [hD'] at hk
    simp only [Option.some.injEq, Obj.cells.injEq] at hk
    exact ht hk.2.1.symm
  have hs1 := h1.old.size
  have hs2 := h2.old.size
  refine ⟨?_, fun t ht _ => ?_, ?_⟩
  · rw [List.length_append, flatL_append L1 L2 rv1 rv2 L2.length (Nat.le_refl _)]
    exact hown
  · rw [List.length_append] at ht
    by_cases htl : t < L1.length
    · simp only [if_pos htl]
      rw [List.getElem_append_left htl]
      have h5 := ownsRow_keep' (w' := w2) (h1.refs t htl htl) fun g _ hl => h2.old.block g hl
      refine ownsRow_keep' h5 fun g hgo _ => ?_
      obtain ⟨D', hD'⟩ := ownsRow_row h5 g hgo
      exact hne g _ _ _ hD' (by decide)
    · simp only [if_neg htl]
      rw [List.getElem_append_right (by omega)]
      have h5 := ownsRow_base (h2.refs (t - L1.length) (by omega) (by omega)) (B' := w.heap.size) hs1
      refine ownsRow_keep' h5 fun g hgo _ => ?_
      obtain ⟨D', hD'⟩ := ownsRow_row h5 g hgo
      exact hne g _ _ _ hD' (by decide)
  · exact (h1.old.trans (h2.old.mono hs1)).trans ⟨hg.os, hg.tape, hg.output, hg.size, fun k hk => hg.block k (by omega) fun e => by have := (ownsRow_lt' h1.out k e.symm).2; omega⟩
theorem OwnSt.one {w w' : World} {L : List Inf} {v : Value} {rv : Nat → Value} (h : OwnSt w L L.length v rv w') : ∀ u ∈ flatL L rv L.length, u.oneCell' = true := by
  intro u hu
  unfold flatL at hu
  rw [List.mem_flatMap] at hu
  obtain ⟨t, ht, hu⟩ := hu
  rw [List.mem_range] at ht
  obtain ⟨a, c, hrv⟩ := own_slice (h.refs t ht ht)
  simp only [List.mem_cons, List.not_mem_nil, or_false] at hu
  rcases hu with rfl | rfl | rfl | rfl
  · rfl
  · rfl
  · rfl
  · rw [hrv]; rfl
end Go.Proofs.Ytkbhckjpmgkgjaa
