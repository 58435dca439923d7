/- My own work: texts on a row of one's own, sorted and each told once; what comes of it. -/
import Derived.Test.YtpkbfljoakodoaaDoorShS
import Derived.Test.YtpkbfljoakodoaaDoorSSig
import Derived.Sort.OwnSorted
import Derived.Sort.Grow
import Derived.Lib.OwnBridge
namespace Go.Proofs.YtpkbfljoakodoaaDoor
open Go.RowKit Go.Sort Go.Shelf
open S2 (bl bl_len)

abbrev leS (x y : List UInt8) : Bool := decide (x ≤ y)
/-- Sorted, each told once. -/
def uniq (ss : List (List UInt8)) : List (List UInt8) := Lib.compact (ss.mergeSort leS)
theorem befores_lt : ∀ a b : List UInt8, bytesBefore a b = true → a < b
  | [], [], h => by cases h
  | [], _ :: _, _ => List.nil_lt_cons _ _
  | _ :: _, [], h => by cases h
  | a :: x, b :: y, h => by
    unfold bytesBefore at h
    simp only [Bool.or_eq_true, Bool.and_eq_true, decide_eq_true_eq, beq_iff_eq] at h
    refine List.cons_lt_cons_iff.2 ?_
    rcases h with h | ⟨h1, h2⟩
    · exact .inl h
    · exact .inr ⟨h1, befores_lt x y h2⟩
theorem le_before {a b : List UInt8} (h : a ≤ b) (hne : a ≠ b) : bytesBefore a b = true := by
  rcases WideAt.bytes_total _ _ hne with h1 | h1
  · exact h1
  · exact absurd (befores_lt _ _ h1) h
theorem sorted_le (ss : List (List UInt8)) : (ss.mergeSort leS).Pairwise (fun a b => a ≤ b) :=
  (List.pairwise_mergeSort (le := leS) (fun a b c h1 h2 => decide_eq_true (List.le_trans (of_decide_eq_true h1) (of_decide_eq_true h2)))
    (fun a b => by
      rcases List.le_total a b with h | h
      · rw [show leS a b = true from decide_eq_true h]; rfl
      · rw [show leS b a = true from decide_eq_true h]; simp) ss).imp fun h => of_decide_eq_true h
theorem keeps_iff (d : Array (List UInt8)) (j : Nat) : Lib.keeps d j = true ↔ (j = 0 ∨ d[j]! ≠ d[j - 1]!) := by
  unfold Lib.keeps
  simp
theorem compact_rises {l : List (List UInt8)} (h : l.Pairwise (fun a b => a ≤ b)) : (Lib.compact l).Pairwise (fun a b => bytesBefore a b = true) := by
  unfold Lib.compact Lib.compactUpTo
  have hle : ∀ i j, i ≤ j → j < l.length → l.toArray[i]! ≤ l.toArray[j]! := fun i j hij hj => by
    rw [getElem!_pos _ i (by simp; omega), getElem!_pos _ j (by simpa using hj)]
    rcases Nat.eq_or_lt_of_le hij with e | e
    · subst e; exact List.le_refl _
    · simpa using List.pairwise_iff_getElem.1 h i j (by omega) hj e
  refine List.pairwise_map.2 (List.pairwise_filter.2 ?_)
  refine (List.pairwise_iff_getElem.2 fun i j hi hj hij => ?_)
  simp only [List.getElem_range]
  intro _ hk
  have hjl : j < l.length := by simpa using hj
  rcases (keeps_iff _ _).1 hk with e | e
  · omega
  · have h1 := hle i (j - 1) (by omega) (by omega)
    have h2 := hle (j - 1) j (by omega) hjl
    have h3 := le_before h2 (fun x => e x.symm)
    by_cases e4 : l.toArray[i]! = l.toArray[j - 1]!
    · rw [e4]; exact h3
    · exact WideShapes.bytes_trans _ _ _ (le_before h1 e4) h3
theorem mem_compact_iff {l : List (List UInt8)} (x : List UInt8) : x ∈ Lib.compact l ↔ x ∈ l := by
  unfold Lib.compact Lib.compactUpTo
  constructor
  · intro h
    obtain ⟨i, hi, rfl⟩ := List.mem_map.1 h
    have hi' : i < l.length := List.mem_range.1 (List.mem_filter.1 hi).1
    simp [getElem!_pos, hi']
  · intro h
    obtain ⟨i, hi, rfl⟩ := List.getElem_of_mem h
    induction i with
    | zero => exact List.mem_map.2 ⟨0, List.mem_filter.2 ⟨List.mem_range.2 hi, (keeps_iff _ _).2 (.inl rfl)⟩, by simp [getElem!_pos, hi]⟩
    | succ i ih =>
      by_cases e : l[i + 1] = l[i]'(by omega)
      · rw [e]
        exact ih (by omega) (List.getElem_mem _)
      · refine List.mem_map.2 ⟨i + 1, List.mem_filter.2 ⟨List.mem_range.2 hi, (keeps_iff _ _).2 (.inr ?_)⟩, by simp [getElem!_pos, hi]⟩
        rw [getElem!_pos _ (i + 1) (by simpa using hi), getElem!_pos _ (i + 1 - 1) (by simp; omega)]
        simpa using e
theorem uniq_rises (ss : List (List UInt8)) : (uniq ss).Pairwise (fun a b => bytesBefore a b = true) := compact_rises (sorted_le ss)
theorem mem_uniq (ss : List (List UInt8)) (x : List UInt8) : x ∈ uniq ss ↔ x ∈ ss := by
  unfold uniq
  rw [mem_compact_iff, List.mem_mergeSort]
/-- slices.Sort of a row of one's own. -/
theorem sort_own {B n : Nat} {v : Value} {ss : List (List UInt8)} {w : World} (h : w.ownsRow B 9 1 v n (ss.map encStr)) (hn : n * 16 ≤ 140737488355328) :
    Calls Tryd.prog 40 #[v] w fun e w' => (∃ r, e = .returned r) ∧ w'.ownsRow B 9 1 v n ((ss.mergeSort leS).map encStr) ∧ w.grownBy w' v.ownBlock := by
  by_cases hv : v = .slice none 0 0
  · subst hv
    have h0 : ss = [] := by
      rcases h.2 with ⟨_, h2⟩ | ⟨g, cap, cur, e, _⟩
      · have h3 := h.1; simp at h3; exact List.eq_nil_of_length_eq_zero (by omega)
      · cases e
    subst h0
    refine (Any.slices_Sort_string_none Tryd.lays190 none 0 w).mono ?_
    rintro e w' ⟨rfl, rfl⟩
    exact ⟨⟨_, rfl⟩, by simpa using h, ⟨rfl, rfl, rfl, Nat.le_refl _, fun _ _ _ => rfl⟩⟩
  · obtain ⟨g, cap, rfl, hbg, hgl, hncap, hcm, hlen, hH⟩ := Lib.holds_of_ownsRow h hv
    have hs := Any.slices_Sort_string Tryd.lays190 g 0 cap ss w hH hgl (by omega)
    rw [hlen] at hs
    refine hs.mono ?_
    rintro e w' ⟨rfl, nn, os, rfl⟩
    rcases h.2 with ⟨h0, _⟩ | ⟨g', cap', cur, e0, hbase, hb, h1, h2, h3, h4⟩
    · cases h0
    cases e0
    have ho := ownsRow_sorted (n := nn) (os := os) (ts := ss.mergeSort leS) (ss := ss) (List.length_mergeSort ss) hbase hb (by omega) h2 h3
    rw [hlen] at ho
    exact ⟨⟨_, rfl⟩, ho, grownBy_sorted _⟩
/-- slices.Compact of a row of one's own. -/
theorem compact_own {B n : Nat} {v : Value} {zs : List (List UInt8)} {w : World} (h : w.ownsRow B 9 1 v n (zs.map encStr)) (hn : n * 16 ≤ 140737488355328) :
    Calls Tryd.prog 41 #[v] w fun e w' => ∃ v', e = .returned v' ∧ w'.ownsRow B 9 1 v' (Lib.compact zs).length ((Lib.compact zs).map encStr) ∧ Below B w w' := by
  by_cases hv : v = .slice none 0 0
  · subst hv
    have h0 : zs = [] := by
      rcases h.2 with ⟨_, h2⟩ | ⟨g, cap, cur, e, _⟩
      · have h3 := h.1; simp at h3; exact List.eq_nil_of_length_eq_zero (by omega)
      · cases e
    subst h0
    have hn0 : n = 0 := by have := h.1; simpa using this.symm
    subst hn0
    refine (Any.slices_Compact_string_empty Tryd.lays194 none 0 w).mono ?_
    rintro e w' ⟨rfl, rfl⟩
    exact ⟨_, rfl, by simpa [Lib.compact, Lib.compactUpTo] using h, Below.refl _ _⟩
  · obtain ⟨g, cap, rfl, hbg, hgl, hncap, hcm, hlen, hH⟩ := Lib.holds_of_ownsRow h hv
    have hs := Any.slices_Compact_string Tryd.lays194 g 0 cap zs w hH (by omega) (by omega)
    rw [hlen] at hs
    refine hs.mono ?_
    rintro e w' ⟨rfl, q, rfl⟩
    have hle := Lib.compact_length_le zs
    have hc := Lib.ownsRow_putRow (q := q) (k := (Lib.compact zs).length) (ys := Lib.compact zs ++ List.replicate (n - (Lib.compact zs).length) []) h (by simp; omega) (by omega)
    rw [List.take_left] at hc
    exact ⟨_, rfl, hc, Lib.below_putRow (Below.refl _ _) hbg⟩
end Go.Proofs.YtpkbfljoakodoaaDoor
