/- My own work: a list of texts, sorted, and whether one stands there twice (after stage 10's text). -/
import Derived.Test.YtkbhckjpmgkgjaaG1
import Derived.Sort.OwnSorted
import Derived.Sort.Grow
import Derived.Lib.OwnBridge
namespace Go.Proofs.Ytkbhckjpmgkgjaa
open Go.RowKit Go.Sort Go.Shelf

abbrev leS (x y : List UInt8) : Bool := decide (x ≤ y)
theorem sorted_le (ss : List (List UInt8)) : (ss.mergeSort leS).Pairwise (fun a b => a ≤ b) :=
  (List.pairwise_mergeSort (le := leS) (fun a b c h1 h2 => decide_eq_true (List.le_trans (of_decide_eq_true h1) (of_decide_eq_true h2)))
    (fun a b => by
      rcases List.le_total a b with h | h
      · rw [show leS a b = true from decide_eq_true h]; rfl
      · rw [show leS b a = true from decide_eq_true h]; simp) ss).imp fun h => of_decide_eq_true h
theorem keeps_iff (d : Array (List UInt8)) (j : Nat) : Lib.keeps d j = true ↔ (j = 0 ∨ d[j]! ≠ d[j - 1]!) := by
  unfold Lib.keeps
  simp
/-- slices.Sort of a row of one's own. -/
theorem sort_own {B n : Nat} {v : Value} {ss : List (List UInt8)} {w : World} (h : w.ownsRow B 9 1 v n (ss.map encStr)) (hn : n * 16 ≤ 140737488355328) :
    Calls Try.prog 22 #[v] w fun e w' => (∃ r, e = .returned r) ∧ w'.ownsRow B 9 1 v n ((ss.mergeSort leS).map encStr) ∧ w.grownBy w' v.ownBlock := by
  by_cases hv : v = .slice none 0 0
  · subst hv
    have h0 : ss = [] := by
      rcases h.2 with ⟨_, h2⟩ | ⟨g, cap, cur, e, _⟩
      · have h3 := h.1; simp at h3; exact List.eq_nil_of_length_eq_zero (by omega)
      · cases e
    subst h0
    refine (Any.slices_Sort_string_none Try.lays190 none 0 w).mono ?_
    rintro e w' ⟨rfl, rfl⟩
    exact ⟨⟨_, rfl⟩, by simpa using h, ⟨rfl, rfl, rfl, Nat.le_refl _, fun _ _ _ => rfl⟩⟩
  · obtain ⟨g, cap, rfl, hbg, hgl, hncap, hcm, hlen, hH⟩ := Lib.holds_of_ownsRow h hv
    have hs := Any.slices_Sort_string Try.lays190 g 0 cap ss w hH hgl (by omega)
    rw [hlen] at hs
    refine hs.mono ?_
    rintro e w' ⟨rfl, nn, os, rfl⟩
    rcases h.2 with ⟨h0, _⟩ | ⟨g', cap', cur, e0, hbase, hb, h1, h2, h3, h4⟩
    · cases h0
    cases e0
    have ho := ownsRow_sorted (n := nn) (os := os) (ts := ss.mergeSort leS) (ss := ss) (List.length_mergeSort ss) hbase hb (by omega) h2 h3
    rw [hlen] at ho
    exact ⟨⟨_, rfl⟩, ho, grownBy_sorted _⟩
/-- slices.Compact of a row of one's own. -/
theorem compact_own {B n : Nat} {v : Value} {zs : List (List UInt8)} {w : World} (h : w.ownsRow B 9 1 v n (zs.map encStr)) (hn : n * 16 ≤ 140737488355328) :
    Calls Try.prog 23 #[v] w fun e w' => ∃ v', e = .returned v' ∧ w'.ownsRow B 9 1 v' (Lib.compact zs).length ((Lib.compact zs).map encStr) ∧ Below B w w' := by
  by_cases hv : v = .slice none 0 0
  · subst hv
    have h0 : zs = [] := by
      rcases h.2 with ⟨_, h2⟩ | ⟨g, cap, cur, e, _⟩
      · have h3 := h.1; simp at h3; exact List.eq_nil_of_length_eq_zero (by omega)
      · cases e
    subst h0
    have hn0 : n = 0 := by have := h.1; simpa using this.symm
    subst hn0
    refine (Any.slices_Compact_string_empty Try.lays194 none 0 w).mono ?_
    rintro e w' ⟨rfl, rfl⟩
    exact ⟨_, rfl, by simpa [Lib.compact, Lib.compactUpTo] using h, Below.refl _ _⟩
  · obtain ⟨g, cap, rfl, hbg, hgl, hncap, hcm, hlen, hH⟩ := Lib.holds_of_ownsRow h hv
    have hs := Any.slices_Compact_string Try.lays194 g 0 cap zs w hH (by omega) (by omega)
    rw [hlen] at hs
    refine hs.mono ?_
    rintro e w' ⟨rfl, q, rfl⟩
    have hle := Lib.compact_length_le zs
    have hc := Lib.ownsRow_putRow (q := q) (k := (Lib.compact zs).length) (ys := Lib.compact zs ++ List.replicate (n - (Lib.compact zs).length) []) h (by simp; omega) (by omega)
    rw [List.take_left] at hc
    exact ⟨_, rfl, hc, Lib.below_putRow (Below.refl _ _) hbg⟩

/-- Texts, rising. -/
def sortP (X : List ByteArray) : List ByteArray := ((X.map gb).mergeSort leS).map fun l => ⟨l.toArray⟩
theorem gb_mk (l : List UInt8) : gb ⟨l.toArray⟩ = l := rfl
theorem map_gb (X : List ByteArray) : (X.map gb).map encStr = X.map Value.string := by
  rw [List.map_map]
  exact List.map_congr_left fun x _ => by
    show Value.string ⟨(gb x).toArray⟩ = Value.string x
    rw [show (⟨(gb x).toArray⟩ : ByteArray) = x from gb_inj rfl]
theorem sortP_gb (X : List ByteArray) : (sortP X).map gb = (X.map gb).mergeSort leS := by
  unfold sortP
  rw [List.map_map]
  exact (List.map_congr_left fun l _ => gb_mk l).trans (List.map_id _)
theorem sortP_mem (X : List ByteArray) (x : ByteArray) : x ∈ sortP X ↔ x ∈ X := by
  have h : x ∈ sortP X ↔ gb x ∈ (sortP X).map gb := ⟨fun h => List.mem_map.2 ⟨x, h, rfl⟩, fun h => by
    obtain ⟨y, hy, e⟩ := List.mem_map.1 h
    rw [← gb_inj e]
    exact hy⟩
  rw [h, sortP_gb, List.mem_mergeSort]
  exact ⟨fun h => by
    obtain ⟨y, hy, e⟩ := List.mem_map.1 h
    rw [← gb_inj e]
    exact hy, fun h => List.mem_map.2 ⟨x, h, rfl⟩⟩
theorem sortP_len (X : List ByteArray) : (sortP X).length = X.length := by
  unfold sortP
  rw [List.length_map, List.length_mergeSort, List.length_map]
/-- As many are kept as there are, just where none stands there twice. -/
theorem compact_all {l : List (List UInt8)} (h : l.Pairwise (fun a b => a ≤ b)) : (Lib.compact l).length = l.length ↔ l.Pairwise (fun a b => a < b) := by
  have e : (Lib.compact l).length = ((List.range l.length).filter (Lib.keeps l.toArray)).length := by
    unfold Lib.compact Lib.compactUpTo
    rw [List.length_map]
  have hf : ((List.range l.length).filter (Lib.keeps l.toArray)).length = l.length ↔ ∀ j, j < l.length → Lib.keeps l.toArray j = true := by
    constructor
    · intro h1 j hj
      have h2 : ((List.range l.length).filter (Lib.keeps l.toArray)).length = (List.range l.length).length := by rw [h1, List.length_range]
      exact List.length_filter_eq_length_iff.1 h2 j (List.mem_range.2 hj)
    · intro h1
      rw [List.filter_eq_self.2 fun j hj => h1 j (List.mem_range.1 hj), List.length_range]
  rw [e, hf]
  constructor
  · intro h1
    have adj : ∀ j (hj : j + 1 < l.length), l[j]'(by omega) < l[j + 1] := fun j hj => by
      have h2 := (keeps_iff _ _).1 (h1 (j + 1) hj)
      rcases h2 with h2 | h2
      · omega
      · have h3 := List.pairwise_iff_getElem.1 h j (j + 1) (by omega) hj (by omega)
        rw [getElem!_pos _ (j + 1) (by simpa using hj), getElem!_pos _ (j + 1 - 1) (by simp; omega)] at h2
        simp only [List.getElem_toArray, Nat.add_sub_cancel] at h2
        by_cases h4 : l[j]'(by omega) < l[j + 1]
        · exact h4
        · exact absurd (List.le_antisymm h4 h3) (fun e => h2 (by rw [e]))
    have key : ∀ n i (hi : i + n + 1 < l.length), l[i]'(by omega) < l[i + n + 1] := fun n => by
      induction n with
      | zero => intro i hi; exact adj i hi
      | succ n ih => intro i hi; exact lt_tr (ih i (by omega)) (adj (i + n + 1) hi)
    refine List.pairwise_iff_getElem.2 fun i j hi hj hij => ?_
    obtain ⟨n, rfl⟩ : ∃ n, j = i + n + 1 := ⟨j - i - 1, by omega⟩
    exact key n i hj
  · intro h1 j hj
    refine (keeps_iff _ _).2 ?_
    by_cases h0 : j = 0
    · exact .inl h0
    · refine .inr fun e => ?_
      have h2 := List.pairwise_iff_getElem.1 h1 (j - 1) j (by omega) hj (by omega)
      rw [getElem!_pos _ j (by simpa using hj), getElem!_pos _ (j - 1) (by simp; omega)] at e
      simp only [List.getElem_toArray] at e
      rw [e] at h2
      exact lt_irr _ h2
theorem up_iff (X : List ByteArray) : Up X ↔ (X.map gb).Pairwise (fun a b => a < b) := by
  unfold Up
  rw [List.pairwise_map]
theorem nodup_sort (X : List ByteArray) : Up (sortP X) ↔ X.Nodup := by
  constructor
  · intro h
    have h1 : (sortP X).Nodup := h.nodup
    have hp : ((X.map gb).mergeSort leS).Perm (X.map gb) := List.mergeSort_perm _ _
    have h2 : ((sortP X).map gb).Nodup := by
      refine List.Pairwise.map gb (fun a b hab e => hab (gb_inj e)) h1
    rw [sortP_gb] at h2
    have h3 := hp.nodup_iff.1 h2
    exact List.Pairwise.of_map gb (fun a b hab e => hab (by rw [e])) h3
  · intro h
    rw [up_iff, sortP_gb]
    have h1 := sorted_le (X.map gb)
    have h2 : ((X.map gb).mergeSort leS).Nodup := (List.mergeSort_perm _ _).nodup_iff.2 (List.Pairwise.map gb (fun a b hab e => hab (gb_inj e)) h)
    refine (h1.and h2).imp fun {a b} hab => ?_
    by_cases h4 : a < b
    · exact h4
    · exact absurd (List.le_antisymm h4 hab.1) (fun e => hab.2 e.symm)
/-- slices.Clone of a row of one's own. -/
theorem clone_own {B n : Nat} {v : Value} {X : List ByteArray} {w : World} (h : w.ownsRow B 9 1 v n (X.map Value.string)) (hn : n * 16 ≤ 140737488355328) :
    Calls Try.prog 24 #[v] w fun e w' => ∃ v', e = .returned v' ∧ w'.ownsRow w.heap.size 9 1 v' n (X.map Value.string) ∧ Below w.heap.size w w' := by
  have hl := h.1
  rw [List.length_map, Nat.mul_one] at hl
  rcases h.2 with ⟨h0, h0'⟩ | ⟨g', cap', cur, e0, hbase, hb, h1, h2, h3⟩
  · subst h0
    have hX : X = [] := List.eq_nil_of_length_eq_zero (by omega)
    subst hX
    refine (Any.slices_Clone_string_nil Try.laysNm216 0 0 w).mono ?_
    rintro e w' ⟨rfl, rfl⟩
    exact ⟨_, rfl, by rw [h0']; exact World.ownsRow_nil _ _ _ _, Below.refl _ _⟩
  · subst e0
    have hc : ∀ j, j < X.length → w.cell? ⟨g', 0 + j, none⟩ = some (.string (X.getD j ByteArray.empty)) := fun j hj => by
      rw [Nat.zero_add, h.cellAt j (by omega), List.getElem?_map, List.getElem?_eq_getElem hj, List.getD_eq_getElem?_getD, List.getElem?_eq_getElem hj]
      rfl
    refine (Any.slices_Clone_string Try.laysNm216 g' 0 n cap' X w (by omega) hn hc).mono ?_
    rintro e w' ⟨v', rfl, ho, _, hbl⟩
    rw [List.take_of_length_le (by omega)] at ho
    exact ⟨v', rfl, ho, hbl⟩
end Go.Proofs.Ytkbhckjpmgkgjaa
