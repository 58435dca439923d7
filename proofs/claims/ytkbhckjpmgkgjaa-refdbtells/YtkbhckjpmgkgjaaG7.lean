/- My own work: a range over a graph's edges; rows of numbers, one for each path; the walk of refs. -/
import Derived.Test.YtkbhckjpmgkgjaaG6
namespace Go.Proofs.Ytkbhckjpmgkgjaa
open Go.RowKit
open Go.ChangeMaps (setBlock)

/-- A range over edges under way: D are those that were told. -/
structure Ran (w : World) (m it : Nat) (E : List (Nat × Nat)) (es : Array MapEntry) (clk : Nat) (ds : List MapEntry) (D : List (Nat × Nat)) : Prop where
  edges : EdgesAt w m E es clk
  iter : ∃ seen, w.heap[it]? = some (.mapIter (some m) clk seen clk) ∧ seen.toList = ds.map (·.born)
  sub : ∀ e ∈ ds, e ∈ es.toList
  keys : ds.map (·.key) = D.map ekey
  nd : D.Nodup
theorem Ran.start {w : World} {m : Nat} {E : List (Nat × Nat)} {es : Array MapEntry} {clk : Nat} (h : EdgesAt w m E es clk) : Ran (w.alloc (.mapIter (some m) clk #[] clk)) m w.heap.size E es clk [] [] :=
  ⟨h.keep (Below.heap_alloc w _ m (Array.getElem?_eq_some_iff.1 h.obj).1), ⟨#[], heap_alloc_new w _, rfl⟩, (fun e he => by cases he), rfl, List.nodup_nil⟩
theorem Ran.keep {w w' : World} {m it : Nat} {E : List (Nat × Nat)} {es : Array MapEntry} {clk : Nat} {ds : List MapEntry} {D : List (Nat × Nat)} (h : Ran w m it E es clk ds D) (h1 : w'.heap[m]? = w.heap[m]?) (h2 : w'.heap[it]? = w.heap[it]?) : Ran w' m it E es clk ds D := by
  obtain ⟨seen, h3, h4⟩ := h.iter
  exact ⟨h.edges.keep h1, ⟨seen, h2.trans h3, h4⟩, h.sub, h.keys, h.nd⟩
theorem Ran.subD {w : World} {m it : Nat} {E : List (Nat × Nat)} {es : Array MapEntry} {clk : Nat} {ds : List MapEntry} {D : List (Nat × Nat)} (h : Ran w m it E es clk ds D) : ∀ x ∈ D, x ∈ E := fun x hx => by
  have h1 : ekey x ∈ ds.map (·.key) := by rw [h.keys]; exact List.mem_map.2 ⟨x, hx, rfl⟩
  obtain ⟨e, he, h2⟩ := List.mem_map.1 h1
  have h3 : e.key ∈ es.toList.map (·.key) := List.mem_map.2 ⟨e, h.sub e he, rfl⟩
  rw [h.edges.keys] at h3
  obtain ⟨y, hy, h4⟩ := List.mem_map.1 h3
  rw [← ekey_inj (h4.trans h2)]
  exact hy
/-- The next of them. -/
theorem Ran.next {w : World} {m it : Nat} {E : List (Nat × Nat)} {es : Array MapEntry} {clk : Nat} {ds : List MapEntry} {D : List (Nat × Nat)} (h : Ran w m it E es clk ds D) (hnd : E.Nodup) (hmi : it ≠ m) (ty : TypeId) :
    ((∀ x ∈ E, x ∈ D) ∧ (Instr.next (.pointer (some ⟨it, 0, none⟩)) false ty).run Try.prog w = .ok (.tuple #[.bool false]) w) ∨
    ∃ x e w2, x ∈ E ∧ x ∉ D ∧ (Instr.next (.pointer (some ⟨it, 0, none⟩)) false ty).run Try.prog w = .ok (.tuple #[.bool true, ekey x, .agg #[]]) w2 ∧ Ran w2 m it E es clk (ds ++ [e]) (D ++ [x]) ∧
      (∀ w3, w3.heap[m]? = w2.heap[m]? → w3.heap[it]? = w2.heap[it]? → (Instr.entry (.pointer (some ⟨it, 0, none⟩))).run Try.prog w3 = .ok (.tuple #[ekey x, .agg #[]]) w3) ∧
      w2.os = w.os ∧ w2.tape = w.tape ∧ w2.output = w.output ∧ w2.heap.size = w.heap.size ∧ ∀ k, k ≠ it → w2.heap[k]? = w.heap[k]? := by
  obtain ⟨seen, h1, h2⟩ := h.iter
  rcases run_next_at (P := Try.prog) w ty it m clk clk seen es clk h1 h.edges.obj h.edges.old (Nat.le_refl _) with ⟨h3, h4⟩ | ⟨e, he, w1, hw1, h4⟩
  · refine .inl ⟨fun x hx => ?_, h4⟩
    have h5 : ekey x ∈ es.toList.map (·.key) := by rw [h.edges.keys]; exact List.mem_map.2 ⟨x, hx, rfl⟩
    obtain ⟨e, he, h6⟩ := List.mem_map.1 h5
    have h7 : seen.contains e.born = true := by
      cases hb : seen.contains e.born with
      | true => rfl
      | false =>
        have : e ∈ leftOf es seen := by
          unfold leftOf
          rw [Array.mem_filter]
          exact ⟨by simpa using he, by simp only [hb]; rfl⟩
        rw [Array.eq_empty_of_size_eq_zero h3] at this
        simp at this
    have h8 : e.born ∈ seen.toList := by simpa using h7
    rw [h2] at h8
    obtain ⟨e', he', h9⟩ := List.mem_map.1 h8
    have h10 : e' = e := by
      obtain ⟨i, hi, rfl⟩ := List.getElem_of_mem he
      obtain ⟨j, hj, hje⟩ := List.getElem_of_mem (h.sub e' he')
      rw [← hje] at h9 ⊢
      have hb := List.pairwise_iff_getElem.1 h.edges.born
      by_cases hij : i < j
      · have := hb i j (by rw [List.length_map]; exact hi) (by rw [List.length_map]; exact hj) hij
        simp only [List.getElem_map] at this
        exact absurd h9.symm this
      · by_cases hji : j < i
        · have := hb j i (by rw [List.length_map]; exact hj) (by rw [List.length_map]; exact hi) hji
          simp only [List.getElem_map] at this
          exact absurd h9 this
        · have : i = j := by omega
          subst this
          rfl
    subst h10
    have h11 : e'.key ∈ ds.map (·.key) := List.mem_map.2 ⟨e', he', rfl⟩
    rw [h.keys, h6] at h11
    obtain ⟨y, hy, h12⟩ := List.mem_map.1 h11
    rw [← ekey_inj h12]
    exact hy
  · have he0 : e ∈ es.toList ∧ seen.contains e.born = false := by
      have h5 : e ∈ leftOf es seen := by simpa using he
      unfold leftOf at h5
      rw [Array.mem_filter] at h5
      exact ⟨by simpa using h5.1, by simpa using h5.2⟩
    have h6 : e.key ∈ es.toList.map (·.key) := List.mem_map.2 ⟨e, he0.1, rfl⟩
    rw [h.edges.keys] at h6
    obtain ⟨x, hx, hxe⟩ := List.mem_map.1 h6
    have hv := h.edges.vals e he0.1
    have hxD : x ∉ D := fun hm => by
      have h7 : ekey x ∈ ds.map (·.key) := by rw [h.keys]; exact List.mem_map.2 ⟨x, hm, rfl⟩
      obtain ⟨e', he', h8⟩ := List.mem_map.1 h7
      -- keys are told once
      have hkn : (es.toList.map (·.key)).Nodup := by
        rw [h.edges.keys]
        exact List.Pairwise.map ekey (fun a b hab e => hab (ekey_inj e)) hnd
      have h9 : e' = e := by
        obtain ⟨i, hi, rfl⟩ := List.getElem_of_mem he0.1
        obtain ⟨j, hj, hje⟩ := List.getElem_of_mem (h.sub e' he')
        rw [← hje] at h8 ⊢
        have hb := List.pairwise_iff_getElem.1 hkn
        have hkk : es.toList[j].key = es.toList[i].key := h8.trans hxe
        by_cases hij : i < j
        · have := hb i j (by rw [List.length_map]; exact hi) (by rw [List.length_map]; exact hj) hij
          simp only [List.getElem_map] at this
          exact absurd hkk.symm this
        · by_cases hji : j < i
          · have := hb j i (by rw [List.length_map]; exact hj) (by rw [List.length_map]; exact hi) hji
            simp only [List.getElem_map] at this
            exact absurd hkk this
          · have : i = j := by omega
            subst this
            rfl
      subst h9
      have h10 : e'.born ∈ seen.toList := by rw [h2]; exact List.mem_map.2 ⟨e', he', rfl⟩
      have h11 : seen.contains e'.born = true := by simpa using h10
      rw [h11] at he0
      exact absurd he0.2 (by decide)
    rw [← hxe, hv] at h4
    have hheap : w1.heap = w.heap := by rcases hw1 with rfl | rfl <;> rfl
    have hosx : w1.os = w.os ∧ w1.tape = w.tape ∧ w1.output = w.output := by rcases hw1 with rfl | rfl <;> exact ⟨rfl, rfl, rfl⟩
    have hil : it < w1.heap.size := by rw [hheap]; exact (Array.getElem?_eq_some_iff.1 h1).1
    have hoth : ∀ k, k ≠ it → (setBlock w1 it (.mapIter (some m) clk (seen.push e.born) clk)).heap[k]? = w.heap[k]? := fun k hk => by rw [setBlock_other hk, hheap]
    refine .inr ⟨x, e, _, hx, hxD, h4, ⟨h.edges.keep (hoth m (Ne.symm hmi)), ⟨seen.push e.born, setBlock_same hil, by rw [Array.toList_push, h2, List.map_append]; rfl⟩, ?_, ?_, ?_⟩, fun w3 h13 h14 => ?_, hosx.1, hosx.2.1, hosx.2.2, by rw [setBlock_size, hheap], hoth⟩
    · intro e' he'
      rcases List.mem_append.1 he' with h15 | h15
      · exact h.sub e' h15
      · rw [List.mem_singleton] at h15
        rw [h15]
        exact he0.1
    · rw [List.map_append, List.map_append, h.keys]
      show _ ++ [e.key] = _ ++ [ekey x]
      rw [hxe]
    · rw [List.nodup_append]
      refine ⟨h.nd, by simp, fun a ha b hb => ?_⟩
      rw [List.mem_singleton] at hb
      subst hb
      exact fun e => hxD (by rw [← e]; exact ha)
    · have := run_entry_at (P := Try.prog) w3 it m clk seen es clk e (h14.trans (setBlock_same hil)) (h13.trans ((hoth m (Ne.symm hmi)).trans h.edges.obj)) he0.1 h.edges.born
      rw [← hxe, hv] at this
      exact this
/-- Rows of numbers, one for each path: they lie apart. -/
structure Rws (w : World) (B r n : Nat) (C : Nat → Value) (T : Nat → List Nat) : Prop where
  row : Row w r ((List.range n).map C).toArray 68
  own : ∀ k, k < n → w.ownsRow B 3 1 (C k) (T k).length ((T k).map fun x : Nat => Value.int .i64 (x : Int))
  apart : ∀ k k', k < n → k' < n → k ≠ k' → ∀ b, (C k).ownBlock = some b → (C k').ownBlock ≠ some b
  lt : r < B
  le : B ≤ w.heap.size
section
variable {w w' : World} {B r n : Nat} {C : Nat → Value} {T : Nat → List Nat}
theorem ownsRow_keep' {w w' : World} {B n s : Nat} {e : TypeId} {v : Value} {xs : List Value} (h : w.ownsRow B e s v n xs) (hb : ∀ g, v.ownBlock = some g → g < w.heap.size → w'.heap[g]? = w.heap[g]?) : w'.ownsRow B e s v n xs := by
  obtain ⟨h1, h2 | ⟨g, cap, cur, e1, e2, e3, e4⟩⟩ := h
  · exact ⟨h1, .inl h2⟩
  · refine ⟨h1, .inr ⟨g, cap, cur, e1, e2, ?_, e4⟩⟩
    refine (hb g ?_ (Array.getElem?_eq_some_iff.1 e3).1).trans e3
    rw [e1]
    rfl
theorem Rws.keep (h : Rws w B r n C T) (hb : ∀ k, k < w.heap.size → (∃ D t fr, w.heap[k]? = some (.cells D t fr)) → w'.heap[k]? = w.heap[k]?) (hs : w.heap.size ≤ w'.heap.size) : Rws w' B r n C T := by
  refine ⟨(hb r h.row.lt ⟨_, _, _, h.row⟩).trans h.row, fun k hk => ownsRow_keep' (h.own k hk) fun g hg hl => ?_, h.apart, h.lt, Nat.le_trans h.le hs⟩
  obtain ⟨D, hD⟩ := ownsRow_row (h.own k hk) g hg
  exact hb g hl ⟨_, _, _, hD⟩
theorem Rws.cell (h : Rws w B r n C T) {k : Nat} (hk : k < n) : w.cell? ⟨r, k, none⟩ = some (C k) := by
  rw [h.row.cell k]
  simp [hk]
/-- One number more in one row: the row's new value is stored. -/
theorem Rws.more (h : Rws w B r n C T) {k x : Nat} (hk : k < n) {v' : Value} (hown : w'.ownsRow B 3 1 v' ((T k).length + 1) ((T k).map (fun x : Nat => Value.int .i64 (x : Int)) ++ [.int .i64 (x : Int)])) (hg : w.grownBy w' (C k).ownBlock) (hor : v'.ownBlock = (C k).ownBlock ∨ v'.ownBlock = some w.heap.size) :
    Rws (w'.setCell ⟨r, k, none⟩ v') B r n (fun j => if j = k then v' else C j) (fun j => if j = k then T k ++ [x] else T j) := by
  have hlt : ∀ j, j < n → ∀ b, (C j).ownBlock = some b → b < w.heap.size ∧ B ≤ b := fun j hj b hb => ownsRow_lt' (h.own j hj) b hb
  have hrk : ∀ b, (C k).ownBlock = some b → b ≠ r := fun b hb => by have := (hlt k hk b hb).2; have := h.lt; omega
  have hr' : w'.heap[r]? = w.heap[r]? := hg.block r h.row.lt (fun e => hrk r e.symm rfl)
  have hst : ∀ q, q ≠ r → (w'.setCell ⟨r, k, none⟩ v').heap[q]? = w'.heap[q]? := fun q hq => heap_setCell_other w' ⟨r, k, none⟩ q v' hq
  refine ⟨?_, fun j hj => ?_, ?_, h.lt, by have := hg.size; have := h.le; simp; omega⟩
  · have h1 : Row w' r ((List.range n).map C).toArray 68 := hr'.trans h.row
    have h2 := h1.setCell (i := k) v'
    have e : ((List.range n).map C).toArray.setIfInBounds k v' = ((List.range n).map fun j => if j = k then v' else C j).toArray := by
      rw [List.setIfInBounds_toArray]
      congr 1
      apply List.ext_getElem
      · simp
      · intro j h3 h4
        rw [List.getElem_set]
        by_cases hjk : k = j
        · subst hjk
          simp
        · simp [hjk, Ne.symm hjk]
    rw [e] at h2
    exact h2
  · by_cases hjk : j = k
    · subst hjk
      simp only [if_true, List.length_append, List.map_append, List.length_cons, List.length_nil]
      refine ownsRow_keep' hown fun g hgo _ => hst g ?_
      have := (ownsRow_lt' hown g hgo).2
      have := h.lt
      omega
    · simp only [if_neg hjk]
      refine ownsRow_keep' (h.own j hj) fun g hgo hl => ?_
      have h5 := hlt j hj g hgo
      refine (hst g (by have := h.lt; omega)).trans (hg.block g hl fun e => ?_)
      exact h.apart j k hj hk hjk g hgo e.symm
  · intro j j' hj hj' hne b hb
    by_cases h1 : j = k
    · subst h1
      rw [if_pos rfl] at hb
      rw [if_neg (Ne.symm hne)]
      rcases hor with h2 | h2
      · rw [h2] at hb
        exact h.apart j j' hj hj' hne b hb
      · rw [h2] at hb
        cases hb
        intro e
        have := (hlt j' hj' _ e).1
        omega
    · rw [if_neg h1] at hb
      by_cases h3 : j' = k
      · subst h3
        rw [if_pos rfl]
        rcases hor with h2 | h2
        · rw [h2]
          exact h.apart j j' hj hj' hne b hb
        · rw [h2]
          intro e
          cases e
          have := (hlt j hj _ hb).1
          omega
      · rw [if_neg h3]
        exact h.apart j j' hj hj' hne b hb
end
end Go.Proofs.Ytkbhckjpmgkgjaa
