/- A map that a call made: laid into, emptied, new. -/
import Derived.Test.YtdbnnljlbfjobaaGreatDoorMap
namespace Go.Proofs.YtdbnnljlbfjobaaGreatDoor
open Go.RowKit

/-- Of the blocks only g has changed, and none was made. -/
structure One (g : Nat) (w w' : World) : Prop where
  os : w'.os = w.os
  tape : w'.tape = w.tape
  output : w'.output = w.output
  size : w'.heap.size = w.heap.size
  block : ∀ k, k ≠ g → w'.heap[k]? = w.heap[k]?
theorem One.set (w : World) (g : Nat) (o : Obj) : One g w { w with heap := w.heap.setIfInBounds g o } :=
  ⟨rfl, rfl, rfl, by simp, fun k hk => Array.getElem?_setIfInBounds_ne (Ne.symm hk)⟩
theorem One.below {g B : Nat} {w w' : World} (h : One g w w') (hB : B ≤ g) : Below B w w' :=
  ⟨h.os, h.tape, h.output, by rw [h.size]; exact Nat.le_refl _, fun k hk => h.block k (by omega)⟩

theorem MapAt.update {w : World} {gm : Nat} {L : List Pt} (h : MapAt w gm L) (k : Nat) (f : Nat → Int) :
    ∃ w' L', (Instr.mapUpdate 130 (.map (some gm)) (.int .i64 k) (entV f)).run Tryz.prog w = .ok () w' ∧ MapAt w' gm L' ∧ One gm w w' ∧ (∀ x, lookL L' x = if x = k then some f else lookL L x) ∧ (L'.length = if (lookL L k).isSome then L.length else L.length + 1) := by
  have hlt := h.lt
  have hnd := h.nodup
  obtain ⟨es, clock, hb, he, h3, h4⟩ := h.ex
  rcases findNow_at (k : Int) es.toList L 0 he with ⟨j, p, h1, h2, hf⟩ | ⟨h1, hf⟩
  · obtain rfl : p.k = k := by omega
    have hj : j < es.toList.length := by
      have := congrArg List.length he
      simp only [List.length_map] at this
      rw [this]
      exact (List.getElem?_eq_some_iff.1 h1).1
    have hej : ∃ e, es[j]? = some e ∧ e.key = .int .i64 p.k := by
      refine ⟨es.toList[j], by rw [← Array.getElem?_toList, List.getElem?_eq_getElem hj], ?_⟩
      have := congrArg (·[j]?) he
      simp only [List.getElem?_map, h1, List.getElem?_eq_getElem hj, Option.map_some, Option.some.injEq, Prod.mk.injEq] at this
      exact this.1
    obtain ⟨e, hej, hek⟩ := hej
    refine ⟨{ w with heap := w.heap.setIfInBounds gm (.map (es.modify j fun e => { e with key := .int .i64 p.k, val := entV f }) clock) }, L.set j ⟨p.k, f⟩, ?_, ⟨⟨es.modify j fun e => { e with key := .int .i64 p.k, val := entV f }, clock, ?_, ?_, ?_, ?_⟩, ?_⟩, One.set _ _ _, lookL_set hnd h1 f, ?_⟩
    · simp [Instr.mapUpdate, run_underlying Tryz.underlying130, MapKept.run_getObj_map hb, run_check, Instr.findKey, run_underlying Tryz.underlying3, hf, hej, hek, MapKept.run_keyThatStays (show MapKept.IsKey (.int .i64) (.int .i64 (p.k : Int)) by simp [MapKept.IsKey]), MapKept.run_setObj_map _ hb]
    · simp [Array.getElem?_setIfInBounds_self_of_lt hlt]
    · rw [Array.toList_modify]
      apply List.ext_getElem?
      intro i
      have hi := congrArg (·[i]?) he
      simp only [List.getElem?_map] at hi
      rw [List.getElem?_map, List.getElem?_map, List.getElem?_modify, List.getElem?_set]
      by_cases hij : j = i
      · subst hij
        rw [if_pos rfl, if_pos (List.getElem?_eq_some_iff.1 h1).1, List.getElem?_eq_getElem hj]
        simp
      · rw [if_neg hij, ← hi]
        cases es.toList[i]? <;> simp [hij]
    · intro x hx
      rw [Array.toList_modify] at hx
      obtain ⟨i, hi⟩ := List.getElem?_of_mem hx
      rw [List.getElem?_modify] at hi
      cases hei : es.toList[i]? with
      | none => rw [hei] at hi; simp at hi
      | some y =>
        rw [hei] at hi
        have := h3 y (List.mem_of_getElem? hei)
        by_cases hij : j = i
        · simp [hij] at hi; subst hi; exact this
        · simp [hij] at hi; subst hi; exact this
    · have : (es.modify j fun e => { e with key := Value.int .i64 p.k, val := entV f }).toList.map (·.born) = es.toList.map (·.born) := by
        rw [Array.toList_modify]
        apply List.ext_getElem?
        intro i
        rw [List.getElem?_map, List.getElem?_map, List.getElem?_modify]
        cases es.toList[i]? with
        | none => rfl
        | some y => by_cases hij : j = i <;> simp [hij]
      rw [this]
      exact h4
    · have : (L.set j ⟨p.k, f⟩).map Pt.k = L.map Pt.k := by
        apply List.ext_getElem?
        intro i
        rw [List.getElem?_map, List.getElem?_map, List.getElem?_set]
        by_cases hij : j = i
        · subst hij
          rw [if_pos rfl, if_pos (List.getElem?_eq_some_iff.1 h1).1, h1]
          rfl
        · rw [if_neg hij]
      rw [this]
      exact hnd
    · rw [lookL_some hnd h1]; simp
  · have h1' : ∀ p ∈ L, p.k ≠ k := fun p hp e => h1 p hp (by rw [e])
    refine ⟨{ w with heap := w.heap.setIfInBounds gm (.map (es.push { key := .int .i64 k, val := entV f, born := clock }) (clock + 1)) }, L ++ [⟨k, f⟩], ?_, ⟨⟨es.push { key := .int .i64 k, val := entV f, born := clock }, clock + 1, ?_, ?_, ?_, ?_⟩, ?_⟩, One.set _ _ _, lookL_append f h1', ?_⟩
    · simp [Instr.mapUpdate, run_underlying Tryz.underlying130, MapKept.run_getObj_map hb, run_check, Instr.findKey, run_underlying Tryz.underlying3, hf, MapKept.run_setObj_map _ hb]
    · simp [Array.getElem?_setIfInBounds_self_of_lt hlt]
    · simp [he]
    · intro x hx
      simp only [Array.toList_push, List.mem_append, List.mem_singleton] at hx
      rcases hx with hx | rfl
      · have := h3 x hx; omega
      · simp
    · simp only [Array.toList_push, List.map_append, List.map_cons, List.map_nil]
      refine List.nodup_append.2 ⟨h4, by simp, ?_⟩
      intro a ha b hb'
      simp only [List.mem_singleton] at hb'
      obtain ⟨x, hx, rfl⟩ := List.mem_map.1 ha
      have := h3 x hx
      omega
    · simp only [List.map_append, List.map_cons, List.map_nil]
      refine List.nodup_append.2 ⟨hnd, by simp, ?_⟩
      intro a ha b hb'
      simp only [List.mem_singleton] at hb'
      obtain ⟨x, hx, rfl⟩ := List.mem_map.1 ha
      rw [hb']
      exact h1' x hx
    · rw [lookL_none h1']; simp

theorem MapAt.clear {w : World} {gm : Nat} {L : List Pt} (h : MapAt w gm L) (ty : TypeId) : ∃ w', (Builtin.clear_ #[130] ty #[.map (some gm)]).run Tryz.prog w = .ok (.tuple #[]) w' ∧ MapAt w' gm [] ∧ One gm w w' := by
  have hlt := h.lt
  obtain ⟨es, clock, hb, _⟩ := h.ex
  refine ⟨{ w with heap := w.heap.setIfInBounds gm (.map #[] clock) }, ?_, ⟨⟨#[], clock, ?_, rfl, (fun _ h => nomatch h), List.nodup_nil⟩, List.nodup_nil⟩, One.set _ _ _⟩
  · simp [Builtin.clear_, run_underlying Tryz.underlying130, MapKept.run_getObj_map hb, MapKept.run_setObj_map _ hb]
  · simp [Array.getElem?_setIfInBounds_self_of_lt hlt]
theorem MapAt.made (w : World) : MapAt (w.alloc (.map #[] 0)) w.heap.size [] :=
  ⟨⟨#[], 0, heap_alloc_new w _, rfl, (fun _ h => nomatch h), List.nodup_nil⟩, List.nodup_nil⟩
end Go.Proofs.YtdbnnljlbfjobaaGreatDoor
