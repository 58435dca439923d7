/- My own work: edges as a map whose keys are pairs of numbers. -/
import Derived.Test.YtkbhckjpmgkgjaaG1
import Derived.Laws.StructEq
import Derived.WideKeyRuns
import Derived.Maps.RangeRun
namespace Go.Proofs.Ytkbhckjpmgkgjaa
open Go.RowKit
open Go.ChangeMaps (setBlock)

theorem setBlock_same {w : World} {m : Nat} {o : Obj} (h : m < w.heap.size) : (setBlock w m o).heap[m]? = some o := by simp [setBlock, h]
theorem setBlock_other {w : World} {m k : Nat} {o : Obj} (h : k ≠ m) : (setBlock w m o).heap[k]? = w.heap[k]? := by simp [setBlock, Ne.symm h]
theorem setBlock_size (w : World) (m : Nat) (o : Obj) : (setBlock w m o).heap.size = w.heap.size := by simp [setBlock]

/-- A pair of numbers as a key. -/
abbrev ekey (x : Nat × Nat) : Value := .agg #[.int .i64 (x.1 : Int), .int .i64 (x.2 : Int)]
theorem ekey_inj {x y : Nat × Nat} (h : ekey x = ekey y) : x = y := by
  simp only [ekey, Value.agg.injEq, Array.mk.injEq, List.cons.injEq, Value.int.injEq, true_and, and_true] at h
  exact Prod.ext (by omega) (by omega)
theorem fields_edge : Try.prog.fieldsOf 77 = #[{ name := "from", type := 3, offset := 0, embedded := false, tag := "", pkgPath := "stillroom/refdb", byteOffset := 0 }, { name := "to", type := 3, offset := 1, embedded := false, tag := "", pkgPath := "stillroom/refdb", byteOffset := 8 }] := by kernel_rfl
theorem part_int (a b : Value) (w : World) : (part 3 #[a, b] 0).run Try.prog w = .ok a w ∧ (part 3 #[a, b] 1).run Try.prog w = .ok b w := ⟨by kernel_rfl, by kernel_rfl⟩
theorem equal_edge (x y : Nat × Nat) (w : World) : (Op.equal 77 (ekey x) (ekey y)).run Try.prog w = .ok (decide (x = y)) w := by
  obtain ⟨a, b⟩ := x
  obtain ⟨c, d⟩ := y
  have h := run_equalIn_struct (P := Try.prog) w 9999 77 #[.int .i64 (a : Int), .int .i64 (b : Int)] #[.int .i64 (c : Int), .int .i64 (d : Int)] (by rw [fields_edge]; exact Try.underlying77) (by kernel_rfl)
  refine (show (Op.equal 77 (ekey (a, b)) (ekey (c, d))).run Try.prog w = _ from h).trans ?_
  rw [fields_edge]
  have p1 := part_int (.int .i64 (a : Int)) (.int .i64 (b : Int)) w
  have p2 := part_int (.int .i64 (c : Int)) (.int .i64 (d : Int)) w
  have q1 := run_equalIn_int (P := Try.prog) w 9998 3 .i64 .i64 (a : Int) (c : Int) Try.underlying3
  have q2 := run_equalIn_int (P := Try.prog) w 9998 3 .i64 .i64 (b : Int) (d : Int) Try.underlying3
  simp only [Op.eqFields, Sem.run_bind, Sem.run_ite, p1.1, p1.2, p2.1, p2.2, q1, q2, Result.andThen_ok, Sem.run_pure]
  by_cases h1 : a = c
  · subst h1
    by_cases h2 : b = d
    · subst h2
      simp
    · have : ¬ (b : Int) = (d : Int) := by omega
      simp [h2, this]
  · have : ¬ (a : Int) = (c : Int) := by omega
    simp [h1, this]
theorem check_edge (x : Nat × Nat) (em : Bool) (w : World) : (Instr.checkKey em 10000 77 (ekey x)).run Try.prog w = .ok () w := by
  cases em <;> kernel_rfl
theorem asking (x : Nat × Nat) (w : World) : ∀ (es : List MapEntry) (E : List (Nat × Nat)) (i : Nat), es.map (·.key) = E.map ekey →
    (x ∉ E ∧ (Instr.findAsking 77 (ekey x) es i).run Try.prog w = .ok none w) ∨ ∃ j e, es[j]? = some e ∧ e.key = ekey x ∧ x ∈ E ∧ (Instr.findAsking 77 (ekey x) es i).run Try.prog w = .ok (some (i + j, e.val)) w
  | [], E, i, h => by
    have : E = [] := by cases E with | nil => rfl | cons a b => cases h
    subst this
    exact .inl ⟨List.not_mem_nil, by simp [Instr.findAsking]⟩
  | e :: es, E, i, h => by
    cases E with
    | nil => cases h
    | cons y E =>
      simp only [List.map_cons, List.cons.injEq] at h
      have hq := equal_edge x y w
      rw [← h.1] at hq
      by_cases hxy : x = y
      · subst hxy
        rw [decide_eq_true rfl] at hq
        refine .inr ⟨0, e, rfl, h.1, List.mem_cons_self, ?_⟩
        simp [Instr.findAsking, hq]
      · rw [decide_eq_false hxy] at hq
        rcases asking x w es E (i + 1) h.2 with ⟨h1, h2⟩ | ⟨j, e', h1, h2, h3, h4⟩
        · refine .inl ⟨fun hm => ?_, by simp [Instr.findAsking, hq, h2]⟩
          rcases List.mem_cons.1 hm with hm | hm
          · exact hxy hm
          · exact h1 hm
        · refine .inr ⟨j + 1, e', h1, h2, List.mem_cons_of_mem _ h3, ?_⟩
          simp [Instr.findAsking, hq, h4]
          omega
/-- Block m is a map that holds just these edges. -/
structure EdgesAt (w : World) (m : Nat) (E : List (Nat × Nat)) (es : Array MapEntry) (clk : Nat) : Prop where
  obj : w.heap[m]? = some (.map es clk)
  keys : es.toList.map (·.key) = E.map ekey
  vals : ∀ e ∈ es.toList, e.val = .agg #[]
  born : (es.toList.map (·.born)).Nodup
  old : ∀ e ∈ es.toList, e.born < clk
theorem find_edge {w : World} {m : Nat} {E : List (Nat × Nat)} {es : Array MapEntry} {clk : Nat} (h : EdgesAt w m E es clk) (x : Nat × Nat) : (x ∉ E ∧ (Instr.findKey 77 (ekey x) es.toList).run Try.prog w = .ok none w) ∨ ∃ j e, es[j]? = some e ∧ e.key = ekey x ∧ x ∈ E ∧ (Instr.findKey 77 (ekey x) es.toList).run Try.prog w = .ok (some (j, e.val)) w := by
  have he := run_findKey_eq (P := Try.prog) w (k := 77) (by rw [Try.underlying77]) (ekey x) es.toList
  rw [he]
  rcases asking x w es.toList E 0 h.keys with h1 | ⟨j, e, h1, h2, h3, h4⟩
  · exact .inl h1
  · exact .inr ⟨j, e, by simpa using h1, h2, h3, by simpa using h4⟩
/-- An edge is asked for. -/
theorem lookup_edge {w : World} {m : Nat} {E : List (Nat × Nat)} {es : Array MapEntry} {clk : Nat} (h : EdgesAt w m E es clk) (x : Nat × Nat) : (Instr.lookup 49 (.map (some m)) (ekey x) true).run Try.prog w = .ok (.tuple #[.agg #[], .bool (decide (x ∈ E))]) w := by
  have hz : ∀ w, (zeroValue 75).run Try.prog w = .ok (.agg #[]) w := fun w => by kernel_rfl
  have hu := run_underlying (P := Try.prog) Try.underlying49
  have hc := check_edge x es.isEmpty w
  rcases find_edge h x with ⟨h1, h2⟩ | ⟨j, e, h1, h2, h3, h4⟩
  · rw [decide_eq_false h1]
    simp [Instr.lookup, hu, MapKept.run_getObj_map h.obj, hc, h2, hz, Result.andThen]
  · rw [decide_eq_true h3]
    have hv := h.vals e (by simpa using Array.mem_of_getElem? h1)
    rw [hv] at h4
    simp [Instr.lookup, hu, MapKept.run_getObj_map h.obj, hc, h4, Result.andThen]
/-- The edges behind a put. -/
def putE (E : List (Nat × Nat)) (x : Nat × Nat) : List (Nat × Nat) := if x ∈ E then E else E ++ [x]
theorem mem_putE (E : List (Nat × Nat)) (x y : Nat × Nat) : y ∈ putE E x ↔ y ∈ E ∨ y = x := by
  unfold putE
  split
  · rename_i h
    exact ⟨.inl, fun h1 => h1.elim id fun e => by rw [e]; exact h⟩
  · simp
theorem putE_nodup {E : List (Nat × Nat)} (h : E.Nodup) (x : Nat × Nat) : (putE E x).Nodup := by
  unfold putE
  split
  · exact h
  · rename_i hx
    rw [List.nodup_append]
    exact ⟨h, List.nodup_cons.2 ⟨List.not_mem_nil, List.nodup_nil⟩, fun a ha b hb => by
      rw [List.mem_singleton] at hb
      subst hb
      exact fun e => hx (by rw [← e]; exact ha)⟩
/-- An edge is put. -/
theorem put_edge {w : World} {m : Nat} {E : List (Nat × Nat)} {es : Array MapEntry} {clk : Nat} (h : EdgesAt w m E es clk) (x : Nat × Nat) : ∃ es' clk', (Instr.mapUpdate 49 (.map (some m)) (ekey x) (.agg #[])).run Try.prog w = .ok () (setBlock w m (.map es' clk')) ∧ EdgesAt (setBlock w m (.map es' clk')) m (putE E x) es' clk' := by
  have hu := run_underlying (P := Try.prog) Try.underlying49
  have hc := check_edge x false w
  have hlt : m < w.heap.size := (Array.getElem?_eq_some_iff.1 h.obj).1
  have hset : ∀ o, (setObj m o).run Try.prog w = .ok () (setBlock w m o) := fun o => by simp [setObj, Sem.run, h.obj, setBlock]
  rcases find_edge h x with ⟨h1, h2⟩ | ⟨j, e, h1, h2, h3, h4⟩
  · refine ⟨es.push { key := ekey x, val := .agg #[], born := clk }, clk + 1, ?_, ⟨setBlock_same hlt, ?_, ?_, ?_, ?_⟩⟩
    · simp [Instr.mapUpdate, hu, MapKept.run_getObj_map h.obj, hc, h2, hset, Result.andThen]
    · unfold putE
      rw [if_neg h1]
      simp [h.keys]
    · intro e he
      rw [Array.toList_push] at he
      rcases List.mem_append.1 he with he | he
      · exact h.vals e he
      · rw [List.mem_singleton] at he
        rw [he]
    · rw [Array.toList_push, List.map_append, List.nodup_append]
      refine ⟨h.born, by simp, fun a ha b hb => ?_⟩
      simp only [List.map_cons, List.map_nil, List.mem_singleton] at hb
      obtain ⟨e, he, rfl⟩ := List.mem_map.1 ha
      have := h.old e he
      omega
    · intro e he
      rw [Array.toList_push] at he
      rcases List.mem_append.1 he with he | he
      · have := h.old e he
        omega
      · rw [List.mem_singleton] at he
        rw [he]
        exact Nat.lt_succ_self _
  · refine ⟨es, clk, ?_, ⟨setBlock_same hlt, by unfold putE; rw [if_pos h3]; exact h.keys, h.vals, h.born, h.old⟩⟩
    have hv := h.vals e (by simpa using Array.mem_of_getElem? h1)
    have hj : j < es.size := (Array.getElem?_eq_some_iff.1 h1).1
    have hje : es[j] = e := (Array.getElem?_eq_some_iff.1 h1).2
    have hst : (Instr.keyThatStays (ekey x) (ekey x)).run Try.prog w = .ok (ekey x) w := by
      have hb : Instr.sameBits 10000 (ekey x) (ekey x) = true := by
        show (_ && _) = true
        simp [Instr.sameBits]
      simp [Instr.keyThatStays, hb]
    have hmod : (es.modify j fun e => { e with key := ekey x, val := .agg #[] }) = es := by
      apply Array.ext
      · simp
      · intro i h5 h6
        rw [Array.getElem_modify]
        split
        · rename_i hij
          subst hij
          rw [hje, ← h2, ← hv]
        · rfl
    have hk : ((es[j]?).map (·.key)).getD (ekey x) = ekey x := by rw [h1]; exact h2
    simp [Instr.mapUpdate, hu, MapKept.run_getObj_map h.obj, hc, h4, hk, hst, hmod, hset, Result.andThen]
theorem edges_new (w : World) : EdgesAt (w.alloc (.map #[] 0)) w.heap.size [] #[] 0 := ⟨heap_alloc_new w _, rfl, (fun e he => by cases he), List.nodup_nil, (fun e he => by cases he)⟩
theorem EdgesAt.keep {w w' : World} {m : Nat} {E : List (Nat × Nat)} {es : Array MapEntry} {clk : Nat} (h : EdgesAt w m E es clk) (hb : w'.heap[m]? = w.heap[m]?) : EdgesAt w' m E es clk := ⟨hb.trans h.obj, h.keys, h.vals, h.born, h.old⟩
end Go.Proofs.Ytkbhckjpmgkgjaa
