/- Events as values; the walk of flush. -/
import Derived.Test.YtdbnnljlbfjobaaGreatDoorMake
import Derived.Test.YtdbnnljlbfjobaaGreatDoorPerm
import Derived.Great.FillDense
import Derived.Great.BuildSlice
namespace Go.Proofs.YtdbnnljlbfjobaaGreatDoor
open Go.RowKit Go.Great

def evA (e : Ev) : Array Value := e.cells.toArray
theorem evA_size (e : Ev) : (evA e).size = 257 := by simp [evA, Ev.cells_len]
theorem evA_one (e : Ev) : (evA e).all (·.oneCell') = true := all_oneCell_toArray (Ev.cells_one e)
def zeroEv : Ev := ⟨0, fun _ => 0⟩
theorem info65 : (Tryz.prog.info? 101).map (fun i => (i.zero, i.size)) = some (some (.agg (evA zeroEv)), 257) := by kernel_rfl
theorem info65b : (Tryz.prog.info? 101).map (fun i => (i.zero, i.size, i.bytes)) = some (some (.agg (evA zeroEv)), 257, 264) := by kernel_rfl
theorem info65s : (Tryz.prog.info? 101).map (·.size) = some 257 := by kernel_rfl
theorem built_flush : Tryz.prog.built 101 [(0, .int .i64 (-1))] = some (evA flushEv) := by kernel_rfl

theorem places65 : (match Tryz.prog.underlying 101 with | some (.struct fields) => fields.toList.mapM (fun f => (Tryz.prog.info? f.type).map fun i => (f.offset, i.size)) | _ => none) = some [(0, 1), (1, 256)] := by kernel_rfl
set_option maxRecDepth 20000 in
theorem built_write (n : Int) (f : Nat → Int) : Tryz.prog.built 101 [(0, .int .i64 n), (1, .agg (byts f 256).toArray)] = some (evA ⟨n, f⟩) := by
  obtain ⟨i0, hi, hzz⟩ := Option.map_eq_some_iff.1 info65
  simp only [Prod.mk.injEq] at hzz
  have hp := places65
  unfold Program.built
  rw [hi]
  rw [Tryz.underlying101] at hp ⊢
  simp only [hzz.1, hp]
  have hz : (Value.agg (evA zeroEv)).cells.size = 257 := evA_size _
  have hb : (Value.agg (byts f 256).toArray).cells.size = 256 := by simp [Value.cells, byts_len]
  generalize hZ : (Value.agg (evA zeroEv)).cells = Z at *
  have hc0 : (Value.int IntKind.i64 n).cells = #[.int .i64 n] := rfl
  simp only [Instr.fill, hc0, List.size_toArray, List.length_cons, List.length_nil, hz]
  simp only [show (#[(0, 1), (1, 256)] : Array (Nat × Nat))[0]? = some (0, 1) from rfl, show (#[(0, 1), (1, 256)] : Array (Nat × Nat))[1]? = some (1, 256) from rfl]
  simp only [hb]
  have e1 : (#[Value.int IntKind.i64 n].zipIdx.foldl (fun cs (x : Value × Nat) => cs.setIfInBounds (0 + x.2) x.1) Z) = Z.setIfInBounds 0 (.int .i64 n) := by simp
  simp only [e1, Array.size_setIfInBounds, hz]
  rw [if_neg (by simp), if_neg (by simp)]
  have hA : (Value.agg (byts f 256).toArray).cells = (byts f 256).toArray := rfl
  rw [hA]
  have hf := foldl_set 1 (byts f 256) 0 (Z.setIfInBounds 0 (.int .i64 n))
  simp only [Array.size_setIfInBounds, hz, byts_len] at hf
  have hcv : ((byts f 256).toArray.zipIdx.foldl (fun cs (x : Value × Nat) => cs.setIfInBounds (1 + x.2) x.1) (Z.setIfInBounds 0 (.int .i64 n))) = (((byts f 256).zipIdx 0).foldl (fun cs (x : Value × Nat) => cs.setIfInBounds (1 + x.2) x.1) (Z.setIfInBounds 0 (.int .i64 n))) := by
    rw [← Array.foldl_toList]
    simp
  rw [hcv]
  refine congrArg some ?_
  apply Array.ext_getElem?
  intro k
  rw [hf.2 k]
  have he : (evA ⟨n, f⟩)[k]? = (Ev.cells ⟨n, f⟩)[k]? := by simp [evA]
  rw [he]
  cases k with
  | zero =>
    rw [if_neg (by omega)]
    simp [Ev.cells, hz]
  | succ k =>
    simp only [Ev.cells, List.getElem?_cons_succ]
    by_cases hk : k < 256
    · rw [if_pos (by omega), show k + 1 - (1 + 0) = k by omega]
    · rw [if_neg (by omega), List.getElem?_eq_none (by rw [byts_len]; omega), Array.getElem?_eq_none (by simp [hz]; omega)]

/-- One event as a slice of its own. -/
theorem one_event (e : Ev) (w : World) : (Instr.buildSlice 58 1 #[(0, .agg (evA e))]).run Tryz.prog w = .ok (.slice (some ⟨w.heap.size, 0, none⟩) 1 1) (w.alloc (.cells (evA e) 101)) := by
  obtain ⟨i0, hi, hzz⟩ := Option.map_eq_some_iff.1 info65
  simp only [Prod.mk.injEq] at hzz
  refine run_buildSlice w 58 101 1 _ _ i0 _ Tryz.underlying58 hi hzz.1 (by rw [hzz.2]; decide) (by rw [hzz.2]; decide) ?_
  have h := fill_whole (s := 257) (by decide) [.agg (evA e)] ((Array.range (1 * i0.size)).map ((Value.agg (evA zeroEv)).cells[· % (Value.agg (evA zeroEv)).cells.size]!)) (fun v hv => by simp at hv; subst hv; exact evA_size e) (by simp [hzz.2])
  rw [hzz.2] at h ⊢
  simpa [Value.cells] using h

section
variable {ops : Array Oper} {rest : List Oper} {o : Oper} {a : Act} {w : World} {Q : Exit → Act → World → Prop}
theorem wpList_build (hgd : o.guard = none) (t : TypeId) (ps : Array (Nat × Operand)) (ho : o.op = .build t ps) (parts : Array (Nat × Value)) (hp : (ps.map fun x => (x.1, a.eval x.2)) = parts) (C : Array Value) (hb : Tryz.prog.built t parts.toList = some C)
    (k : wpList Tryz.prog ops Q rest (a.put o.dst (.agg C)) w) : wpList Tryz.prog ops Q (o :: rest) a w :=
  wpList_plain hgd fun K hK => by
    subst hp
    unfold Oper.wp execOp
    simp only [ho, Sem.run_bind, run_build (P := Tryz.prog) w t _ C hb, Result.andThen_ok]
    exact hK _ _ k
end

theorem results26 : Tryz.f83.results = #[.cell 0 101] := by kernel_rfl

set_option maxRecDepth 20000 in
set_option maxHeartbeats 1000000 in
theorem flush_any (w : World) : Calls Tryz.prog 83 #[] w fun e w' => e = .returned (.agg (evA flushEv)) ∧ w' = w.alloc (.cells (evA flushEv) 101) := by
  have hz := (zero_of_info info65).1
  have hbl := built_flush
  have hs := evA_size flushEv
  have hone := evA_one flushEv
  have hz0 := evA_size zeroEv
  generalize evA flushEv = A at *
  generalize evA zeroEv = Z at *
  have hi : (Tryz.prog.info? 101).map (·.size) = some A.size := by rw [hs]; exact info65s
  have HB : Hid _ := hbl
  clear hbl
  go_enter Tryz.func83, Tryz.ntmps83
  go_wp2_with (first
    | refine wpList_build rfl 101 _ rfl #[(0, .int .i64 (-1))] (by simp only [List.map_toArray, List.map_cons, List.map_nil]; rfl) A HB.out ?_
    | (refine wpList_store_row rfl 101 _ _ rfl w.heap.size A rfl rfl 101 Z (Row.new w Z 101) hi (hz0.trans hs.symm) hone ?_; rw [World.setRow_alloc_new]))
  refine bodyPost_ret (results_cell_row results26 _ _ w.heap.size 101 _ (0, 0) _ rfl (Row.new w A 101) Tryz.underlying101 rfl hi) rfl ⟨rfl, rfl⟩
end Go.Proofs.YtdbnnljlbfjobaaGreatDoor
