/- The walk of digest.Parse. -/
import Derived.Test.YtdgilhclhnchbaaDoorS2Arr
import Derived.Laws.CopyOwn
namespace Go.Proofs.YtdgilhclhnchbaaDoor.S2
open Go.RowKit Math

/-- Block g holds these cells, and they may be written. -/
abbrev Row (w : World) (g : Nat) (C : Array Value) (t : TypeId) : Prop := w.heap[g]? = some (.cells C t (0, 0))
theorem Row.new (w : World) (C : Array Value) (t : TypeId) : Row (w.alloc (.cells C t)) w.heap.size C t := heap_alloc_new w _
theorem Row.lt {w : World} {g : Nat} {C : Array Value} {t : TypeId} (h : Row w g C t) : g < w.heap.size := (Array.getElem?_eq_some_iff.1 h).1
theorem Row.alloc {w : World} {g : Nat} {C : Array Value} {t : TypeId} (h : Row w g C t) (o : Obj) : Row (w.alloc o) g C t := (Below.heap_alloc w o g h.lt).trans h
theorem Row.below {w w' : World} {g B : Nat} {C : Array Value} {t : TypeId} (h : Row w g C t) (hb : Below B w w') (hB : g < B) : Row w' g C t := (hb.block g hB).trans h
theorem Row.setRow {w : World} {g : Nat} {C C' : Array Value} {t : TypeId} (h : Row w g C t) : Row (w.setRow g C') g C' t := setRow_heap w g C C' t _ h
theorem Row.other {w : World} {g k : Nat} {C C' : Array Value} {t : TypeId} (h : Row w g C t) (hk : g ≠ k) : Row (w.setRow k C') g C t := (setRow_other w k g C' hk).trans h

/-- A function whose results are an array that lies in a block and a slot. -/
theorem results_cell_tmp {P : Program} {fn : Func} {p q : Tmp} {ty : TypeId} (h : fn.results = #[.cell p ty, .tmp q]) (tmps : Array Value) (w : World) (g : Nat) (t : TypeId) (cs : Array Value) (d : TypeDesc)
    (hp : tmps.getD p undef = .pointer (some ⟨g, 0, none⟩)) (hg : Row w g cs t)
    (hu : P.underlying ty = some d) (hd : (match d with | .struct _ | .array _ _ => true | _ => false) = true) (hi : (P.info? ty).map (·.size) = some cs.size) :
    (results fn tmps).run P w = .ok (.tuple #[.agg cs, tmps.getD q undef]) w := by
  have hp' : tmps[p]?.getD undef = .pointer (some ⟨g, 0, none⟩) := by simpa using hp
  simp [results, h, hp', asAddr, run_loadVar_row w g t ty cs (0, 0) d hg hu hd hi]

def zeros32 : Array Value := #[.int .u8 0, .int .u8 0, .int .u8 0, .int .u8 0, .int .u8 0, .int .u8 0, .int .u8 0, .int .u8 0, .int .u8 0, .int .u8 0, .int .u8 0, .int .u8 0, .int .u8 0, .int .u8 0, .int .u8 0, .int .u8 0, .int .u8 0, .int .u8 0, .int .u8 0, .int .u8 0, .int .u8 0, .int .u8 0, .int .u8 0, .int .u8 0, .int .u8 0, .int .u8 0, .int .u8 0, .int .u8 0, .int .u8 0, .int .u8 0, .int .u8 0, .int .u8 0]
theorem zeros32_arr : zeros32 = arr (fun _ => 0) 32 := by simp [arr, zeros32, List.range, List.range.loop]
theorem arr_one (f : Nat → Int) (n : Nat) : (arr f n).all (·.oneCell') = true := by
  unfold arr
  apply all_oneCell_toArray
  intro v hv
  simp at hv
  obtain ⟨i, _, rfl⟩ := hv
  rfl
theorem zeros32_one : zeros32.all (·.oneCell') = true := by rw [zeros32_arr]; exact arr_one _ _
theorem info24 : (Tryd.prog.info? 39).map (·.size) = some 32 := by kernel_rfl
theorem zeros32_info : (Tryd.prog.info? 39).map (·.size) = some zeros32.size := info24
theorem info5s : (Tryd.prog.info? 5).map (·.size) = some 1 := by kernel_rfl
/-- A whole array copied into a block that was made last. -/
theorem copy_new (w : World) (t : TypeId) (Z A : Array Value) (n g off cap : Nat) (hZ : Z.size = n) (hA : A.size = n) (h1 : A.all (·.oneCell') = true)
    (hsrc : ∀ j v, A.toList[j]? = some v → (w.alloc (.cells Z t)).cell? ⟨g, off + j, none⟩ = some v) :
    (Builtin.copy_ #[42, 42] 3 #[.slice (some ⟨w.heap.size, 0, none⟩) n n, .slice (some ⟨g, off, none⟩) n cap]).run Tryd.prog (w.alloc (.cells Z t)) = .ok (goInt n) (w.alloc (.cells A t)) := by
  have h := run_copy_row (P := Tryd.prog) (w.alloc (.cells Z t)) 42 42 3 5 w.heap.size 0 n n ⟨g, off, none⟩ n cap Z t A.toList Tryd.underlying42 info5s (heap_alloc_new w _) (by simp [hA]) (fun j v hj => by rw [Addr.add_mid]; exact hsrc j v hj)
    (by simp [hA, hZ]) (fun v hv => Array.all_eq_true_iff_forall_mem.1 h1 v (by simpa using hv))
  rw [h, World.setRow_alloc_new, List.drop_eq_nil_of_le (by simp [hA, hZ])]
  simp [hA]

end Go.Proofs.YtdgilhclhnchbaaDoor.S2
