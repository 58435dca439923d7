/- The walk of digest.Parse. Two digests compared: they are the same if all their bytes are. Statements whose order is drawn, in a class of worlds that their loads and calls keep: one walk in the text's order, an operation at a time. The walks of the document's own bit and Encode. The walk of the document's own Short. -/
import Derived.Test.YthidlckipiamkaaDoorXA
import Derived.Laws.CopyOwn
import Derived.DeepKeys
import Derived.BigQuiet
namespace Go.Proofs.YthidlckipiamkaaDoor.S2
set_option maxRecDepth 20000
open Go.RowKit Math

/-- Block g holds these cells, and they may be written. -/
abbrev Row (w : World) (g : Nat) (C : Array Value) (t : TypeId) : Prop := w.heap[g]? = some (.cells C t (0, 0))
theorem Row.new (w : World) (C : Array Value) (t : TypeId) : Row (w.alloc (.cells C t)) w.heap.size C t := heap_alloc_new w _
theorem Row.lt {w : World} {g : Nat} {C : Array Value} {t : TypeId} (h : Row w g C t) : g < w.heap.size := (Array.getElem?_eq_some_iff.1 h).1
theorem Row.alloc {w : World} {g : Nat} {C : Array Value} {t : TypeId} (h : Row w g C t) (o : Obj) : Row (w.alloc o) g C t := (Below.heap_alloc w o g h.lt).trans h
theorem Row.below {w w' : World} {g B : Nat} {C : Array Value} {t : TypeId} (h : Row w g C t) (hb : Below B w w') (hB : g < B) : Row w' g C t := (hb.block g hB).trans h
theorem Row.setRow {w : World} {g : Nat} {C C' : Array Value} {t : TypeId} (h : Row w g C t) : Row (w.setRow g C') g C' t := setRow_heap w g C C' t _ h
theorem Row.other {w : World} {g k : Nat} {C C' : Array Value} {t : TypeId} (h : Row w g C t) (hk : g ≠ k) : Row (w.setRow k C') g C t := (setRow_other w k g C' hk).trans h

/-- A function whose results are an array that lies in a block and a slot. -/
theorem results_cell_tmp {P : Program} {fn : Func} {p q : Tmp} {ty : TypeId} (h : fn.results = #[.cell p ty, .tmp q]) (tmps : Array Value) (w : World) (g : Nat) (t : TypeId) (cs : Array Value) (d : TypeDesc)
    (hp : tmps.getD p undef = .pointer (some ⟨g, 0, none⟩)) (hg : Row w g cs t)
    (hu : P.underlying ty = some d) (hd : (match d with | .struct _ | .array _ _ => true | _ => false) = true) (hi : (P.info? ty).map (·.size) = some cs.size) :
    (results fn tmps).run P w = .ok (.tuple #[.agg cs, tmps.getD q undef]) w := by
  have hp' : tmps[p]?.getD undef = .pointer (some ⟨g, 0, none⟩) := by simpa using hp
  simp [results, h, hp', asAddr, run_loadVar_row w g t ty cs (0, 0) d hg hu hd hi]

def zeros32 : Array Value := #[.int .u8 0, .int .u8 0, .int .u8 0, .int .u8 0, .int .u8 0, .int .u8 0, .int .u8 0, .int .u8 0, .int .u8 0, .int .u8 0, .int .u8 0, .int .u8 0, .int .u8 0, .int .u8 0, .int .u8 0, .int .u8 0, .int .u8 0, .int .u8 0, .int .u8 0, .int .u8 0, .int .u8 0, .int .u8 0, .int .u8 0, .int .u8 0, .int .u8 0, .int .u8 0, .int .u8 0, .int .u8 0, .int .u8 0, .int .u8 0, .int .u8 0, .int .u8 0]
theorem zeros32_arr : zeros32 = arr (fun _ => 0) 32 := by simp [arr, zeros32, List.range, List.range.loop]
theorem arr_one (f : Nat → Int) (n : Nat) : (arr f n).all (·.oneCell') = true := by
  unfold arr
  apply all_oneCell_toArray
  intro v hv
  simp at hv
  obtain ⟨i, _, rfl⟩ := hv
  rfl
theorem zeros32_one : zeros32.all (·.oneCell') = true := by rw [zeros32_arr]; exact arr_one _ _
theorem info24 : (Tryd.prog.info? 52).map (·.size) = some 32 := by kernel_rfl
theorem zeros32_info : (Tryd.prog.info? 52).map (·.size) = some zeros32.size := info24
theorem info5s : (Tryd.prog.info? 5).map (·.size) = some 1 := by kernel_rfl
theorem results14 : Tryd.f21.results = #[.cell 2 52, .tmp 3] := by kernel_rfl

/-- A whole array copied into a block that was made last. -/
theorem copy_new (w : World) (t : TypeId) (Z A : Array Value) (n g off cap : Nat) (hZ : Z.size = n) (hA : A.size = n) (h1 : A.all (·.oneCell') = true)
    (hsrc : ∀ j v, A.toList[j]? = some v → (w.alloc (.cells Z t)).cell? ⟨g, off + j, none⟩ = some v) :
    (Builtin.copy_ #[38, 38] 3 #[.slice (some ⟨w.heap.size, 0, none⟩) n n, .slice (some ⟨g, off, none⟩) n cap]).run Tryd.prog (w.alloc (.cells Z t)) = .ok (goInt n) (w.alloc (.cells A t)) := by
  have h := run_copy_row (P := Tryd.prog) (w.alloc (.cells Z t)) 38 38 3 5 w.heap.size 0 n n ⟨g, off, none⟩ n cap Z t A.toList Tryd.underlying38 info5s (heap_alloc_new w _) (by simp [hA]) (fun j v hj => by rw [Addr.add_mid]; exact hsrc j v hj)
    (by simp [hA, hZ]) (fun v hv => Array.all_eq_true_iff_forall_mem.1 h1 v (by simpa using hv))
  rw [h, World.setRow_alloc_new, List.drop_eq_nil_of_le (by simp [hA, hZ])]
  simp [hA]

set_option maxHeartbeats 400000 in
theorem parse_ok (s : ByteArray) (f : Nat → Int) (w : World)
    (HD : ∀ wr, Below w.heap.size w wr → Calls Tryd.prog 32 #[.string s] wr fun e w' => ∃ v, e = .returned (.tuple #[v, .int .i64 0]) ∧ Below wr.heap.size wr w' ∧ w'.ownsRow wr.heap.size 5 1 v 32 (arr f 32).toList) :
    Calls Tryd.prog 21 #[.string s] w fun e w' => e = .returned (.tuple #[.agg (arr f 32), .int .i64 0]) ∧ Below w.heap.size w w' := by
  obtain ⟨Z, hZ⟩ : ∃ Z, Z = zeros32 := ⟨_, rfl⟩
  have hZs : Z.size = 32 := by rw [hZ]; rfl
  have hone := arr_one f 32
  have hAs := arr_size f 32
  generalize arr f 32 = A at *
  have hi24 : (Tryd.prog.info? 52).map (·.size) = some A.size := by rw [hAs]; exact info24
  have hb0 : Below w.heap.size w (w.alloc (.cells Z 52)) := (Below.refl _ _).alloc (Nat.le_refl _) _
  have HD1 := HD _ hb0
  clear HD
  unfold zeros32 at hZ
  go_enter Tryd.func21, Tryd.ntmps21
  go_wp2_with fail
  rw [← hZ]
  refine HD1.mono ?_
  rintro e w1 ⟨v, rfl, hb1, hown⟩
  clear HD1
  have hown' := hown
  obtain ⟨_, ⟨_, h0⟩ | ⟨g, cap, cur, rfl, _⟩⟩ := hown
  · exact absurd h0 (by decide)
  have hs1 := hb1.size
  simp only [World.size_alloc] at hs1
  have hcp := copy_new w1 52 Z A 32 g 0 cap hZs hAs hone (fun j u hj => by
    have hj' : j < 32 := by simpa [hAs] using (List.getElem?_eq_some_iff.1 hj).1
    have hc := hown'.cellAt j hj'
    rw [Nat.zero_add, World.cell?_alloc_lt _ _ _ (World.block_lt_of_cell? w1 _ (hc.trans hj)), hc, hj])
  rw [hZ] at hcp
  have hR : Row (w1.alloc (.cells A 52)) w.heap.size Z 52 := ((Row.new w Z 52).below hb1 (by simp)).alloc _
  have hD : Row (w1.alloc (.cells A 52)) w1.heap.size A 52 := Row.new w1 A 52
  have hbb : Below w.heap.size w (w1.alloc (.cells A 52)) := (hb0.trans (hb1.mono (by simp))).alloc (by omega) _
  have H1 : Hid _ := hone
  clear hown' hone
  go_wp2_with (first | refine wpList_load_row rfl 52 _ rfl _ rfl 52 A (0, 0) _ hD Tryd.underlying52 rfl hi24 ?_ | refine wpList_store_row rfl 52 _ _ rfl w.heap.size A rfl rfl 52 Z hR hi24 (hZs.trans hAs.symm) H1.out ?_)
  refine bodyPost_ret (results_cell_tmp results14 _ _ w.heap.size 52 A _ rfl hR.setRow Tryd.underlying52 rfl hi24) rfl ⟨rfl, below_setRow hbb (Nat.le_refl _) _⟩

set_option maxHeartbeats 400000 in
theorem parse_bad (s : ByteArray) (w : World)
    (HD : ∀ wr, Below w.heap.size w wr → Calls Tryd.prog 32 #[.string s] wr fun e w' => e = .returned (.tuple #[.slice none 0 0, .int .i64 10]) ∧ Below wr.heap.size wr w') :
    Calls Tryd.prog 21 #[.string s] w fun e w' => e = .returned (.tuple #[.agg (arr (fun _ => 0) 32), .int .i64 10]) ∧ Below w.heap.size w w' := by
  rw [← zeros32_arr]
  obtain ⟨Z, hZ⟩ : ∃ Z, Z = zeros32 := ⟨_, rfl⟩
  have hZs : Z.size = 32 := by rw [hZ]; rfl
  rw [← hZ]
  have hb0 : Below w.heap.size w (w.alloc (.cells Z 52)) := (Below.refl _ _).alloc (Nat.le_refl _) _
  have HD1 := HD _ hb0
  clear HD
  have HZ : Hid _ := hZ
  unfold zeros32 at hZ
  go_enter Tryd.func21, Tryd.ntmps21
  go_wp2_with fail
  rw [← hZ]
  refine HD1.mono ?_
  rintro e w1 ⟨rfl, hb1⟩
  clear HD1
  have hR : Row w1 w.heap.size Z 52 := (Row.new w Z 52).below hb1 (by simp)
  have hbb : Below w.heap.size w w1 := hb0.trans (hb1.mono (by simp))
  have hZi : (Tryd.prog.info? 52).map (·.size) = some Z.size := by rw [hZs]; exact info24
  go_wp2_with (refine wpList_store_row rfl 52 _ _ rfl w.heap.size zeros32 rfl rfl 52 Z hR zeros32_info (show Z.size = zeros32.size from hZs) zeros32_one ?_)
  rw [← HZ.out]
  refine bodyPost_ret (results_cell_tmp results14 _ _ w.heap.size 52 Z _ rfl hR.setRow Tryd.underlying52 rfl hZi) rfl ⟨rfl, below_setRow hbb (Nat.le_refl _) _⟩

set_option maxHeartbeats 400000 in
theorem parse_long (s : ByteArray) (q : Nat) (xs : List Value) (w : World) (hq : q ≠ 32) (hq' : q ≤ 281474976710656)
    (HD : ∀ wr, Below w.heap.size w wr → Calls Tryd.prog 32 #[.string s] wr fun e w' => ∃ v, e = .returned (.tuple #[v, .int .i64 0]) ∧ Below wr.heap.size wr w' ∧ w'.ownsRow wr.heap.size 5 1 v q xs) :
    Calls Tryd.prog 21 #[.string s] w fun e w' => e = .returned (.tuple #[.agg (arr (fun _ => 0) 32), .int .i64 10]) ∧ Below w.heap.size w w' := by
  rw [← zeros32_arr]
  obtain ⟨Z, hZ⟩ : ∃ Z, Z = zeros32 := ⟨_, rfl⟩
  have hZs : Z.size = 32 := by rw [hZ]; rfl
  rw [← hZ]
  have hb0 : Below w.heap.size w (w.alloc (.cells Z 52)) := (Below.refl _ _).alloc (Nat.le_refl _) _
  have HD1 := HD _ hb0
  clear HD
  have HZ : Hid _ := hZ
  unfold zeros32 at hZ
  go_enter Tryd.func21, Tryd.ntmps21
  go_wp2_with fail
  rw [← hZ]
  refine HD1.mono ?_
  rintro e w1 ⟨v, rfl, hb1, hown⟩
  clear HD1
  have hs1 := hb1.size
  simp only [World.size_alloc] at hs1
  have hR : Row (w1.alloc (.cells Z 52)) w.heap.size Z 52 := ((Row.new w Z 52).below hb1 (by simp)).alloc _
  have hbb : Below w.heap.size w (w1.alloc (.cells Z 52)) := (hb0.trans (hb1.mono (by simp))).alloc (by omega) _
  have hZi : (Tryd.prog.info? 52).map (·.size) = some Z.size := by rw [hZs]; exact info24
  obtain ⟨_, ⟨rfl, rfl⟩ | ⟨g, cap, cur, rfl, _⟩⟩ := hown
  all_goals
    go_wp2_with (refine wpList_store_row rfl 52 _ _ rfl w.heap.size zeros32 rfl rfl 52 Z (by rw [← hZ]; exact hR) zeros32_info (show Z.size = zeros32.size from hZs) zeros32_one ?_)
    rw [← HZ.out, ← hZ]
    refine bodyPost_ret (results_cell_tmp results14 _ _ w.heap.size 52 Z _ rfl hR.setRow Tryd.underlying52 rfl hZi) rfl ⟨rfl, below_setRow hbb (Nat.le_refl _) _⟩
end Go.Proofs.YthidlckipiamkaaDoor.S2
namespace Go.Proofs.YthidlckipiamkaaDoor.S2
set_option maxRecDepth 20000
open Go.RowKit Math

/-- Are the first n bytes the same? -/
def same (n : Nat) (f g : Nat → Int) : Bool := (List.range n).all fun i => f i == g i

theorem same_iff_all (n : Nat) (f g : Nat → Int) : same n f g = true ↔ ∀ i, i < n → f i = g i := by simp [same]
theorem same_refl (n : Nat) (f : Nat → Int) : same n f f = true := (same_iff_all n f f).2 fun _ _ => rfl

theorem part_arr (f : Nat → Int) (n i : Nat) (hi : i < n) (w : World) : (part 5 (arr f n) (i * 1)).run Tryd.prog w = .ok (.int .u8 (f i)) w := by
  rw [Nat.mul_one]
  simp [part, isAgg, run_underlying Tryd.underlying5, arr_at f n i hi]

theorem eqItems_arr (f g : Nat → Int) (n d : Nat) (w : World) : ∀ is : List Nat, (∀ i ∈ is, i < n) → (Op.eqItems (d + 1) 5 1 (arr f n) (arr g n) is).run Tryd.prog w = .ok (is.all fun i => f i == g i) w
  | [], _ => by simp [Op.eqItems]
  | i :: is, h => by
    have h1 := part_arr f n i (h i (by simp)) w
    have h2 := part_arr g n i (h i (by simp)) w
    have ih := eqItems_arr f g n d w is (fun j hj => h j (by simp [hj]))
    have h3 := run_equalIn_int (P := Tryd.prog) w d 5 .u8 .u8 (f i) (g i) Tryd.underlying5
    simp only [Op.eqItems, Sem.run_bind, h1, h2, h3, Result.andThen_ok, List.all_cons]
    cases hb : (f i == g i)
    · simp
    · simpa using ih

theorem eq_arr (f g : Nat → Int) (t : TypeId) (hu : Tryd.prog.underlying t = some (.array 32 5)) (w : World) : (Op.equalIn 10000 t (.agg (arr f 32)) (.agg (arr g 32))).run Tryd.prog w = .ok (same 32 f g) w := by
  obtain ⟨i0, hi, _, hz1, _⟩ := info_parts Tryd.info5
  rw [run_equalIn_array w 9999 (arr f 32) (arr g 32) hu hi]
  have h := eqItems_arr f g 32 9998 w (List.range 32) (fun i hi => by simpa using hi)
  simpa [hz1, same, Program.cellsOf, hi] using h
end Go.Proofs.YthidlckipiamkaaDoor.S2
namespace Go.Proofs.YthidlckipiamkaaDoor.S2
set_option maxRecDepth 20000
open Go.RowKit Math
section
variable {P : Program} {ops : Array Oper} {C : World → Prop} {Q : Act → Prop} {a : Act} {o : Oper} {rest : List Oper}

theorem q_value (v : Value) (hw : Region.wanted o (yielded ops a.tmps) = true) (h : ∀ w, C w → (execOp a.eval o).run P w = .ok (.value v) w) (k : wpQuiet P ops C Q rest (a.put o.dst v)) : wpQuiet P ops C Q (o :: rest) a :=
  BigFrame.wpQuiet_want hw fun K hK => ⟨v, fun w hC => by unfold Oper.quietAt; rw [h w hC]; exact ⟨rfl, rfl⟩, hK _ k⟩

theorem q_call (v : Value) (hw : Region.wanted o (yielded ops a.tmps) = true) (f : FuncId) (args : Array Value) (h : ∀ w, C w → (execOp a.eval o).run P w = .ok (.enter f args) w)
    (hc : ∀ w, C w → Calls P f args w fun e w'' => e = .returned v ∧ C w'') (k : wpQuiet P ops C Q rest (a.put o.dst v)) : wpQuiet P ops C Q (o :: rest) a :=
  BigFrame.wpQuiet_want hw fun K hK => ⟨v, fun w hC => by unfold Oper.quietAt; rw [h w hC]; exact ⟨rfl, hc w hC⟩, hK _ k⟩

theorem q_move (x : Operand) (ho : o.op = .move x) (hw : Region.wanted o (yielded ops a.tmps) = true) (k : wpQuiet P ops C Q rest (a.put o.dst (a.eval x))) : wpQuiet P ops C Q (o :: rest) a :=
  BigFrame.wpQuiet_want hw fun _ hK => BigFrame.quiet_move x ho (hK _ k)
theorem q_assign (x : Operand) (ho : o.op = .assign x) (hw : Region.wanted o (yielded ops a.tmps) = true) (k : wpQuiet P ops C Q rest (a.put o.dst (a.eval x))) : wpQuiet P ops C Q (o :: rest) a :=
  BigFrame.wpQuiet_want hw fun _ hK => BigFrame.quiet_assign x ho (hK _ k)

theorem q_load (ty : TypeId) (x : Operand) (ho : o.op = .load ty x) (hw : Region.wanted o (yielded ops a.tmps) = true) (g : Nat) (cs : Array Value) (t : TypeId) (d : TypeDesc) (hx : a.eval x = .pointer (some ⟨g, 0, none⟩))
    (hC : ∀ w, C w → Row w g cs t) (hu : P.underlying ty = some d) (hd : (match d with | .struct _ | .array _ _ => true | _ => false) = true) (hi : (P.info? ty).map (·.size) = some cs.size)
    (k : wpQuiet P ops C Q rest (a.put o.dst (.agg cs))) : wpQuiet P ops C Q (o :: rest) a :=
  q_value (.agg cs) hw (fun w hw' => by
    unfold execOp
    simp only [ho, hx, Instr.loadAt, Instr.sureAddr, Sem.run_bind, Sem.run_pure, Result.andThen_ok, run_loadVar_row w g t ty cs (0, 0) d (hC w hw') hu hd hi]) k

/-- A whole array is loaded in a statement whose order is not drawn, behind a guard that stands. -/
theorem wpList_load_wanted {Q : Exit → Act → World → Prop} {w : World} (hw : Region.wanted o (yielded ops a.tmps) = true) (ty : TypeId) (x : Operand) (ho : o.op = .load ty x)
    (g : Nat) (hx : a.eval x = .pointer (some ⟨g, 0, none⟩)) (t : TypeId) (cs : Array Value) (d : TypeDesc) (hg : Row w g cs t)
    (hu : P.underlying ty = some d) (hd : (match d with | .struct _ | .array _ _ => true | _ => false) = true) (hi : (P.info? ty).map (·.size) = some cs.size)
    (h : wpList P ops Q rest (a.put o.dst (.agg cs)) w) : wpList P ops Q (o :: rest) a w := by
  unfold wpList
  rw [if_pos hw]
  exact .inl (wp_load_row ty x ho g hx t cs (0, 0) d hg hu hd hi h)
end

/-- What holds all through the statement that draws its order: these arrays lie there, and nothing of before has changed. -/
structure Kept3 (W : World) (a b c : Nat) (A B C : Array Value) (ta tb tc : TypeId) (w' : World) : Prop where
  a : Row w' a A ta
  b : Row w' b B tb
  c : Row w' c C tc
  old : Below W.heap.size W w'
theorem Kept3.next {W w1 w2 : World} {a b c : Nat} {A B C : Array Value} {ta tb tc : TypeId} (h : Kept3 W a b c A B C ta tb tc w1) (hb : Below w1.heap.size w1 w2) : Kept3 W a b c A B C ta tb tc w2 :=
  ⟨h.a.below hb h.a.lt, h.b.below hb h.b.lt, h.c.below hb h.c.lt, h.old.trans (hb.mono h.old.size)⟩

theorem info23 : (Tryd.prog.info? 51).map (·.size) = some 32 := by kernel_rfl

/-- A whole array stored into the block that was made last. -/
theorem wpList_store_new {P : Program} {ops : Array Oper} {rest : List Oper} {o : Oper} {a : Act} {w : World} {Q : Exit → Act → World → Prop} (hgd : o.guard = none) (ty : TypeId) (x y : Operand) (ho : o.op = .store ty x y)
    (W : World) (Z C : Array Value) (t : TypeId) (hw : w = W.alloc (.cells Z t)) (g : Nat) (hg : g = W.heap.size) (hx : a.eval x = .pointer (some ⟨g, 0, none⟩)) (hy : a.eval y = .agg C)
    (hi : (P.info? ty).map (·.size) = some C.size) (hs : Z.size = C.size) (h1 : C.all (·.oneCell') = true)
    (h : wpList P ops Q rest (a.put o.dst undef) (W.alloc (.cells C t))) : wpList P ops Q (o :: rest) a w := by
  subst hw
  subst hg
  refine wpList_store_row hgd ty x y ho W.heap.size C hx hy t Z (heap_alloc_new W _) hi hs h1 ?_
  rw [World.setRow_alloc_new]
  exact h

end Go.Proofs.YthidlckipiamkaaDoor.S2
namespace Go.Proofs.YthidlckipiamkaaDoor.S2
set_option maxRecDepth 20000
open Go.RowKit Math

set_option maxHeartbeats 400000 in
theorem refBit_any (a : Option Addr) (b off len cap k : Nat) (f : Nat → Int) (w : World) (hlen : len ≤ 281474976710656) (hk : k ≤ 9223372036854775807)
    (ha : 0 < len → a = some ⟨b, off, none⟩) (hcell : ∀ i, i < len → w.cell? ⟨b, off + i, none⟩ = some (.int .u8 (f i))) (hf : ∀ i, 0 ≤ f i ∧ f i < 256) (hf0 : ∀ i, len ≤ i → f i = 0) :
    Calls Tryd.prog 55 #[.slice a len cap, .int .i64 k] w fun e w' => e = .returned (.int .i64 (bitAt 8 f k)) ∧ w' = w := by
  by_cases h : k / 8 < len
  · obtain rfl := ha (by omega)
    have hc := hcell (k / 8) h
    have hfk := hf (k / 8)
    obtain ⟨y, hy⟩ : ∃ y, f (k / 8) / 2 ^ (7 - k % 8) = y := ⟨_, rfl⟩
    have hy0 : 0 ≤ y := by rw [← hy]; exact Int.ediv_nonneg hfk.1 (Int.le_of_lt (two_pow_pos _))
    have hy1 : y < 256 := by rw [← hy]; exact Int.lt_of_le_of_lt (Int.ediv_le_self _ hfk.1) hfk.2
    have e : bitAt 8 f k = y % 2 := by unfold bitAt; rw [← hy]
    rw [e]
    clear e
    go_enter Tryd.func55, Tryd.ntmps55
    go_wp2
    go_ret
    exact ⟨rfl, rfl⟩
  · have e : bitAt 8 f k = 0 := by unfold bitAt; rw [hf0 _ (by omega)]; simp
    rw [e]
    clear e
    go_enter Tryd.func55, Tryd.ntmps55
    go_wp2
    go_ret
    exact ⟨rfl, rfl⟩

theorem enc_succ (g : Nat → Int) (q : Nat) : enc g (q + 1) = enc g q ++ [sg (val g (5 * q) 5).toNat] := by
  simp [enc, List.range_succ]

set_option maxHeartbeats 1000000 in
theorem refEncode_core (a : Option Addr) (b off len cap N : Nat) (f : Nat → Int) (w : World) (hlen : len ≤ 140737488351232) (hN1 : 5 * N ≤ 8 * len + 4) (hN2 : 8 * len ≤ 5 * N)
    (ha : 0 < len → a = some ⟨b, off, none⟩) (hcell : ∀ i, i < len → w.cell? ⟨b, off + i, none⟩ = some (.int .u8 (f i))) (hf : ∀ i, 0 ≤ f i ∧ f i < 256) (hf0 : ∀ i, len ≤ i → f i = 0) :
    Calls Tryd.prog 46 #[.slice a len cap] w fun e w' => e = .returned (.string (strOfNums (enc (bitAt 8 f) N))) ∧ Below w.heap.size w w' := by
  obtain ⟨i0, hi, hz0, hz1, hz2⟩ := info_parts Tryd.info5
  have hg := bitAt_bd 8 f
  have HB : Hid (∀ (wr : World) (k : Nat), k ≤ 9223372036854775807 → Below w.heap.size w wr → Calls Tryd.prog 55 #[.slice a len cap, .int .i64 k] wr fun e w' => e = .returned (.int .i64 (bitAt 8 f k)) ∧ w' = wr) :=
    fun wr k hk hb => refBit_any a b off len cap k f wr (by omega) hk ha (fun i hi => by
      rw [hb.cell (p := ⟨b, off + i, none⟩) (World.block_lt_of_cell? _ _ (hcell i hi))]; exact hcell i hi) hf hf0
  clear hcell ha hf hf0
  go_enter Tryd.func46, Tryd.ntmps46
  go_wp2
  go_loopw [3, 4] (fun v k wr => ∃ q : Nat, q ≤ N ∧ k = .int .i64 (5 * (q : Int)) ∧ wr.ownsRow w.heap.size 5 1 v q ((enc (bitAt 8 f) q).map (Value.int .u8)) ∧ Below w.heap.size w wr) (fun _ k _ => 5 * N - (intOf k).toNat)
  case atStart => exact ⟨0, Nat.zero_le _, rfl, World.ownsRow_nil _ _ _ _, Below.refl _ _⟩
  case round =>
    obtain ⟨q, hq, rfl, hown, hb⟩ := hrel
    by_cases hlt : q < N
    · have h58 : 5 * (q : Int) < 8 * (len : Int) := by omega
      go_wp2
      go_loop [5, 6] (fun v i => ∃ j : Nat, j ≤ 5 ∧ i = .int .i64 j ∧ ∃ x : Nat, v = .int .i64 x ∧ x < 128 ∧ Hid (val (bitAt 8 f) (5 * q) j = x)) (fun _ i => 5 - (intOf i).toNat)
      case atStart => exact ⟨0, Nat.zero_le _, rfl, 0, rfl, by decide, rfl⟩
      case round =>
        obtain ⟨j, hj, rfl, x, rfl, hx1, hx⟩ := hrel
        by_cases hjl : j < 5
        · have hbit := hg (5 * q + j)
          have hqj : 5 * (q : Int) + (j : Int) = ((5 * q + j : Nat) : Int) := by omega
          obtain ⟨c, hc⟩ : ∃ c : Nat, bitAt 8 f (5 * q + j) = c := ⟨(bitAt 8 f (5 * q + j)).toNat, by omega⟩
          have hc1 : c ≤ 1 := by omega
          have HC := HB.out wr (5 * q + j) (by omega) hb
          rw [hc, ← hqj] at HC
          clear hg hbit hown hqj
          go_wp2_with fail
          refine HC.mono ?_
          rintro e w1 ⟨rfl, hw1⟩
          subst hw1
          clear HC
          have HE : Hid (val (bitAt 8 f) (5 * q) (j + 1) = ((2 * x + c : Nat) : Int)) := by
            show val (bitAt 8 f) (5 * q) (j + 1) = _
            simp only [val]
            rw [hx.out, hc]; omega
          have hxb : 2 * x + c < 128 := by
            have h1 := val_bd (bitAt 8 f) (bitAt_bd 8 f) (5 * q) (j + 1)
            have h2 : (2 : Int) ^ (j + 1) ≤ 32 := by
              have h3 : 2 ^ (j + 1) ≤ 32 := Nat.pow_le_pow_right (n := 2) (by decide) (show j + 1 ≤ 5 by omega)
              have h4 : ((2 ^ (j + 1) : Nat) : Int) = (2 : Int) ^ (j + 1) := by rw [Int.natCast_pow]; rfl
              omega
            have h5 := HE.out
            omega
          clear hc
          go_wp2
          go_round
          case rel => exact ⟨j + 1, by omega, by go_num, 2 * x + c, by go_num, hxb, HE⟩
          case measure => simp [intOf]; omega
        · obtain rfl : j = 5 := by omega
          have hx32 : x < 32 := by
            have h1 := val_bd (bitAt 8 f) hg (5 * q) 5
            have h2 := hx.out
            omega
          have hidx := str_index x hx32
          have hsz := hb.size
          go_wp2_with (at_builtin; refine wpList_append_own_wide _ rfl _ _ 38 rfl w.heap.size 5 i0 (.int .u8 0) 1 1 Tryd.underlying38 hi hz0 hz1 hz2 rfl (by decide) _ _ _ rfl (hown.alloc _) ⟨wr.heap.size, 0, none⟩ 1 1 [.int .u8 (sg x)] rfl rfl ?c1 ?c2 ?c3 ?c4 ?c5 ?_)
          case c2 => rfl
          case c3 => unfold maxLen; omega
          case c4 => omega
          case c5 => omega
          intro v' w2 hown' hgrow _
          have hb2 : Below w.heap.size w w2 := by
            refine (hb.alloc hsz _).grown hgrow (by simp; omega) (fun r hr => ?_)
            obtain ⟨_, ⟨rfl, _⟩ | ⟨g', cap, cur, rfl, hle, _⟩⟩ := hown
            · cases hr
            · simp [Value.ownBlock] at hr; omega
          have hown2 : w2.ownsRow w.heap.size 5 1 v' (q + 1) ((enc (bitAt 8 f) (q + 1)).map (Value.int .u8)) := by
            rw [enc_succ, hx.out, Int.toNat_natCast, List.map_append]; exact hown'
          clear hown hb hgrow hown' hidx
          go_wp2
          go_roundw
          case rel => exact ⟨q + 1, by omega, by go_num, hown2, hb2⟩
          case measure => simp [intOf]; omega
    · obtain rfl : q = N := by omega
      have hcv := conv_own _ _ _ _ _ hown
      go_wp2
      go_ret
      exact ⟨rfl, hb⟩
end Go.Proofs.YthidlckipiamkaaDoor.S2
namespace Go.Proofs.YthidlckipiamkaaDoor.S2
set_option maxRecDepth 20000
open Go.RowKit Math

theorem Row.setCell {w : World} {g i : Nat} {C : Array Value} {t : TypeId} (h : Row w g C t) (v : Value) : Row (w.setCell ⟨g, i, none⟩ v) g (C.setIfInBounds i v) t := by
  rw [setCell_eq_setRow w g i C t (0, 0) v h]
  exact h.setRow
theorem Row.setCell_other {w : World} {g k i : Nat} {C : Array Value} {t : TypeId} (h : Row w g C t) (hk : g ≠ k) (v : Value) : Row (w.setCell ⟨k, i, none⟩ v) g C t := (heap_setCell_other w ⟨k, i, none⟩ g v hk).trans h
theorem Row.cell {w : World} {g : Nat} {C : Array Value} {t : TypeId} (h : Row w g C t) (i : Nat) : w.cell? ⟨g, i, none⟩ = C[i]? := cell_of_row w g i C t (0, 0) h
theorem Row.frozen {w : World} {g : Nat} {C : Array Value} {t : TypeId} (h : Row w g C t) (i : Nat) : w.frozen? ⟨g, i, none⟩ = false := frozen_of_row w g i C t h

theorem Row.drew {w : World} {g : Nat} {C : Array Value} {t : TypeId} (h : Row w g C t) : Row w.drew g C t := h
theorem made20 (f : Nat → Int) : madeCells #[.int .u8 0] 20 = arr (fold f 0) 20 := by kernel_rfl

end Go.Proofs.YthidlckipiamkaaDoor.S2
