/- The walk of digest.Parse. -/
import Derived.Test.YtppgidmeeaodkaaGreatDoorS2Arr
import Derived.Laws.CopyOwn
namespace Go.Proofs.YtppgidmeeaodkaaGreatDoor.S2
set_option maxRecDepth 20000
open Go.RowKit Math

/-- Block g holds these cells, and they may be written. -/
abbrev Row (w : World) (g : Nat) (C : Array Value) (t : TypeId) : Prop := w.heap[g]? = some (.cells C t (0, 0))
theorem Row.new (w : World) (C : Array Value) (t : TypeId) : Row (w.alloc (.cells C t)) w.heap.size C t := heap_alloc_new w _
theorem Row.lt {w : World} {g : Nat} {C : Array Value} {t : TypeId} (h : Row w g C t) : g < w.heap.size := (Array.getElem?_eq_some_iff.1 h).1
theorem Row.alloc {w : World} {g : Nat} {C : Array Value} {t : TypeId} (h : Row w g C t) (o : Obj) : Row (w.alloc o) g C t := (Below.heap_alloc w o g h.lt).trans h
theorem Row.below {w w' : World} {g B : Nat} {C : Array Value} {t : TypeId} (h : Row w g C t) (hb : Below B w w') (hB : g < B) : Row w' g C t := (hb.block g hB).trans h
theorem Row.setRow {w : World} {g : Nat} {C C' : Array Value} {t : TypeId} (h : Row w g C t) : Row (w.setRow g C') g C' t := setRow_heap w g C C' t _ h
theorem Row.other {w : World} {g k : Nat} {C C' : Array Value} {t : TypeId} (h : Row w g C t) (hk : g ≠ k) : Row (w.setRow k C') g C t := (setRow_other w k g C' hk).trans h

/-- A function whose results are an array that lies in a block and a slot. -/
theorem results_cell_tmp {P : Program} {fn : Func} {p q : Tmp} {ty : TypeId} (h : fn.results = #[.cell p ty, .tmp q]) (tmps : Array Value) (w : World) (g : Nat) (t : TypeId) (cs : Array Value) (d : TypeDesc)
    (hp : tmps.getD p undef = .pointer (some ⟨g, 0, none⟩)) (hg : Row w g cs t)
    (hu : P.underlying ty = some d) (hd : (match d with | .struct _ | .array _ _ => true | _ => false) = true) (hi : (P.info? ty).map (·.size) = some cs.size) :
    (results fn tmps).run P w = .ok (.tuple #[.agg cs, tmps.getD q undef]) w := by
  have hp' : tmps[p]?.getD undef = .pointer (some ⟨g, 0, none⟩) := by simpa using hp
  simp [results, h, hp', asAddr, run_loadVar_row w g t ty cs (0, 0) d hg hu hd hi]

def zeros32 : Array Value := #[.int .u8 0, .int .u8 0, .int .u8 0, .int .u8 0, .int .u8 0, .int .u8 0, .int .u8 0, .int .u8 0, .int .u8 0, .int .u8 0, .int .u8 0, .int .u8 0, .int .u8 0, .int .u8 0, .int .u8 0, .int .u8 0, .int .u8 0, .int .u8 0, .int .u8 0, .int .u8 0, .int .u8 0, .int .u8 0, .int .u8 0, .int .u8 0, .int .u8 0, .int .u8 0, .int .u8 0, .int .u8 0, .int .u8 0, .int .u8 0, .int .u8 0, .int .u8 0]
theorem zeros32_arr : zeros32 = arr (fun _ => 0) 32 := by simp [arr, zeros32, List.range, List.range.loop]
theorem arr_one (f : Nat → Int) (n : Nat) : (arr f n).all (·.oneCell') = true := by
  unfold arr
  apply all_oneCell_toArray
  intro v hv
  simp at hv
  obtain ⟨i, _, rfl⟩ := hv
  rfl
theorem zeros32_one : zeros32.all (·.oneCell') = true := by rw [zeros32_arr]; exact arr_one _ _
theorem info24 : (Tryz.prog.info? 121).map (·.size) = some 32 := by kernel_rfl
theorem zeros32_info : (Tryz.prog.info? 121).map (·.size) = some zeros32.size := info24
theorem info5s : (Tryz.prog.info? 5).map (·.size) = some 1 := by kernel_rfl
theorem results14 : Tryz.f203.results = #[.cell 2 121, .tmp 3] := by kernel_rfl

/-- A whole array copied into a block that was made last. -/
theorem copy_new (w : World) (t : TypeId) (Z A : Array Value) (n g off cap : Nat) (hZ : Z.size = n) (hA : A.size = n) (h1 : A.all (·.oneCell') = true)
    (hsrc : ∀ j v, A.toList[j]? = some v → (w.alloc (.cells Z t)).cell? ⟨g, off + j, none⟩ = some v) :
    (Builtin.copy_ #[36, 36] 3 #[.slice (some ⟨w.heap.size, 0, none⟩) n n, .slice (some ⟨g, off, none⟩) n cap]).run Tryz.prog (w.alloc (.cells Z t)) = .ok (goInt n) (w.alloc (.cells A t)) := by
  have h := run_copy_row (P := Tryz.prog) (w.alloc (.cells Z t)) 36 36 3 5 w.heap.size 0 n n ⟨g, off, none⟩ n cap Z t A.toList Tryz.underlying36 info5s (heap_alloc_new w _) (by simp [hA]) (fun j v hj => by rw [Addr.add_mid]; exact hsrc j v hj)
    (by simp [hA, hZ]) (fun v hv => Array.all_eq_true_iff_forall_mem.1 h1 v (by simpa using hv))
  rw [h, World.setRow_alloc_new, List.drop_eq_nil_of_le (by simp [hA, hZ])]
  simp [hA]

set_option maxHeartbeats 400000 in
theorem parse_ok (s : ByteArray) (f : Nat → Int) (w : World)
    (HD : ∀ wr, Below w.heap.size w wr → Calls Tryz.prog 230 #[.string s] wr fun e w' => ∃ v, e = .returned (.tuple #[v, .int .i64 0]) ∧ Below wr.heap.size wr w' ∧ w'.ownsRow wr.heap.size 5 1 v 32 (arr f 32).toList) :
    Calls Tryz.prog 203 #[.string s] w fun e w' => e = .returned (.tuple #[.agg (arr f 32), .int .i64 0]) ∧ Below w.heap.size w w' := by
  obtain ⟨Z, hZ⟩ : ∃ Z, Z = zeros32 := ⟨_, rfl⟩
  have hZs : Z.size = 32 := by rw [hZ]; rfl
  have hone := arr_one f 32
  have hAs := arr_size f 32
  generalize arr f 32 = A at *
  have hi24 : (Tryz.prog.info? 121).map (·.size) = some A.size := by rw [hAs]; exact info24
  have hb0 : Below w.heap.size w (w.alloc (.cells Z 121)) := (Below.refl _ _).alloc (Nat.le_refl _) _
  have HD1 := HD _ hb0
  clear HD
  unfold zeros32 at hZ
  go_enter Tryz.func203, Tryz.ntmps203
  go_wp2_with fail
  rw [← hZ]
  refine HD1.mono ?_
  rintro e w1 ⟨v, rfl, hb1, hown⟩
  clear HD1
  have hown' := hown
  obtain ⟨_, ⟨_, h0⟩ | ⟨g, cap, cur, rfl, _⟩⟩ := hown
  · exact absurd h0 (by decide)
  have hs1 := hb1.size
  simp only [World.size_alloc] at hs1
  have hcp := copy_new w1 121 Z A 32 g 0 cap hZs hAs hone (fun j u hj => by
    have hj' : j < 32 := by simpa [hAs] using (List.getElem?_eq_some_iff.1 hj).1
    have hc := hown'.cellAt j hj'
    rw [Nat.zero_add, World.cell?_alloc_lt _ _ _ (World.block_lt_of_cell? w1 _ (hc.trans hj)), hc, hj])
  rw [hZ] at hcp
  have hR : Row (w1.alloc (.cells A 121)) w.heap.size Z 121 := ((Row.new w Z 121).below hb1 (by simp)).alloc _
  have hD : Row (w1.alloc (.cells A 121)) w1.heap.size A 121 := Row.new w1 A 121
  have hbb : Below w.heap.size w (w1.alloc (.cells A 121)) := (hb0.trans (hb1.mono (by simp))).alloc (by omega) _
  have H1 : Hid _ := hone
  clear hown' hone
  go_wp2_with (first | refine wpList_load_row rfl 121 _ rfl _ rfl 121 A (0, 0) _ hD Tryz.underlying121 rfl hi24 ?_ | refine wpList_store_row rfl 121 _ _ rfl w.heap.size A rfl rfl 121 Z hR hi24 (hZs.trans hAs.symm) H1.out ?_)
  refine bodyPost_ret (results_cell_tmp results14 _ _ w.heap.size 121 A _ rfl hR.setRow Tryz.underlying121 rfl hi24) rfl ⟨rfl, below_setRow hbb (Nat.le_refl _) _⟩

set_option maxHeartbeats 400000 in
theorem parse_bad (s : ByteArray) (w : World)
    (HD : ∀ wr, Below w.heap.size w wr → Calls Tryz.prog 230 #[.string s] wr fun e w' => e = .returned (.tuple #[.slice none 0 0, .int .i64 10]) ∧ Below wr.heap.size wr w') :
    Calls Tryz.prog 203 #[.string s] w fun e w' => e = .returned (.tuple #[.agg (arr (fun _ => 0) 32), .int .i64 10]) ∧ Below w.heap.size w w' := by
  rw [← zeros32_arr]
  obtain ⟨Z, hZ⟩ : ∃ Z, Z = zeros32 := ⟨_, rfl⟩
  have hZs : Z.size = 32 := by rw [hZ]; rfl
  rw [← hZ]
  have hb0 : Below w.heap.size w (w.alloc (.cells Z 121)) := (Below.refl _ _).alloc (Nat.le_refl _) _
  have HD1 := HD _ hb0
  clear HD
  have HZ : Hid _ := hZ
  unfold zeros32 at hZ
  go_enter Tryz.func203, Tryz.ntmps203
  go_wp2_with fail
  rw [← hZ]
  refine HD1.mono ?_
  rintro e w1 ⟨rfl, hb1⟩
  clear HD1
  have hR : Row w1 w.heap.size Z 121 := (Row.new w Z 121).below hb1 (by simp)
  have hbb : Below w.heap.size w w1 := hb0.trans (hb1.mono (by simp))
  have hZi : (Tryz.prog.info? 121).map (·.size) = some Z.size := by rw [hZs]; exact info24
  go_wp2_with (refine wpList_store_row rfl 121 _ _ rfl w.heap.size zeros32 rfl rfl 121 Z hR zeros32_info (show Z.size = zeros32.size from hZs) zeros32_one ?_)
  rw [← HZ.out]
  refine bodyPost_ret (results_cell_tmp results14 _ _ w.heap.size 121 Z _ rfl hR.setRow Tryz.underlying121 rfl hZi) rfl ⟨rfl, below_setRow hbb (Nat.le_refl _) _⟩

set_option maxHeartbeats 400000 in
theorem parse_long (s : ByteArray) (q : Nat) (xs : List Value) (w : World) (hq : q ≠ 32) (hq' : q ≤ 281474976710656)
    (HD : ∀ wr, Below w.heap.size w wr → Calls Tryz.prog 230 #[.string s] wr fun e w' => ∃ v, e = .returned (.tuple #[v, .int .i64 0]) ∧ Below wr.heap.size wr w' ∧ w'.ownsRow wr.heap.size 5 1 v q xs) :
    Calls Tryz.prog 203 #[.string s] w fun e w' => e = .returned (.tuple #[.agg (arr (fun _ => 0) 32), .int .i64 10]) ∧ Below w.heap.size w w' := by
  rw [← zeros32_arr]
  obtain ⟨Z, hZ⟩ : ∃ Z, Z = zeros32 := ⟨_, rfl⟩
  have hZs : Z.size = 32 := by rw [hZ]; rfl
  rw [← hZ]
  have hb0 : Below w.heap.size w (w.alloc (.cells Z 121)) := (Below.refl _ _).alloc (Nat.le_refl _) _
  have HD1 := HD _ hb0
  clear HD
  have HZ : Hid _ := hZ
  unfold zeros32 at hZ
  go_enter Tryz.func203, Tryz.ntmps203
  go_wp2_with fail
  rw [← hZ]
  refine HD1.mono ?_
  rintro e w1 ⟨v, rfl, hb1, hown⟩
  clear HD1
  have hs1 := hb1.size
  simp only [World.size_alloc] at hs1
  have hR : Row (w1.alloc (.cells Z 121)) w.heap.size Z 121 := ((Row.new w Z 121).below hb1 (by simp)).alloc _
  have hbb : Below w.heap.size w (w1.alloc (.cells Z 121)) := (hb0.trans (hb1.mono (by simp))).alloc (by omega) _
  have hZi : (Tryz.prog.info? 121).map (·.size) = some Z.size := by rw [hZs]; exact info24
  obtain ⟨_, ⟨rfl, rfl⟩ | ⟨g, cap, cur, rfl, _⟩⟩ := hown
  all_goals
    go_wp2_with (refine wpList_store_row rfl 121 _ _ rfl w.heap.size zeros32 rfl rfl 121 Z (by rw [← hZ]; exact hR) zeros32_info (show Z.size = zeros32.size from hZs) zeros32_one ?_)
    rw [← HZ.out, ← hZ]
    refine bodyPost_ret (results_cell_tmp results14 _ _ w.heap.size 121 Z _ rfl hR.setRow Tryz.underlying121 rfl hZi) rfl ⟨rfl, below_setRow hbb (Nat.le_refl _) _⟩
end Go.Proofs.YtppgidmeeaodkaaGreatDoor.S2
