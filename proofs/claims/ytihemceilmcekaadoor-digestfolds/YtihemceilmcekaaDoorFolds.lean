/- The walk of the law DigestFolds over the contract of Short. -/
import Derived.Test.YtihemceilmcekaaDoorQuiet
import Derived.Test.YtihemceilmcekaaDoorFoldMath
namespace Go.Proofs.YtihemceilmcekaaDoor
open Go.RowKit Math


/-- A whole array stored into the block that was made last. -/
theorem wpList_store_new {P : Program} {ops : Array Oper} {rest : List Oper} {o : Oper} {a : Act} {w : World} {Q : Exit → Act → World → Prop} (hgd : o.guard = none) (ty : TypeId) (x y : Operand) (ho : o.op = .store ty x y)
    (W : World) (Z C : Array Value) (t : TypeId) (hw : w = W.alloc (.cells Z t)) (g : Nat) (hg : g = W.heap.size) (hx : a.eval x = .pointer (some ⟨g, 0, none⟩)) (hy : a.eval y = .agg C)
    (hi : (P.info? ty).map (·.size) = some C.size) (hs : Z.size = C.size) (h1 : C.all (·.oneCell') = true)
    (h : wpList P ops Q rest (a.put o.dst undef) (W.alloc (.cells C t))) : wpList P ops Q (o :: rest) a w := by
  subst hw
  subst hg
  refine wpList_store_row hgd ty x y ho W.heap.size C hx hy t Z (heap_alloc_new W _) hi hs h1 ?_
  rw [World.setRow_alloc_new]
  exact h

set_option maxHeartbeats 1000000 in
theorem law_folds_low (f x y : Nat → Int) (at' t by' : Int) (K : Nat) (U V : ByteArray) (w : World) (ht : at'.tmod 32 = t) (t0 : -31 ≤ t) (t1 : t ≤ 31) (hK : (t + 32) % 32 = K) (hK1 : K < 12)
    (hx : ∀ i, i < 32 → x i = if i = K then bits .xor .u8 (f K) by' else f i) (hy : ∀ i, i < 32 → y i = if i = K + 20 then bits .xor .u8 (x (K + 20)) by' else x i)
    (HS1 : ∀ wr, Below w.heap.size w wr → Calls Tryd.prog 12 #[.agg (arr f 32)] wr fun e w' => e = .returned (.string U) ∧ Below wr.heap.size wr w')
    (HS2 : ∀ wr, Below w.heap.size w wr → Calls Tryd.prog 12 #[.agg (arr x 32)] wr fun e w' => e = .returned (.string V) ∧ Below wr.heap.size wr w')
    (HS3 : ∀ wr, Below w.heap.size w wr → Calls Tryd.prog 12 #[.agg (arr y 32)] wr fun e w' => e = .returned (.string U) ∧ Below wr.heap.size wr w')
    (hU : U.size = 32) (hVU : (V.toList == U.toList) = (by' == 0)) :
    Calls Tryd.prog 7 #[.agg (arr f 32), .int .i64 at', .int .u8 by'] w fun e w' => e = .returned (.bool true) ∧ Below w.heap.size w w' := by
  have c1 : (arr f 32)[K]? = some (.int .u8 (f K)) := arr_at f 32 K (by omega)
  have s1 : (arr f 32).setIfInBounds K (.int .u8 (bits .xor .u8 (f K) by')) = arr x 32 := arr_set f x 32 K _ hx
  have c2 : (arr x 32)[K + 20]? = some (.int .u8 (x (K + 20))) := arr_at x 32 (K + 20) (by omega)
  have s2 : (arr x 32).setIfInBounds (K + 20) (.int .u8 (bits .xor .u8 (x (K + 20)) by')) = arr y 32 := arr_set x y 32 (K + 20) _ hy
  have o1 := arr_one f 32
  have o2 := arr_one x 32
  have z1 := arr_size f 32
  have z2 := arr_size x 32
  have z3 := arr_size y 32
  generalize arr f 32 = A at *
  generalize arr x 32 = X at *
  generalize arr y 32 = Y at *
  clear hx hy
  have HS1' : Hid _ := HS1
  have HS2' : Hid _ := HS2
  have HS3' : Hid _ := HS3
  clear HS1 HS2 HS3
  have i1 : (Tryd.prog.info? 23).map (·.size) = some A.size := by rw [z1]; exact info23
  have i2 : (Tryd.prog.info? 23).map (·.size) = some X.size := by rw [z2]; exact info23
  have i3 : (Tryd.prog.info? 23).map (·.size) = some Y.size := by rw [z3]; exact info23
  have r1 : Row (w.alloc (.cells A 23)) w.heap.size A 23 := Row.new w A 23
  have r2 : Row ((w.alloc (.cells A 23)).alloc (.cells X 23)) (w.heap.size + 1) X 23 := by
    have h := Row.new (w.alloc (.cells A 23)) X 23
    simpa using h
  have r3 : Row (((w.alloc (.cells A 23)).alloc (.cells X 23)).alloc (.cells Y 23)) (w.heap.size + 1 + 1) Y 23 := by
    have h := Row.new ((w.alloc (.cells A 23)).alloc (.cells X 23)) Y 23
    simpa using h
  have r1' : Row (((w.alloc (.cells A 23)).alloc (.cells X 23)).alloc (.cells Y 23)) w.heap.size A 23 := (r1.alloc _).alloc _
  have hb0 : Below w.heap.size w (((w.alloc (.cells A 23)).alloc (.cells X 23)).alloc (.cells Y 23)) := (((Below.refl _ _).alloc (Nat.le_refl _) _).alloc (by simp) _).alloc (by simp; omega) _
  have hk1 : (K : Int) < 12 := by omega
  go_enter Tryd.func7, Tryd.ntmps7
  go_wp2_with (first
    | refine wpList_load_row rfl 23 _ rfl w.heap.size rfl 23 A (0, 0) _ r1 Tryd.underlying23 rfl i1 ?_
    | refine wpList_store_new rfl 23 _ _ rfl (w.alloc (.cells A 23)) zeros32 A 23 rfl (w.heap.size + 1) (by simp) rfl rfl i1 z1.symm o1 ?_
    | refine wpList_load_row rfl 23 _ rfl (w.heap.size + 1) rfl 23 X (0, 0) _ r2 Tryd.underlying23 rfl i2 ?_
    | refine wpList_store_new rfl 23 _ _ rfl ((w.alloc (.cells A 23)).alloc (.cells X 23)) zeros32 X 23 rfl (w.heap.size + 1 + 1) (by simp) rfl rfl i2 z2.symm o2 ?_
    | refine wpList_load_row rfl 23 _ rfl w.heap.size rfl 23 A (0, 0) _ r1' Tryd.underlying23 rfl i1 ?_)
  refine (HS1'.out _ hb0).mono ?_
  rintro e w1 ⟨rfl, hb1⟩
  have hb1' := hb0.trans (hb1.mono hb0.size)
  have q2 := (r2.alloc _).below hb1 (r2.alloc _).lt
  have q3 := r3.below hb1 r3.lt
  clear r1 r2 r3 r1' s1 s2 c1 c2 hb0 hb1
  go_wp2_with (first
    | refine wpList_load_wanted (by rfl) 23 _ rfl (w.heap.size + 1) rfl 23 X _ q2 Tryd.underlying23 rfl i2 ?_)
  refine (HS2'.out _ hb1').mono ?_
  rintro e w2 ⟨rfl, hb2⟩
  have hb2' := hb1'.trans (hb2.mono hb1'.size)
  have q4 := q3.below hb2 q3.lt
  clear q2 q3 hb1' hb2
  go_wp2_with (first
    | refine wpList_load_wanted (by rfl) 23 _ rfl (w.heap.size + 1 + 1) rfl 23 Y _ q4 Tryd.underlying23 rfl i3 ?_)
  refine (HS3'.out _ hb2').mono ?_
  rintro e w3 ⟨rfl, hb3⟩
  have hb3' := hb2'.trans (hb3.mono hb2'.size)
  go_wp2
  go_ret
  exact ⟨rfl, hb3'⟩
set_option maxHeartbeats 1000000 in
theorem law_folds_high (f x y : Nat → Int) (at' t by' : Int) (K J : Nat) (U V : ByteArray) (w : World) (ht : at'.tmod 32 = t) (t0 : -31 ≤ t) (t1 : t ≤ 31) (hK : (t + 32) % 32 = K) (_hK1 : K ≤ 31) (hJ : K = J + 20)
    (hx : ∀ i, i < 32 → x i = if i = K then bits .xor .u8 (f K) by' else f i) (hy : ∀ i, i < 32 → y i = if i = J then bits .xor .u8 (x J) by' else x i)
    (HS1 : ∀ wr, Below w.heap.size w wr → Calls Tryd.prog 12 #[.agg (arr f 32)] wr fun e w' => e = .returned (.string U) ∧ Below wr.heap.size wr w')
    (HS2 : ∀ wr, Below w.heap.size w wr → Calls Tryd.prog 12 #[.agg (arr x 32)] wr fun e w' => e = .returned (.string V) ∧ Below wr.heap.size wr w')
    (HS3 : ∀ wr, Below w.heap.size w wr → Calls Tryd.prog 12 #[.agg (arr y 32)] wr fun e w' => e = .returned (.string U) ∧ Below wr.heap.size wr w')
    (hU : U.size = 32) (hVU : (V.toList == U.toList) = (by' == 0)) :
    Calls Tryd.prog 7 #[.agg (arr f 32), .int .i64 at', .int .u8 by'] w fun e w' => e = .returned (.bool true) ∧ Below w.heap.size w w' := by
  have c1 : (arr f 32)[K]? = some (.int .u8 (f K)) := arr_at f 32 K (by omega)
  have s1 : (arr f 32).setIfInBounds K (.int .u8 (bits .xor .u8 (f K) by')) = arr x 32 := arr_set f x 32 K _ hx
  have c2 : (arr x 32)[J]? = some (.int .u8 (x J)) := arr_at x 32 J (by omega)
  have s2 : (arr x 32).setIfInBounds J (.int .u8 (bits .xor .u8 (x J) by')) = arr y 32 := arr_set x y 32 J _ hy
  have o1 := arr_one f 32
  have o2 := arr_one x 32
  have z1 := arr_size f 32
  have z2 := arr_size x 32
  have z3 := arr_size y 32
  generalize arr f 32 = A at *
  generalize arr x 32 = X at *
  generalize arr y 32 = Y at *
  clear hx hy
  have HS1' : Hid _ := HS1
  have HS2' : Hid _ := HS2
  have HS3' : Hid _ := HS3
  clear HS1 HS2 HS3
  have i1 : (Tryd.prog.info? 23).map (·.size) = some A.size := by rw [z1]; exact info23
  have i2 : (Tryd.prog.info? 23).map (·.size) = some X.size := by rw [z2]; exact info23
  have i3 : (Tryd.prog.info? 23).map (·.size) = some Y.size := by rw [z3]; exact info23
  have r1 : Row (w.alloc (.cells A 23)) w.heap.size A 23 := Row.new w A 23
  have r2 : Row ((w.alloc (.cells A 23)).alloc (.cells X 23)) (w.heap.size + 1) X 23 := by
    have h := Row.new (w.alloc (.cells A 23)) X 23
    simpa using h
  have r3 : Row (((w.alloc (.cells A 23)).alloc (.cells X 23)).alloc (.cells Y 23)) (w.heap.size + 1 + 1) Y 23 := by
    have h := Row.new ((w.alloc (.cells A 23)).alloc (.cells X 23)) Y 23
    simpa using h
  have r1' : Row (((w.alloc (.cells A 23)).alloc (.cells X 23)).alloc (.cells Y 23)) w.heap.size A 23 := (r1.alloc _).alloc _
  have hb0 : Below w.heap.size w (((w.alloc (.cells A 23)).alloc (.cells X 23)).alloc (.cells Y 23)) := (((Below.refl _ _).alloc (Nat.le_refl _) _).alloc (by simp) _).alloc (by simp; omega) _
  have hk1 : (20 : Int) ≤ (K : Int) := by omega
  have hk3 : (K : Int) ≤ 31 := by omega
  have hj1 : (K : Int) - 20 = (J : Int) := by omega
  clear hJ
  go_enter Tryd.func7, Tryd.ntmps7
  go_wp2_with (first
    | refine wpList_load_row rfl 23 _ rfl w.heap.size rfl 23 A (0, 0) _ r1 Tryd.underlying23 rfl i1 ?_
    | refine wpList_store_new rfl 23 _ _ rfl (w.alloc (.cells A 23)) zeros32 A 23 rfl (w.heap.size + 1) (by simp) rfl rfl i1 z1.symm o1 ?_
    | refine wpList_load_row rfl 23 _ rfl (w.heap.size + 1) rfl 23 X (0, 0) _ r2 Tryd.underlying23 rfl i2 ?_
    | refine wpList_store_new rfl 23 _ _ rfl ((w.alloc (.cells A 23)).alloc (.cells X 23)) zeros32 X 23 rfl (w.heap.size + 1 + 1) (by simp) rfl rfl i2 z2.symm o2 ?_
    | refine wpList_load_row rfl 23 _ rfl w.heap.size rfl 23 A (0, 0) _ r1' Tryd.underlying23 rfl i1 ?_)
  refine (HS1'.out _ hb0).mono ?_
  rintro e w1 ⟨rfl, hb1⟩
  have hb1' := hb0.trans (hb1.mono hb0.size)
  have q2 := (r2.alloc _).below hb1 (r2.alloc _).lt
  have q3 := r3.below hb1 r3.lt
  clear r1 r2 r3 r1' s1 s2 c1 c2 hb0 hb1
  go_wp2_with (first
    | refine wpList_load_wanted (by rfl) 23 _ rfl (w.heap.size + 1) rfl 23 X _ q2 Tryd.underlying23 rfl i2 ?_)
  refine (HS2'.out _ hb1').mono ?_
  rintro e w2 ⟨rfl, hb2⟩
  have hb2' := hb1'.trans (hb2.mono hb1'.size)
  have q4 := q3.below hb2 q3.lt
  clear q2 q3 hb1' hb2
  go_wp2_with (first
    | refine wpList_load_wanted (by rfl) 23 _ rfl (w.heap.size + 1 + 1) rfl 23 Y _ q4 Tryd.underlying23 rfl i3 ?_)
  refine (HS3'.out _ hb2').mono ?_
  rintro e w3 ⟨rfl, hb3⟩
  have hb3' := hb2'.trans (hb3.mono hb2'.size)
  go_wp2
  go_ret
  exact ⟨rfl, hb3'⟩
set_option maxHeartbeats 1000000 in
theorem law_folds_mid (f x y : Nat → Int) (at' t by' : Int) (K : Nat) (U V : ByteArray) (w : World) (ht : at'.tmod 32 = t) (t0 : -31 ≤ t) (t1 : t ≤ 31) (hK : (t + 32) % 32 = K) (hK1 : K < 20) (hK2 : 12 ≤ K)
    (hx : ∀ i, i < 32 → x i = if i = K then bits .xor .u8 (f K) by' else f i) (hy : ∀ i, i < 32 → y i = if i = K then f K else x i)
    (HS1 : ∀ wr, Below w.heap.size w wr → Calls Tryd.prog 12 #[.agg (arr f 32)] wr fun e w' => e = .returned (.string U) ∧ Below wr.heap.size wr w')
    (HS2 : ∀ wr, Below w.heap.size w wr → Calls Tryd.prog 12 #[.agg (arr x 32)] wr fun e w' => e = .returned (.string V) ∧ Below wr.heap.size wr w')
    (HS3 : ∀ wr, Below w.heap.size w wr → Calls Tryd.prog 12 #[.agg (arr y 32)] wr fun e w' => e = .returned (.string U) ∧ Below wr.heap.size wr w')
    (hU : U.size = 32) (hVU : (V.toList == U.toList) = (by' == 0)) :
    Calls Tryd.prog 7 #[.agg (arr f 32), .int .i64 at', .int .u8 by'] w fun e w' => e = .returned (.bool true) ∧ Below w.heap.size w w' := by
  have c1 : (arr f 32)[K]? = some (.int .u8 (f K)) := arr_at f 32 K (by omega)
  have s1 : (arr f 32).setIfInBounds K (.int .u8 (bits .xor .u8 (f K) by')) = arr x 32 := arr_set f x 32 K _ hx
  have c2 : (arr x 32)[K]? = some (.int .u8 (x K)) := arr_at x 32 K (by omega)
  have s2 : (arr x 32).setIfInBounds K (.int .u8 (f K)) = arr y 32 := arr_set x y 32 K _ hy
  have o1 := arr_one f 32
  have o2 := arr_one x 32
  have z1 := arr_size f 32
  have z2 := arr_size x 32
  have z3 := arr_size y 32
  generalize arr f 32 = A at *
  generalize arr x 32 = X at *
  generalize arr y 32 = Y at *
  clear hx hy
  have HS1' : Hid _ := HS1
  have HS2' : Hid _ := HS2
  have HS3' : Hid _ := HS3
  clear HS1 HS2 HS3
  have i1 : (Tryd.prog.info? 23).map (·.size) = some A.size := by rw [z1]; exact info23
  have i2 : (Tryd.prog.info? 23).map (·.size) = some X.size := by rw [z2]; exact info23
  have i3 : (Tryd.prog.info? 23).map (·.size) = some Y.size := by rw [z3]; exact info23
  have r1 : Row (w.alloc (.cells A 23)) w.heap.size A 23 := Row.new w A 23
  have r2 : Row ((w.alloc (.cells A 23)).alloc (.cells X 23)) (w.heap.size + 1) X 23 := by
    have h := Row.new (w.alloc (.cells A 23)) X 23
    simpa using h
  have r3 : Row (((w.alloc (.cells A 23)).alloc (.cells X 23)).alloc (.cells Y 23)) (w.heap.size + 1 + 1) Y 23 := by
    have h := Row.new ((w.alloc (.cells A 23)).alloc (.cells X 23)) Y 23
    simpa using h
  have r1' : Row (((w.alloc (.cells A 23)).alloc (.cells X 23)).alloc (.cells Y 23)) w.heap.size A 23 := (r1.alloc _).alloc _
  have hb0 : Below w.heap.size w (((w.alloc (.cells A 23)).alloc (.cells X 23)).alloc (.cells Y 23)) := (((Below.refl _ _).alloc (Nat.le_refl _) _).alloc (by simp) _).alloc (by simp; omega) _
  have hk1 : (12 : Int) ≤ (K : Int) := by omega
  have hk2 : (K : Int) < 20 := by omega
  go_enter Tryd.func7, Tryd.ntmps7
  go_wp2_with (first
    | refine wpList_load_row rfl 23 _ rfl w.heap.size rfl 23 A (0, 0) _ r1 Tryd.underlying23 rfl i1 ?_
    | refine wpList_store_new rfl 23 _ _ rfl (w.alloc (.cells A 23)) zeros32 A 23 rfl (w.heap.size + 1) (by simp) rfl rfl i1 z1.symm o1 ?_
    | refine wpList_load_row rfl 23 _ rfl (w.heap.size + 1) rfl 23 X (0, 0) _ r2 Tryd.underlying23 rfl i2 ?_
    | refine wpList_store_new rfl 23 _ _ rfl ((w.alloc (.cells A 23)).alloc (.cells X 23)) zeros32 X 23 rfl (w.heap.size + 1 + 1) (by simp) rfl rfl i2 z2.symm o2 ?_
    | refine wpList_load_row rfl 23 _ rfl w.heap.size rfl 23 A (0, 0) _ r1' Tryd.underlying23 rfl i1 ?_)
  refine (HS1'.out _ hb0).mono ?_
  rintro e w1 ⟨rfl, hb1⟩
  have hb1' := hb0.trans (hb1.mono hb0.size)
  have q2 := (r2.alloc _).below hb1 (r2.alloc _).lt
  have q3 := r3.below hb1 r3.lt
  clear r1 r2 r3 r1' s1 s2 c1 c2 hb0 hb1
  go_wp2_with (first
    | refine wpList_load_wanted (by rfl) 23 _ rfl (w.heap.size + 1) rfl 23 X _ q2 Tryd.underlying23 rfl i2 ?_)
  refine (HS2'.out _ hb1').mono ?_
  rintro e w2 ⟨rfl, hb2⟩
  have hb2' := hb1'.trans (hb2.mono hb1'.size)
  have q4 := q3.below hb2 q3.lt
  clear q2 q3 hb1' hb2
  go_wp2_with (first
    | refine wpList_load_wanted (by rfl) 23 _ rfl (w.heap.size + 1 + 1) rfl 23 Y _ q4 Tryd.underlying23 rfl i3 ?_)
  refine (HS3'.out _ hb2').mono ?_
  rintro e w3 ⟨rfl, hb3⟩
  have hb3' := hb2'.trans (hb3.mono hb2'.size)
  go_wp2
  go_ret
  exact ⟨rfl, hb3'⟩

/-- The law. -/
theorem folds_any (f : Nat → Int) (at' by' : Int) (w : World) (hT : Tab w) (hf : ∀ i, 0 ≤ f i ∧ f i < 256) (hb0 : 0 ≤ by') (hb1 : by' < 256) :
    Calls Tryd.prog 7 #[.agg (arr f 32), .int .i64 at', .int .u8 by'] w fun e w' => e = .returned (.bool true) ∧ Below w.heap.size w w' := by
  have hp := hT.pos
  have t0 : -31 ≤ at'.tmod 32 ∧ at'.tmod 32 ≤ 31 := by rw [tmod_eq_if]; split <;> omega
  obtain ⟨K, hK⟩ : ∃ K : Nat, (at'.tmod 32 + 32) % 32 = K := ⟨((at'.tmod 32 + 32) % 32).toNat, by omega⟩
  have hK32 : K < 32 := by omega
  have hx : ∀ i, (fun i => if i = K then bits .xor .u8 (f K) by' else f i) i = if i = K then bits .xor .u8 (f K) by' else f i := fun _ => rfl
  have hVU := enc_same (short fun i => if i = K then bits .xor .u8 (f K) by' else f i) (short f) 20 32 (fun i => by unfold short; split; exact fold_bd _ 32 i; decide) (fun i => by unfold short; split; exact fold_bd _ 32 i; decide) (fun i hi => if_neg (by omega)) (fun i hi => if_neg (by omega)) (by decide)
  rw [folds_one f _ K by' hf hb0 hb1 hK32 hx] at hVU
  have HS1 := fun (wr : World) (hb : Below w.heap.size w wr) => short_any f wr (hT.below hb hp)
  have HS2 := fun (wr : World) (hb : Below w.heap.size w wr) => short_any (fun i => if i = K then bits .xor .u8 (f K) by' else f i) wr (hT.below hb hp)
  by_cases h1 : K < 12
  · have e := folds_two f (fun i => if i = K + 20 then bits .xor .u8 (f (K + 20)) by' else if i = K then bits .xor .u8 (f K) by' else f i) K by' hf hb0 hb1 h1 (fun i => by
      by_cases e1 : i = K
      · subst e1; rw [if_pos rfl, if_neg (by omega), if_pos rfl]
      · simp only [if_neg e1])
    have HS3 := fun (wr : World) (hb : Below w.heap.size w wr) => short_any (fun i => if i = K + 20 then bits .xor .u8 (f (K + 20)) by' else if i = K then bits .xor .u8 (f K) by' else f i) wr (hT.below hb hp)
    rw [e] at HS3
    exact law_folds_low f _ _ at' _ by' K _ _ w rfl t0.1 t0.2 hK h1 (fun i _ => hx i) (fun i _ => by simp only [show ¬ K + 20 = K by omega, if_false]) HS1 HS2 HS3 (size_enc _ _) hVU
  · by_cases h2 : K < 20
    · have e : short (fun i => if i = K then f K else if i = K then bits .xor .u8 (f K) by' else f i) = short f := by
        congr 1
        funext i
        by_cases e1 : i = K
        · rw [if_pos e1, e1]
        · rw [if_neg e1, if_neg e1]
      have HS3 := fun (wr : World) (hb : Below w.heap.size w wr) => short_any (fun i => if i = K then f K else if i = K then bits .xor .u8 (f K) by' else f i) wr (hT.below hb hp)
      rw [e] at HS3
      exact law_folds_mid f _ _ at' _ by' K _ _ w rfl t0.1 t0.2 hK h2 (by omega) (fun i _ => hx i) (fun i _ => rfl) HS1 HS2 HS3 (size_enc _ _) hVU
    · obtain ⟨J, hJ⟩ : ∃ J, K = J + 20 := ⟨K - 20, by omega⟩
      have e := folds_two f (fun i => if i = J then bits .xor .u8 (f J) by' else if i = K then bits .xor .u8 (f K) by' else f i) J by' hf hb0 hb1 (by omega) (fun i => by rw [← hJ])
      have HS3 := fun (wr : World) (hb : Below w.heap.size w wr) => short_any (fun i => if i = J then bits .xor .u8 (f J) by' else if i = K then bits .xor .u8 (f K) by' else f i) wr (hT.below hb hp)
      rw [e] at HS3
      exact law_folds_high f _ _ at' _ by' K J _ _ w rfl t0.1 t0.2 hK (by omega) hJ (fun i _ => hx i) (fun i _ => by simp only [show ¬ J = K by omega, if_false]) HS1 HS2 HS3 (size_enc _ _) hVU
end Go.Proofs.YtihemceilmcekaaDoor
