/- The walk of the law DigestParses over the contracts of the program's calls and of the document's answers. -/
import Derived.Test.YtihemceilmcekaaDoorRefParse
namespace Go.Proofs.YtihemceilmcekaaDoor
open Go.RowKit Math

set_option maxHeartbeats 1000000 in
theorem law_parses (f g : Nat → Int) (c : Int) (s T U : ByteArray) (w : World)
    (HP : ∀ wr, Below w.heap.size w wr → Calls Tryd.prog 14 #[.string s] wr fun e w' => e = .returned (.tuple #[.agg (arr g 32), .int .i64 c]) ∧ Below wr.heap.size wr w')
    (HRP : ∀ wr, Below w.heap.size w wr → Calls Tryd.prog 15 #[.string s] wr fun e w' => e = .returned (.tuple #[.agg (arr g 32), .int .i64 c]) ∧ Below wr.heap.size wr w')
    (HT : ∀ wr, Below w.heap.size w wr → Calls Tryd.prog 10 #[.agg (arr f 32)] wr fun e w' => e = .returned (.string T) ∧ Below wr.heap.size wr w')
    (HRT : ∀ wr, Below w.heap.size w wr → Row wr w.heap.size (arr f 32) 23 → Calls Tryd.prog 11 #[.slice (some ⟨w.heap.size, 0, none⟩) 32 32] wr fun e w' => e = .returned (.string T) ∧ Below wr.heap.size wr w')
    (HS : ∀ wr, Below w.heap.size w wr → Calls Tryd.prog 12 #[.agg (arr f 32)] wr fun e w' => e = .returned (.string U) ∧ Below wr.heap.size wr w')
    (HRS : ∀ wr, Below w.heap.size w wr → Calls Tryd.prog 13 #[.agg (arr f 32)] wr fun e w' => e = .returned (.string U) ∧ Below wr.heap.size wr w') :
    Calls Tryd.prog 4 #[.string s, .agg (arr f 32)] w fun e w' => e = .returned (.bool true) ∧ Below w.heap.size w w' := by
  have e1 : ∀ w : World, (Op.equalIn 10000 24 (.agg (arr g 32)) (.agg (arr g 32))).run Tryd.prog w = .ok true w := fun w => by rw [eq_arr g g 24 Tryd.underlying24 w, same_refl]
  have o1 := arr_one g 32
  have s1 := arr_size f 32
  have s2 := arr_size g 32
  generalize arr f 32 = A at *
  generalize arr g 32 = G at *
  have HP' : Hid _ := HP
  have HRP' : Hid _ := HRP
  have HT' : Hid _ := HT
  have HRT' : Hid _ := HRT
  have HS' : Hid _ := HS
  have HRS' : Hid _ := HRS
  have O1 : Hid _ := o1
  clear HP HRP HT HRT HS HRS o1
  have i23 : (Tryd.prog.info? 23).map (·.size) = some A.size := by rw [s1]; exact info23
  have i24g : (Tryd.prog.info? 24).map (·.size) = some G.size := by rw [s2]; exact info24
  have i23g : (Tryd.prog.info? 23).map (·.size) = some G.size := by rw [s2]; exact info23
  have hb0 : Below w.heap.size w (w.alloc (.cells A 23)) := (Below.refl _ _).alloc (Nat.le_refl _) _
  have r0 : Row (w.alloc (.cells A 23)) w.heap.size A 23 := Row.new w A 23
  obtain ⟨Z, hZ⟩ : ∃ Z, Z = zeros32 := ⟨_, rfl⟩
  have hZs : Z.size = 32 := by rw [hZ]; rfl
  unfold zeros32 at hZ
  have HZ : Hid _ := hZ
  clear hZ
  go_enter Tryd.func4, Tryd.ntmps4
  go_wp2_with fail
  refine (HP'.out _ hb0).mono ?_
  rintro e w1 ⟨rfl, hb1⟩
  have hb1' := hb0.trans (hb1.mono hb0.size)
  have r0' := r0.below hb1 r0.lt
  clear r0 hb0 hb1 HP'
  go_wp2_with (refine wpList_store_row rfl 24 _ _ rfl w1.heap.size G rfl rfl 24 Z (by rw [← HZ.out]; exact Row.new w1 Z 24) i24g (hZs.trans s2.symm) O1.out ?_)
  rw [← HZ.out, World.setRow_alloc_new]
  have hb2 : Below w.heap.size w (w1.alloc (.cells G 24)) := hb1'.alloc hb1'.size _
  have r1 : Row (w1.alloc (.cells G 24)) w1.heap.size G 24 := Row.new w1 G 24
  have r0 := r0'.alloc (.cells G 24)
  refine (HRP'.out _ hb2).mono ?_
  rintro e w2 ⟨rfl, hb3⟩
  have hb3' := hb2.trans (hb3.mono hb2.size)
  have q0 := r0.below hb3 r0.lt
  have q1 := r1.below hb3 r1.lt
  clear r0 r1 r0' hb1' hb2 hb3 HRP'
  go_wp2_with (refine wpList_store_row rfl 23 _ _ rfl w2.heap.size G rfl rfl 23 Z (by rw [← HZ.out]; exact Row.new w2 Z 23) i23g (hZs.trans s2.symm) O1.out ?_)
  rw [← HZ.out, World.setRow_alloc_new]
  have hb4 : Below w.heap.size w (w2.alloc (.cells G 23)) := hb3'.alloc hb3'.size _
  have hW : Kept3 w w.heap.size w1.heap.size w2.heap.size A G G 23 24 23 (w2.alloc (.cells G 23)) := ⟨q0.alloc _, q1.alloc _, Row.new w2 G 23, hb4⟩
  clear q0 q1 hb3' hb4 HZ hZs O1
  generalize w2.alloc (.cells G 23) = W at *
  generalize w1.heap.size = n1 at *
  generalize w2.heap.size = n2 at *
  refine wp_region_quiet (C := Kept3 w w.heap.size n1 n2 A G G 23 24 23) (by kernel_rfl) (by kernel_rfl) (hW.next (Below.refl _ _).drew) ?_
  simp only []
  refine q_load 24 _ rfl (by rfl) n1 G 24 _ rfl (fun w h => h.b) Tryd.underlying24 rfl i24g ?_
  simp only [Act.put, List.setIfInBounds_toArray, List.set_cons_zero, List.set_cons_succ]
  refine q_load 23 _ rfl (by rfl) n2 G 23 _ rfl (fun w h => h.c) Tryd.underlying23 rfl i23g ?_
  simp only [Act.put, List.setIfInBounds_toArray, List.set_cons_zero, List.set_cons_succ]
  refine q_value ?_ (by rfl) (fun w hw => ?_) ?_
  rotate_left
  · go_simp
    with_reducible rfl
  simp only [Act.put, List.setIfInBounds_toArray, List.set_cons_zero, List.set_cons_succ]
  refine q_move _ rfl (by rfl) ?_
  simp only [Act.put, List.setIfInBounds_toArray, List.set_cons_zero, List.set_cons_succ]
  refine q_move _ rfl (by rfl) ?_
  simp only [Act.put, List.setIfInBounds_toArray, List.set_cons_zero, List.set_cons_succ]
  refine q_move _ rfl (by rfl) ?_
  simp only [Act.put, List.setIfInBounds_toArray, List.set_cons_zero, List.set_cons_succ]
  refine q_value ?_ (by rfl) (fun w hw => ?_) ?_
  rotate_left
  · go_simp
    with_reducible rfl
  simp only [Act.put, List.setIfInBounds_toArray, List.set_cons_zero, List.set_cons_succ]
  refine q_value ?_ (by rfl) (fun w hw => ?_) ?_
  rotate_left
  · go_simp
    with_reducible rfl
  simp only [Act.put, List.setIfInBounds_toArray, List.set_cons_zero, List.set_cons_succ]
  refine q_move _ rfl (by rfl) ?_
  simp only [Act.put, List.setIfInBounds_toArray, List.set_cons_zero, List.set_cons_succ]
  refine q_value ?_ (by rfl) (fun w hw => ?_) ?_
  rotate_left
  · go_simp
    with_reducible rfl
  simp only [Act.put, List.setIfInBounds_toArray, List.set_cons_zero, List.set_cons_succ]
  refine q_move _ rfl (by rfl) ?_
  simp only [Act.put, List.setIfInBounds_toArray, List.set_cons_zero, List.set_cons_succ]
  refine q_load 23 _ rfl (by rfl) w.heap.size A 23 _ rfl (fun w h => h.a) Tryd.underlying23 rfl i23 ?_
  simp only [Act.put, List.setIfInBounds_toArray, List.set_cons_zero, List.set_cons_succ]
  refine q_call (.string T) (by rfl) 10 #[.agg A] (fun w h => by go_simp) (fun w h => (HT'.out w h.old).mono fun e w' ⟨he, hb⟩ => ⟨he, h.next hb⟩) ?_
  simp only [Act.put, List.setIfInBounds_toArray, List.set_cons_zero, List.set_cons_succ]
  refine q_value ?_ (by rfl) (fun w hw => ?_) ?_
  rotate_left
  · go_simp
    with_reducible rfl
  simp only [Act.put, List.setIfInBounds_toArray, List.set_cons_zero, List.set_cons_succ]
  refine q_call (.string T) (by rfl) 11 #[.slice (some ⟨w.heap.size, 0, none⟩) 32 32] (fun w h => by go_simp) (fun w h => (HRT'.out w h.old h.a).mono fun e w' ⟨he, hb⟩ => ⟨he, h.next hb⟩) ?_
  simp only [Act.put, List.setIfInBounds_toArray, List.set_cons_zero, List.set_cons_succ]
  refine q_value ?_ (by rfl) (fun w hw => ?_) ?_
  rotate_left
  · go_simp
    with_reducible rfl
  simp only [Act.put, List.setIfInBounds_toArray, List.set_cons_zero, List.set_cons_succ]
  refine q_value ?_ (by rfl) (fun w hw => ?_) ?_
  rotate_left
  · go_simp
    with_reducible rfl
  simp only [Act.put, List.setIfInBounds_toArray, List.set_cons_zero, List.set_cons_succ]
  refine q_move _ rfl (by rfl) ?_
  simp only [Act.put, List.setIfInBounds_toArray, List.set_cons_zero, List.set_cons_succ]
  refine q_load 23 _ rfl (by rfl) w.heap.size A 23 _ rfl (fun w h => h.a) Tryd.underlying23 rfl i23 ?_
  simp only [Act.put, List.setIfInBounds_toArray, List.set_cons_zero, List.set_cons_succ]
  refine q_call (.string U) (by rfl) 12 #[.agg A] (fun w h => by go_simp) (fun w h => (HS'.out w h.old).mono fun e w' ⟨he, hb⟩ => ⟨he, h.next hb⟩) ?_
  simp only [Act.put, List.setIfInBounds_toArray, List.set_cons_zero, List.set_cons_succ]
  refine q_load 23 _ rfl (by rfl) w.heap.size A 23 _ rfl (fun w h => h.a) Tryd.underlying23 rfl i23 ?_
  simp only [Act.put, List.setIfInBounds_toArray, List.set_cons_zero, List.set_cons_succ]
  refine q_call (.string U) (by rfl) 13 #[.agg A] (fun w h => by go_simp) (fun w h => (HRS'.out w h.old).mono fun e w' ⟨he, hb⟩ => ⟨he, h.next hb⟩) ?_
  simp only [Act.put, List.setIfInBounds_toArray, List.set_cons_zero, List.set_cons_succ]
  refine q_value ?_ (by rfl) (fun w hw => ?_) ?_
  rotate_left
  · go_simp
    with_reducible rfl
  simp only [Act.put, List.setIfInBounds_toArray, List.set_cons_zero, List.set_cons_succ]
  refine q_value ?_ (by rfl) (fun w hw => ?_) ?_
  rotate_left
  · go_simp
    with_reducible rfl
  simp only [Act.put, List.setIfInBounds_toArray, List.set_cons_zero, List.set_cons_succ]
  refine q_assign _ rfl (by rfl) ?_
  simp only [Act.put, List.setIfInBounds_toArray, List.set_cons_zero, List.set_cons_succ]
  refine wpQuiet_nil ?_
  intro w' hw'
  simp only [Exit.then]
  go_wp2
  go_ret
  exact ⟨rfl, hw'.old⟩

/-- The law. -/
theorem parses_any (f : Nat → Int) (s : ByteArray) (w : World) (hT : Tab w) (hn : s.size ≤ 140737488351232) (hf : ∀ i, 0 ≤ f i ∧ f i < 256) (hf0 : ∀ i, 32 ≤ i → f i = 0) :
    Calls Tryd.prog 4 #[.string s, .agg (arr f 32)] w fun e w' => e = .returned (.bool true) ∧ Below w.heap.size w w' := by
  have hp := hT.pos
  obtain ⟨g, c, HP, HRP⟩ := parse_pair s w hT hn
  refine law_parses f g c s _ _ w HP HRP (fun wr hb => text_any f wr (hT.below hb hp) hf hf0) (fun wr hb hr => ?_) (fun wr hb => short_any f wr (hT.below hb hp)) (fun wr _ => refShort_any f wr)
  exact refEncode_core (some ⟨w.heap.size, 0, none⟩) w.heap.size 0 32 32 52 f wr (by decide) (by decide) (by decide) (fun _ => rfl) (fun i hi => by rw [Nat.zero_add, hr.cell i, arr_at _ _ _ hi]) hf hf0
end Go.Proofs.YtihemceilmcekaaDoor
