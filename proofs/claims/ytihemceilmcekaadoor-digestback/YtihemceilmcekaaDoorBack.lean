/- The walk of the law DigestBack over the contracts of Text, Parse and Short. -/
import Derived.Test.YtihemceilmcekaaDoorParse
import Derived.Test.YtihemceilmcekaaDoorTexts
import Derived.Test.YtihemceilmcekaaDoorQuiet
namespace Go.Proofs.YtihemceilmcekaaDoor
open Go.RowKit Math


set_option maxHeartbeats 1000000 in
theorem law_back (f g : Nat → Int) (S T U : ByteArray) (w : World)
    (HT1 : ∀ wr, Below w.heap.size w wr → Calls Tryd.prog 10 #[.agg (arr f 32)] wr fun e w' => e = .returned (.string S) ∧ Below wr.heap.size wr w')
    (HT2 : ∀ wr, Below w.heap.size w wr → Calls Tryd.prog 10 #[.agg (arr g 32)] wr fun e w' => e = .returned (.string T) ∧ Below wr.heap.size wr w')
    (HP : ∀ wr, Below w.heap.size w wr → Calls Tryd.prog 14 #[.string S] wr fun e w' => e = .returned (.tuple #[.agg (arr f 32), .int .i64 0]) ∧ Below wr.heap.size wr w')
    (HS : ∀ wr, Below w.heap.size w wr → Calls Tryd.prog 12 #[.agg (arr f 32)] wr fun e w' => e = .returned (.string U) ∧ Below wr.heap.size wr w')
    (hS : S.size = 52) (hU : U.size = 32) (hST : (S.toList == T.toList) = same 32 f g) :
    Calls Tryd.prog 5 #[.agg (arr f 32), .agg (arr g 32)] w fun e w' => e = .returned (.bool true) ∧ Below w.heap.size w w' := by
  have e1 : ∀ w : World, (Op.equalIn 10000 24 (.agg (arr f 32)) (.agg (arr f 32))).run Tryd.prog w = .ok true w := fun w => by rw [eq_arr f f 24 Tryd.underlying24 w, same_refl]
  have e2 : ∀ w : World, (Op.equalIn 10000 23 (.agg (arr f 32)) (.agg (arr g 32))).run Tryd.prog w = .ok (same 32 f g) w := fun w => eq_arr f g 23 Tryd.underlying23 w
  have o1 := arr_one f 32
  have o2 := arr_one g 32
  have s1 := arr_size f 32
  have s2 := arr_size g 32
  generalize arr f 32 = A at *
  generalize arr g 32 = B at *
  generalize same 32 f g = m at *
  have HT1' : Hid _ := HT1
  have HT2' : Hid _ := HT2
  have HP' : Hid _ := HP
  have HS' : Hid _ := HS
  have hiA : (Tryd.prog.info? 24).map (·.size) = some A.size := by rw [s1]; exact info24
  have hb0 : Below w.heap.size w ((w.alloc (.cells A 23)).alloc (.cells B 23)) := ((Below.refl _ _).alloc (Nat.le_refl _) _).alloc (by simp) _
  have r2 : Row ((w.alloc (.cells A 23)).alloc (.cells B 23)) w.heap.size A 23 := (Row.new w A 23).alloc _
  have r3 : Row ((w.alloc (.cells A 23)).alloc (.cells B 23)) (w.heap.size + 1) B 23 := by
    have h := Row.new (w.alloc (.cells A 23)) B 23
    simpa using h
  have hi23 : (Tryd.prog.info? 23).map (·.size) = some A.size := by rw [s1]; exact info23
  clear HT1 HT2 HP HS
  go_enter Tryd.func5, Tryd.ntmps5
  go_wp2_with (refine wpList_load_row rfl 23 _ rfl _ rfl 23 A (0, 0) _ r2 Tryd.underlying23 rfl hi23 ?_)
  refine (HT1'.out _ hb0).mono ?_
  rintro e w1 ⟨rfl, hb1⟩
  have hb1' := hb0.trans (hb1.mono hb0.size)
  have r2' := r2.below hb1 (by simp; omega)
  have r3' := r3.below hb1 (by simp)
  clear r2 r3 hb0
  go_wp2_with fail
  refine (HP'.out _ hb1').mono ?_
  rintro e w2 ⟨rfl, hb2⟩
  have hb2' := hb1'.trans (hb2.mono hb1'.size)
  have r2 := r2'.below hb2 r2'.lt
  have r3 := r3'.below hb2 r3'.lt
  clear r2' r3' hb1' hb1 hb2
  obtain ⟨Z, hZ⟩ : ∃ Z, Z = zeros32 := ⟨_, rfl⟩
  have hZs : Z.size = 32 := by rw [hZ]; rfl
  unfold zeros32 at hZ
  have r6 : Row (w2.alloc (.cells Z 24)) w2.heap.size Z 24 := Row.new w2 Z 24
  go_wp2_with (refine wpList_store_row rfl 24 _ _ rfl w2.heap.size A rfl rfl 24 Z (by rw [← hZ]; exact r6) hiA (hZs.trans s1.symm) o1 ?_)
  rw [← hZ, World.setRow_alloc_new]
  have hbW : Below w.heap.size w (w2.alloc (.cells A 24)) := hb2'.alloc hb2'.size _
  have hW : Kept3 w w.heap.size (w.heap.size + 1) w2.heap.size A B A 23 23 24 (w2.alloc (.cells A 24)) := ⟨r2.alloc _, r3.alloc _, Row.new w2 A 24, hbW⟩
  clear r2 r3 r6 hb2' hZ hZs o1 o2 HP' HT1'
  have hi23b : (Tryd.prog.info? 23).map (·.size) = some B.size := by rw [s2]; exact info23
  generalize w2.alloc (.cells A 24) = W at *
  refine wp_region_quiet (C := Kept3 w w.heap.size (w.heap.size + 1) w2.heap.size A B A 23 23 24) (by kernel_rfl) (by kernel_rfl) (hW.next (Below.refl _ _).drew) ?_
  simp only []
  generalize w2.heap.size = n2 at *
  refine q_move _ rfl (by rfl) ?_
  simp only [Act.put, List.setIfInBounds_toArray, List.set_cons_zero, List.set_cons_succ]
  refine q_value ?_ (by rfl) (fun w hw => ?_) ?_
  rotate_left
  · go_simp
    with_reducible rfl
  simp only [Act.put, List.setIfInBounds_toArray, List.set_cons_zero, List.set_cons_succ]
  refine q_move _ rfl (by rfl) ?_
  simp only [Act.put, List.setIfInBounds_toArray, List.set_cons_zero, List.set_cons_succ]
  refine q_load 24 _ rfl (by rfl) n2 A 24 _ rfl (fun w h => h.c) Tryd.underlying24 rfl hiA ?_
  simp only [Act.put, List.setIfInBounds_toArray, List.set_cons_zero, List.set_cons_succ]
  refine q_load 23 _ rfl (by rfl) w.heap.size A 23 _ rfl (fun w h => h.a) Tryd.underlying23 rfl hi23 ?_
  simp only [Act.put, List.setIfInBounds_toArray, List.set_cons_zero, List.set_cons_succ]
  refine q_value ?_ (by rfl) (fun w hw => ?_) ?_
  rotate_left
  · go_simp
    with_reducible rfl
  simp only [Act.put, List.setIfInBounds_toArray, List.set_cons_zero, List.set_cons_succ]
  refine q_value ?_ (by rfl) (fun w hw => ?_) ?_
  rotate_left
  · go_simp
    with_reducible rfl
  simp only [Act.put, List.setIfInBounds_toArray, List.set_cons_zero, List.set_cons_succ]
  refine q_move _ rfl (by rfl) ?_
  simp only [Act.put, List.setIfInBounds_toArray, List.set_cons_zero, List.set_cons_succ]
  refine q_move _ rfl (by rfl) ?_
  simp only [Act.put, List.setIfInBounds_toArray, List.set_cons_zero, List.set_cons_succ]
  refine q_value ?_ (by rfl) (fun w hw => ?_) ?_
  rotate_left
  · go_simp
    with_reducible rfl
  simp only [Act.put, List.setIfInBounds_toArray, List.set_cons_zero, List.set_cons_succ]
  refine q_value ?_ (by rfl) (fun w hw => ?_) ?_
  rotate_left
  · go_simp
    with_reducible rfl
  simp only [Act.put, List.setIfInBounds_toArray, List.set_cons_zero, List.set_cons_succ]
  refine q_value ?_ (by rfl) (fun w hw => ?_) ?_
  rotate_left
  · go_simp
    with_reducible rfl
  simp only [Act.put, List.setIfInBounds_toArray, List.set_cons_zero, List.set_cons_succ]
  refine q_move _ rfl (by rfl) ?_
  simp only [Act.put, List.setIfInBounds_toArray, List.set_cons_zero, List.set_cons_succ]
  refine q_load 23 _ rfl (by rfl) w.heap.size A 23 _ rfl (fun w h => h.a) Tryd.underlying23 rfl hi23 ?_
  simp only [Act.put, List.setIfInBounds_toArray, List.set_cons_zero, List.set_cons_succ]
  refine q_call (.string U) (by rfl) 12 #[.agg A] (fun w h => by go_simp) (fun w h => (HS'.out w h.old).mono fun e w' ⟨he, hb⟩ => ⟨he, h.next hb⟩) ?_
  simp only [Act.put, List.setIfInBounds_toArray, List.set_cons_zero, List.set_cons_succ]
  refine q_value ?_ (by rfl) (fun w hw => ?_) ?_
  rotate_left
  · go_simp
    with_reducible rfl
  simp only [Act.put, List.setIfInBounds_toArray, List.set_cons_zero, List.set_cons_succ]
  refine q_value ?_ (by rfl) (fun w hw => ?_) ?_
  rotate_left
  · go_simp
    with_reducible rfl
  simp only [Act.put, List.setIfInBounds_toArray, List.set_cons_zero, List.set_cons_succ]
  refine q_value ?_ (by rfl) (fun w hw => ?_) ?_
  rotate_left
  · go_simp
    with_reducible rfl
  simp only [Act.put, List.setIfInBounds_toArray, List.set_cons_zero, List.set_cons_succ]
  refine q_move _ rfl (by rfl) ?_
  simp only [Act.put, List.setIfInBounds_toArray, List.set_cons_zero, List.set_cons_succ]
  refine q_move _ rfl (by rfl) ?_
  simp only [Act.put, List.setIfInBounds_toArray, List.set_cons_zero, List.set_cons_succ]
  refine q_load 23 _ rfl (by rfl) (w.heap.size + 1) B 23 _ rfl (fun w h => h.b) Tryd.underlying23 rfl hi23b ?_
  simp only [Act.put, List.setIfInBounds_toArray, List.set_cons_zero, List.set_cons_succ]
  refine q_call (.string T) (by rfl) 10 #[.agg B] (fun w h => by go_simp) (fun w h => (HT2'.out w h.old).mono fun e w' ⟨he, hb⟩ => ⟨he, h.next hb⟩) ?_
  simp only [Act.put, List.setIfInBounds_toArray, List.set_cons_zero, List.set_cons_succ]
  refine q_value ?_ (by rfl) (fun w hw => ?_) ?_
  rotate_left
  · go_simp
    with_reducible rfl
  simp only [Act.put, List.setIfInBounds_toArray, List.set_cons_zero, List.set_cons_succ]
  refine q_load 23 _ rfl (by rfl) w.heap.size A 23 _ rfl (fun w h => h.a) Tryd.underlying23 rfl hi23 ?_
  simp only [Act.put, List.setIfInBounds_toArray, List.set_cons_zero, List.set_cons_succ]
  refine q_load 23 _ rfl (by rfl) (w.heap.size + 1) B 23 _ rfl (fun w h => h.b) Tryd.underlying23 rfl hi23b ?_
  simp only [Act.put, List.setIfInBounds_toArray, List.set_cons_zero, List.set_cons_succ]
  refine q_value ?_ (by rfl) (fun w hw => ?_) ?_
  rotate_left
  · go_simp
    with_reducible rfl
  simp only [Act.put, List.setIfInBounds_toArray, List.set_cons_zero, List.set_cons_succ]
  refine q_value ?_ (by rfl) (fun w hw => ?_) ?_
  rotate_left
  · go_simp
    with_reducible rfl
  simp only [Act.put, List.setIfInBounds_toArray, List.set_cons_zero, List.set_cons_succ]
  refine q_value ?_ (by rfl) (fun w hw => ?_) ?_
  rotate_left
  · go_simp
    with_reducible rfl
  simp only [Act.put, List.setIfInBounds_toArray, List.set_cons_zero, List.set_cons_succ]
  refine q_assign _ rfl (by rfl) ?_
  simp only [Act.put, List.setIfInBounds_toArray, List.set_cons_zero, List.set_cons_succ]
  refine wpQuiet_nil ?_
  intro w' hw'
  simp only [Exit.then]
  go_wp2
  go_ret
  exact ⟨rfl, hw'.old⟩

/-- The law. -/
theorem back_any (f g : Nat → Int) (w : World) (hT : Tab w) (hf : ∀ i, 0 ≤ f i ∧ f i < 256) (hf0 : ∀ i, 32 ≤ i → f i = 0) (hg : ∀ i, 0 ≤ g i ∧ g i < 256) (hg0 : ∀ i, 32 ≤ i → g i = 0) :
    Calls Tryd.prog 5 #[.agg (arr f 32), .agg (arr g 32)] w fun e w' => e = .returned (.bool true) ∧ Below w.heap.size w w' := by
  have hp := hT.pos
  refine law_back f g _ _ _ w (fun wr hb => text_any f wr (hT.below hb hp) hf hf0) (fun wr hb => text_any g wr (hT.below hb hp) hg hg0) (fun wr hb => ?_) (fun wr hb => short_any f wr (hT.below hb hp)) (size_enc _ _) (size_enc _ _) (enc_same f g 32 52 hf hg hf0 hg0 (by decide))
  have hTr := hT.below hb hp
  exact parse_ok _ f wr (fun wx hx => decode_own wx f 32 (hTr.below hx hTr.pos) (by decide) hf hf0)
end Go.Proofs.YtihemceilmcekaaDoor
