/- The walks of Clone, Same. -/
import Derived.Test.YthjmmlgcaigdfaaEq
namespace Go.Proofs.Ythjmmlgcaigdfaa
open Go.RowKit
variable {w : World} {g n : Nat} {S : Nat → Bool}

theorem setC_one (n : Nat) (S : Nat → Bool) : (setC n S).all (·.oneCell') = true := all_oneCell_toArray (fun u hu => by
  rcases List.mem_cons.1 hu with rfl | h
  · rfl
  · exact byts_one _ _ u h)
theorem infoC (n : Nat) (S : Nat → Bool) : (Try.prog.info? 53).map (·.size) = some (setC n S).size := by rw [setC_size]; exact info53
section
variable {ops : Array Oper} {rest : List Oper} {o : Oper} {a : Act} {w : World} {Q : Exit → Act → World → Prop}
/-- A whole row stored into the block that was made last. -/
theorem wpList_store_new (hgd : o.guard = none) (ty : TypeId) (x y : Operand) (ho : o.op = .store ty x y) (W : World) (Z C : Array Value) (t : TypeId) (hw : w = W.alloc (.cells Z t)) (g : Nat) (hg : g = W.heap.size) (hx : a.eval x = .pointer (some ⟨g, 0, none⟩)) (hy : a.eval y = .agg C)
    (hi : (Try.prog.info? ty).map (·.size) = some C.size) (hs : Z.size = C.size) (h1 : C.all (·.oneCell') = true)
    (h : wpList Try.prog ops Q rest (a.put o.dst undef) (W.alloc (.cells C t))) : wpList Try.prog ops Q (o :: rest) a w := by
  subst hw
  subst hg
  refine wpList_store_row hgd ty x y ho W.heap.size C hx hy t Z (heap_alloc_new W _) hi hs h1 ?_
  rw [World.setRow_alloc_new]
  exact h
end

set_option maxRecDepth 20000 in
theorem clone_ok (h : SetAt w g n S) : Calls Try.prog 16 #[.pointer (some ⟨g, 0, none⟩)] w fun e w' => e = .returned (.pointer (some ⟨w.heap.size, 0, none⟩)) ∧ SetAt w' w.heap.size n S ∧ Below w.heap.size w w' := by
  have H := made_yes h
  have hend : Hid (SetAt (w.alloc (.cells (setC n S) 53)) w.heap.size n S) := ⟨Row.new w _ 53, h.lo, h.hi, h.top⟩
  have hR := h.row
  have hz := (zero_of_info info53z).1
  have hi := infoC n S
  have hone := setC_one n S
  have hs : (setC 0 none').size = (setC n S).size := by rw [setC_size, setC_size]
  clear h
  generalize setC n S = A at *
  generalize setC 0 none' = Z at *
  go_enter Try.func16, Try.ntmps16
  go_wp2_with fail
  refine H.mono ?_
  rintro e w' ⟨rfl, rfl⟩
  go_wp2_with (first
    | refine wpList_load_row rfl 53 _ rfl _ rfl 53 A (0, 0) _ hR Try.underlying53 rfl hi ?_
    | refine wpList_store_new rfl 53 _ _ rfl w' Z A 53 rfl w'.heap.size rfl rfl rfl hi hs hone ?_)
  go_ret
  exact ⟨rfl, hend.out, (Below.refl _ _).alloc (Nat.le_refl _) _⟩

set_option maxRecDepth 20000 in
theorem same_ok {g' m : Nat} {T : Nat → Bool} (h : SetAt w g n S) (h' : SetAt w g' m T) : Calls Try.prog 17 #[.pointer (some ⟨g, 0, none⟩), .pointer (some ⟨g', 0, none⟩)] w fun e w' => e = .returned (.bool (sameB n S m T)) ∧ Still w w' := by
  have H := made_yes h
  have H' := made_yes h'
  have hR : Hid (∀ wx, Still w wx → Row wx g (setC n S) 53) := fun wx hx => h.row.still hx
  have hR' : Hid (∀ wx, Still w wx → Row wx g' (setC m T) 53) := fun wx hx => h'.row.still hx
  have hi := infoC n S
  have hi' := infoC m T
  have heq := eq_set n S m T
  clear h h'
  generalize setC n S = A at *
  generalize setC m T = B at *
  generalize sameB n S m T = b at *
  go_enter Try.func17, Try.ntmps17
  go_wp2_with fail
  refine H.mono ?_
  rintro e w' ⟨rfl, rfl⟩
  go_wp2_with fail
  refine H'.mono ?_
  rintro e w' ⟨rfl, hw'⟩
  subst w'
  go_wp2_with fail
  refine wp_region_mix [false, false, false, false, false, false, false, false] (Still w') (by kernel_rfl) (by kernel_rfl) (Still.refl w').drew ?_
  refine m_move _ rfl (by rfl) ?_
  simp only [Act.put, List.setIfInBounds_toArray, List.set_cons_zero, List.set_cons_succ]
  refine m_value ?_ (by rfl) (fun w hw => ?_) ?_
  rotate_left
  · go_simp
    with_reducible rfl
  simp only [Act.put, List.setIfInBounds_toArray, List.set_cons_zero, List.set_cons_succ]
  refine m_load 53 _ rfl (by rfl) g A 53 _ rfl hR.out Try.underlying53 rfl hi ?_
  simp only [Act.put, List.setIfInBounds_toArray, List.set_cons_zero, List.set_cons_succ]
  refine m_move _ rfl (by rfl) ?_
  simp only [Act.put, List.setIfInBounds_toArray, List.set_cons_zero, List.set_cons_succ]
  refine m_value ?_ (by rfl) (fun w hw => ?_) ?_
  rotate_left
  · go_simp
    with_reducible rfl
  simp only [Act.put, List.setIfInBounds_toArray, List.set_cons_zero, List.set_cons_succ]
  refine m_load 53 _ rfl (by rfl) g' B 53 _ rfl hR'.out Try.underlying53 rfl hi' ?_
  simp only [Act.put, List.setIfInBounds_toArray, List.set_cons_zero, List.set_cons_succ]
  refine m_value ?_ (by rfl) (fun w hw => ?_) ?_
  rotate_left
  · go_simp
    with_reducible rfl
  simp only [Act.put, List.setIfInBounds_toArray, List.set_cons_zero, List.set_cons_succ]
  refine m_assign _ rfl (by rfl) ?_
  simp only [Act.put, List.setIfInBounds_toArray, List.set_cons_zero, List.set_cons_succ]
  refine m_done ?_
  simp only [Exit.then]
  go_wp2
  go_ret
  exact ⟨rfl, (Still.refl w').drew⟩
end Go.Proofs.Ythjmmlgcaigdfaa
