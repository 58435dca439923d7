/- My own work: slices.Equal over bytes. -/
import Derived.Test.YtdbnnljlbfjobaaGreatDoorPlace
namespace Go.Proofs.YtdbnnljlbfjobaaGreatDoor
open Go.RowKit Go.Lib

/-- The first n bytes are the same. -/
def eqB (f g : Nat → Int) (n : Nat) : Bool := (List.range n).all fun i => decide (f i = g i)
theorem eqB_no (f g : Nat → Int) (n k : Nat) (h : k < n) (hk : f k ≠ g k) : eqB f g n = false := by
  unfold eqB
  rw [List.all_eq_false]
  exact ⟨k, List.mem_range.2 h, by simp [hk]⟩
theorem eqB_yes (f g : Nat → Int) (n : Nat) (h : ∀ k, k < n → f k = g k) : eqB f g n = true := by
  unfold eqB
  rw [List.all_eq_true]
  exact fun k hk => by simp [h k (List.mem_range.1 hk)]

set_option maxRecDepth 20000 in
set_option maxHeartbeats 2000000 in
theorem equal_bytes (b1 o1 c1 b2 o2 c2 n : Nat) (f g : Nat → Int) (w : World) (hn : n ≤ 4611686018427387904) (h1 : ∀ i, i < n → w.cell? ⟨b1, o1 + i, none⟩ = some (.int .u8 (f i))) (h2 : ∀ i, i < n → w.cell? ⟨b2, o2 + i, none⟩ = some (.int .u8 (g i))) :
    Calls Tryz.prog 113 #[.slice (some ⟨b1, o1, none⟩) n c1, .slice (some ⟨b2, o2, none⟩) n c2] w fun e w' => e = .returned (.bool (eqB f g n)) ∧ Below w.heap.size w w' := by
  have H1 : Hid _ := h1
  have H2 : Hid _ := h2
  obtain ⟨r, hr⟩ : ∃ r, r = eqB f g n := ⟨_, rfl⟩
  have HR : Hid _ := hr
  rw [← hr]
  clear h1 h2 hr
  go_enter Tryz.func113, Tryz.ntmps113
  go_wp2
  go_loopw [13] (fun i wr => ∃ k : Nat, i = .int .i64 k ∧ k ≤ n ∧ Hid (∀ j, j < k → f j = g j) ∧ Hid (Below w.heap.size w wr)) (fun i _ => n - (intOf i).toNat)
  case atStart => exact ⟨0, rfl, Nat.zero_le _, fun j hj => absurd hj (by omega), Below.refl _ _⟩
  case round =>
    obtain ⟨k, rfl, hk, hok, hB⟩ := hrel
    by_cases hlt : k < n
    · have hlt' : (k : Int) < (n : Int) := by omega
      have hb1 : b1 < w.heap.size := World.block_lt_of_cell? _ _ (H1.out k hlt)
      have hb2 : b2 < w.heap.size := World.block_lt_of_cell? _ _ (H2.out k hlt)
      have k1 : ∀ wx, Below w.heap.size w wx → wx.cell? ⟨b1, o1 + k, none⟩ = some (.int .u8 (f k)) := fun wx hx => (hx.cell hb1).trans (H1.out k hlt)
      have k2 : ∀ wx, Below w.heap.size w wx → wx.cell? ⟨b2, o2 + k, none⟩ = some (.int .u8 (g k)) := fun wx hx => (hx.cell hb2).trans (H2.out k hlt)
      go_wp2_with fail
      refine wp_region_permA [(false, 0), (false, 1), (false, 2), (false, 3), (false, 4), (false, 5), (false, 6), (false, 7), (false, 8)] (fun wx => Below w.heap.size w wx) (by kernel_rfl) (by kernel_rfl) hB.out.drew ?_
      refine a_move (some 16) _ rfl rfl rfl (by rfl) ?_
      simp only [Act.put, List.setIfInBounds_toArray, List.set_cons_zero, List.set_cons_succ]
      refine a_move (some 17) _ rfl rfl rfl (by rfl) ?_
      simp only [Act.put, List.setIfInBounds_toArray, List.set_cons_zero, List.set_cons_succ]
      refine a_value (some 18) ?_ rfl rfl (by rfl) (fun w hw => ?_) ?_
      rotate_left
      · go_simp
        with_reducible rfl
      simp only [Act.put, List.setIfInBounds_toArray, List.set_cons_zero, List.set_cons_succ]
      refine a_value (some 19) ?_ rfl rfl (by rfl) (fun w hw => ?_) ?_
      rotate_left
      · have hc := k1 _ hw
        go_simp
        with_reducible rfl
      simp only [Act.put, List.setIfInBounds_toArray, List.set_cons_zero, List.set_cons_succ]
      refine a_move (some 20) _ rfl rfl rfl (by rfl) ?_
      simp only [Act.put, List.setIfInBounds_toArray, List.set_cons_zero, List.set_cons_succ]
      refine a_move (some 21) _ rfl rfl rfl (by rfl) ?_
      simp only [Act.put, List.setIfInBounds_toArray, List.set_cons_zero, List.set_cons_succ]
      refine a_value (some 22) ?_ rfl rfl (by rfl) (fun w hw => ?_) ?_
      rotate_left
      · go_simp
        with_reducible rfl
      simp only [Act.put, List.setIfInBounds_toArray, List.set_cons_zero, List.set_cons_succ]
      refine a_value (some 23) ?_ rfl rfl (by rfl) (fun w hw => ?_) ?_
      rotate_left
      · have hc := k2 _ hw
        go_simp
        with_reducible rfl
      simp only [Act.put, List.setIfInBounds_toArray, List.set_cons_zero, List.set_cons_succ]
      refine a_value (some 24) ?_ rfl rfl (by rfl) (fun w hw => ?_) ?_
      rotate_left
      · go_simp
        with_reducible rfl
      simp only [Act.put, List.setIfInBounds_toArray, List.set_cons_zero, List.set_cons_succ]
      refine a_done ?_
      have HB1 : Hid (Below w.heap.size w wr.drew) := hB.out.drew
      clear k1 k2
      by_cases he : f k = g k
      · have hrec : Hid (∀ j, j < k + 1 → f j = g j) := fun j hj => by
          rcases Nat.lt_or_ge j k with h | h
          · exact hok.out j h
          · obtain rfl : j = k := by omega
            exact he
        clear hok
        go_wp2
        go_roundw
        case rel => exact ⟨k + 1, by go_num, by omega, hrec, HB1⟩
        case measure => simp [intOf]; omega
      · have hr : r = false := HR.out.trans (eqB_no f g n k hlt he)
        subst hr
        clear HR
        go_wp2
        go_ret
        exact ⟨rfl, HB1.out⟩
    · have hlt' : ¬ (k : Int) < (n : Int) := by omega
      obtain rfl : k = n := by omega
      have hr : r = true := HR.out.trans (eqB_yes f g k hok.out)
      subst hr
      clear HR
      go_wp2
      go_ret
      exact ⟨rfl, hB.out⟩
end Go.Proofs.YtdbnnljlbfjobaaGreatDoor
