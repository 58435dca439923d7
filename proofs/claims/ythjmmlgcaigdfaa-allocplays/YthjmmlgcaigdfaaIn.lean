/- The walks of in and flip. -/
import Derived.Test.YthjmmlgcaigdfaaSmall
import Derived.Test.YthjmmlgcaigdfaaLate
namespace Go.Proofs.Ythjmmlgcaigdfaa
open Go.RowKit
variable {w : World} {g n : Nat} {S : Nat → Bool}

set_option maxRecDepth 20000 in
theorem in_any (h : SetAt w g n S) (k : Nat) (hk : k < 2048) : Calls Try.prog 25 #[.pointer (some ⟨g, 0, none⟩), .int .i64 k] w fun e w' => e = .returned (.bool (S k)) ∧ Still w w' := by
  have hq : (k : Int).tdiv 8 = ((k / 8 : Nat) : Int) := rfl
  have hcell : Hid (∀ wx, Still w wx → wx.cell? ⟨g, 1 + k / 8, none⟩ = some (.int .u8 (byt S (k / 8)))) := fun wx hx => by rw [Nat.add_comm]; exact (h.still hx).byte k hk
  have hand := byt_and S k
  have hb := byt_bd S (k / 8)
  have hp : (0 : Int) < 2 ^ (k % 8) := Int.pow_pos (by decide)
  have hm : k / 8 < 256 := by omega
  clear h
  generalize byt S (k / 8) = v at *
  generalize hpw : (2 : Int) ^ (k % 8) = p at *
  have HB := bit_any k hk
  rw [hpw] at HB
  clear hpw
  obtain ⟨m, hmq⟩ : ∃ m, m = k / 8 := ⟨_, rfl⟩
  rw [← hmq] at hcell hq hm
  have HQ : Hid _ := hmq
  clear hmq
  have hwr : IntKind.i64.wrap (m : Int) = m := by rw [IntKind.wrap_i64]; omega
  have hm' : (m : Int) < 256 := by omega
  have HA : Hid _ := hand
  clear hand
  go_enter Try.func25, Try.ntmps25
  go_wp2_with fail
  refine wp_region_mix [false, false, false, false, false, false, false, false, true, false, false, false] (Still w) (by kernel_rfl) (by kernel_rfl) (Still.refl w).drew ?_
  refine m_move _ rfl (by rfl) ?_
  simp only [Act.put, List.setIfInBounds_toArray, List.set_cons_zero, List.set_cons_succ]
  refine m_move _ rfl (by rfl) ?_
  simp only [Act.put, List.setIfInBounds_toArray, List.set_cons_zero, List.set_cons_succ]
  refine m_value ?_ (by rfl) (fun w hw => ?_) ?_
  rotate_left
  · go_simp
    with_reducible rfl
  simp only [Act.put, List.setIfInBounds_toArray, List.set_cons_zero, List.set_cons_succ]
  refine m_value ?_ (by rfl) (fun w hw => ?_) ?_
  rotate_left
  · go_simp
    with_reducible rfl
  simp only [Act.put, List.setIfInBounds_toArray, List.set_cons_zero, List.set_cons_succ]
  refine m_value ?_ (by rfl) (fun w hw => ?_) ?_
  rotate_left
  · go_simp
    with_reducible rfl
  simp only [Act.put, List.setIfInBounds_toArray, List.set_cons_zero, List.set_cons_succ]
  refine m_value ?_ (by rfl) (fun w hw => ?_) ?_
  rotate_left
  · go_simp
    with_reducible rfl
  simp only [Act.put, List.setIfInBounds_toArray, List.set_cons_zero, List.set_cons_succ]
  refine m_value ?_ (by rfl) (fun w hw => ?_) ?_
  rotate_left
  · have hc := hcell.out w hw
    go_simp
    with_reducible rfl
  simp only [Act.put, List.setIfInBounds_toArray, List.set_cons_zero, List.set_cons_succ]
  refine m_move _ rfl (by rfl) ?_
  simp only [Act.put, List.setIfInBounds_toArray, List.set_cons_zero, List.set_cons_succ]
  refine m_call (by rfl) 28 #[.int .i64 k] (by go_simp) ((HB _).mono fun e w' ⟨he, hw'⟩ => ⟨_, he, by rw [hw']; exact (Still.refl w).drew, ?_⟩)
  subst hw'
  simp only [Act.put, List.setIfInBounds_toArray, List.set_cons_zero, List.set_cons_succ]
  refine m_value ?_ (by rfl) (fun w hw => ?_) ?_
  rotate_left
  · go_simp
    with_reducible rfl
  simp only [Act.put, List.setIfInBounds_toArray, List.set_cons_zero, List.set_cons_succ]
  refine m_value ?_ (by rfl) (fun w hw => ?_) ?_
  rotate_left
  · go_simp
    with_reducible rfl
  simp only [Act.put, List.setIfInBounds_toArray, List.set_cons_zero, List.set_cons_succ]
  refine m_assign _ rfl (by rfl) ?_
  simp only [Act.put, List.setIfInBounds_toArray, List.set_cons_zero, List.set_cons_succ]
  refine m_done ?_
  simp only [Exit.then]
  go_wp2
  go_ret
  refine ⟨?_, (Still.refl w).drew⟩
  have e := HA.out
  cases hS : S k <;> rw [hS] at e <;> simp at e <;> simp [e]
  omega

/-- A set whose bit k is the other one. -/
theorem SetAt.fl (h : SetAt w g n S) (k : Nat) (hk : k < n) : SetAt (w.setCell ⟨g, k / 8 + 1, none⟩ (.int .u8 (byt (fl S k) (k / 8)))) g n (fl S k) := by
  have hn := h.hi
  refine ⟨?_, h.lo, h.hi, fun j hj => ?_⟩
  · rw [← setC_fl n S k (by omega)]
    exact h.row.setCell _
  · unfold Ythjmmlgcaigdfaa.fl
    rw [if_neg (by omega)]
    exact h.top j hj

set_option maxRecDepth 20000 in
theorem flip_any (h : SetAt w g n S) (k : Nat) (hk : k < n) : Calls Try.prog 26 #[.pointer (some ⟨g, 0, none⟩), .int .i64 k] w fun e w' => e = .returned (.tuple #[]) ∧ SetAt w' g n (fl S k) ∧ Chg g w w' := by
  have hn := h.hi
  have hq : (k : Int).tdiv 8 = ((k / 8 : Nat) : Int) := rfl
  have hcell : Hid (∀ wx, Still w wx → wx.cell? ⟨g, 1 + k / 8, none⟩ = some (.int .u8 (byt S (k / 8)))) := fun wx hx => by rw [Nat.add_comm]; exact (h.still hx).byte k (by omega)
  have hend : Hid (∀ wx, Still w wx → SetAt (wx.setCell ⟨g, 1 + k / 8, none⟩ (.int .u8 (byt (fl S k) (k / 8)))) g n (fl S k)) := fun wx hx => by rw [Nat.add_comm]; exact (h.still hx).fl k hk
  have hfr : Hid (∀ wx, Still w wx → wx.frozen? ⟨g, 1 + k / 8, none⟩ = false) := fun wx hx => (h.still hx).row.frozen _
  have hxor := byt_xor S k
  have hb := byt_bd S (k / 8)
  have hb' := byt_bd (fl S k) (k / 8)
  have hm : k / 8 < 256 := by omega
  clear h
  generalize byt S (k / 8) = v at *
  generalize byt (fl S k) (k / 8) = v' at *
  generalize hpw : (2 : Int) ^ (k % 8) = p at *
  have HB := bit_any k (by omega)
  rw [hpw] at HB
  clear hpw
  obtain ⟨m, hmq⟩ : ∃ m, m = k / 8 := ⟨_, rfl⟩
  rw [← hmq] at hcell hq hm hend hfr
  have HQ : Hid _ := hmq
  clear hmq
  have hwr : IntKind.i64.wrap (m : Int) = m := by rw [IntKind.wrap_i64]; omega
  have hm' : (m : Int) < 256 := by omega
  go_enter Try.func26, Try.ntmps26
  go_wp2_with fail
  refine wp_region_late [13] [(2, 0), (2, 1), (2, 2), (2, 3), (2, 4), (2, 5), (0, 6), (2, 7), (2, 10), (2, 11), (1, 8), (0, 9), (2, 12), (1, 13)] (Still w) (by kernel_rfl) (by kernel_rfl) (Still.refl w).drew ?_
  refine f_move (some 4) _ rfl rfl rfl (by rfl) ?_
  simp only [Act.put, List.setIfInBounds_toArray, List.set_cons_zero, List.set_cons_succ]
  refine f_move (some 5) _ rfl rfl rfl (by rfl) ?_
  simp only [Act.put, List.setIfInBounds_toArray, List.set_cons_zero, List.set_cons_succ]
  refine f_value (some 6) ?_ rfl rfl (by rfl) (fun w hw => ?_) ?_
  rotate_left
  · go_simp
    with_reducible rfl
  simp only [Act.put, List.setIfInBounds_toArray, List.set_cons_zero, List.set_cons_succ]
  refine f_value (some 7) ?_ rfl rfl (by rfl) (fun w hw => ?_) ?_
  rotate_left
  · go_simp
    with_reducible rfl
  simp only [Act.put, List.setIfInBounds_toArray, List.set_cons_zero, List.set_cons_succ]
  refine f_value (some 8) ?_ rfl rfl (by rfl) (fun w hw => ?_) ?_
  rotate_left
  · go_simp
    with_reducible rfl
  simp only [Act.put, List.setIfInBounds_toArray, List.set_cons_zero, List.set_cons_succ]
  refine f_value (some 9) ?_ rfl rfl (by rfl) (fun w hw => ?_) ?_
  rotate_left
  · go_simp
    with_reducible rfl
  simp only [Act.put, List.setIfInBounds_toArray, List.set_cons_zero, List.set_cons_succ]
  refine l_value (some 10) ?_ rfl rfl (by rfl) (fun w hw => ?_) ?_
  rotate_left
  · have hc := hcell.out w hw
    go_simp
    with_reducible rfl
  simp only [Act.put, List.setIfInBounds_toArray, List.set_cons_zero, List.set_cons_succ]
  refine f_move (some 11) _ rfl rfl rfl (by rfl) ?_
  simp only [Act.put, List.setIfInBounds_toArray, List.set_cons_zero, List.set_cons_succ]
  refine f_value (some 14) ?_ rfl rfl (by rfl) (fun w hw => ?_) ?_
  rotate_left
  · go_simp
    with_reducible rfl
  simp only [Act.put, List.setIfInBounds_toArray, List.set_cons_zero, List.set_cons_succ]
  refine f_value (some 15) ?_ rfl rfl (by rfl) (fun w hw => ?_) ?_
  rotate_left
  · go_simp
    with_reducible rfl
  simp only [Act.put, List.setIfInBounds_toArray, List.set_cons_zero, List.set_cons_succ]
  refine l_call (some 12) rfl rfl (by rfl) 28 #[.int .i64 k] (by go_simp) ((HB _).mono fun e w' ⟨he, hw'⟩ => ⟨_, he, fun _ => by rw [hw']; exact (Still.refl w).drew, ?_⟩)
  subst hw'
  simp only [Act.put, List.setIfInBounds_toArray, List.set_cons_zero, List.set_cons_succ]
  refine l_value (some 13) ?_ rfl rfl (by rfl) (fun w hw => ?_) ?_
  rotate_left
  · go_simp
    with_reducible rfl
  simp only [Act.put, List.setIfInBounds_toArray, List.set_cons_zero, List.set_cons_succ]
  refine f_value (some 16) ?_ rfl rfl (by rfl) (fun w hw => ?_) ?_
  rotate_left
  · go_simp
    with_reducible rfl
  simp only [Act.put, List.setIfInBounds_toArray, List.set_cons_zero, List.set_cons_succ]
  refine l_store (w.drew.setCell ⟨g, 1 + m, none⟩ (.int .u8 v')) rfl rfl (by rfl) (by have hc := hcell.out _ (Still.refl w).drew; have hf := hfr.out _ (Still.refl w).drew; go_simp) (fun h => by cases h) ?_
  refine l_done ?_
  try simp only [Exit.then]
  go_wp2
  refine bodyPost_end (results_none rfl _ _ _) rfl ?_
  exact ⟨rfl, hend.out _ (Still.refl w).drew, (Chg.of_still (Still.refl w).drew).trans (Chg.of_setCell _ _ _)⟩
end Go.Proofs.Ythjmmlgcaigdfaa
