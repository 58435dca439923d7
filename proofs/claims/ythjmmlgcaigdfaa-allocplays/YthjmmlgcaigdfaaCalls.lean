/- The walks of Put, Drop, Has, Take, Count. -/
import Derived.Test.YthjmmlgcaigdfaaNew
namespace Go.Proofs.Ythjmmlgcaigdfaa
open Go.RowKit
variable {w : World} {g n : Nat} {S : Nat → Bool}

theorem put_arg (h : SetAt w g n S) (k : Int) (hk : ¬ (0 ≤ k ∧ k < n)) : Calls Try.prog 13 #[.pointer (some ⟨g, 0, none⟩), .int .i64 k] w fun e w' => e = .returned (.int .i64 2) ∧ w' = w := by
  have H := made_yes h
  have H2 := knows_any h k
  rw [decide_eq_false hk] at H2
  clear h hk
  go_enter Try.func13, Try.ntmps13
  go_wp2_with fail
  refine H.mono ?_
  rintro e w' ⟨rfl, rfl⟩
  go_wp2_with fail
  refine H2.mono ?_
  rintro e w' ⟨rfl, rfl⟩
  go_wp2
  go_ret
  exact ⟨rfl, rfl⟩
theorem put_there (h : SetAt w g n S) (k : Nat) (hk : k < n) (hS : S k = true) : Calls Try.prog 13 #[.pointer (some ⟨g, 0, none⟩), .int .i64 k] w fun e w' => e = .returned (.int .i64 13) ∧ Still w w' := by
  have H := made_yes h
  have H2 := knows_any h k
  rw [show decide (0 ≤ (k : Int) ∧ (k : Int) < n) = true by simp; omega] at H2
  have H3 := in_any h k (by have := h.hi; omega)
  rw [hS] at H3
  clear h hk hS
  go_enter Try.func13, Try.ntmps13
  go_wp2_with fail
  refine H.mono ?_
  rintro e w' ⟨rfl, rfl⟩
  go_wp2_with fail
  refine H2.mono ?_
  rintro e w' ⟨rfl, rfl⟩
  go_wp2_with fail
  refine H3.mono ?_
  rintro e w' ⟨rfl, hst⟩
  go_wp2
  go_ret
  exact ⟨rfl, hst⟩
theorem put_new (h : SetAt w g n S) (k : Nat) (hk : k < n) (hS : S k = false) : Calls Try.prog 13 #[.pointer (some ⟨g, 0, none⟩), .int .i64 k] w fun e w' => e = .returned (.int .i64 0) ∧ SetAt w' g n (fl S k) ∧ Chg g w w' := by
  have H := made_yes h
  have H2 := knows_any h k
  rw [show decide (0 ≤ (k : Int) ∧ (k : Int) < n) = true by simp; omega] at H2
  have H3 := in_any h k (by have := h.hi; omega)
  rw [hS] at H3
  have H4 : Hid (∀ w', Still w w' → Calls Try.prog 26 #[.pointer (some ⟨g, 0, none⟩), .int .i64 k] w' fun e w' => e = .returned (.tuple #[]) ∧ SetAt w' g n (fl S k) ∧ Chg g w w') := fun w' hw => (flip_any (h.still hw) k hk).mono fun e w2 ⟨h1, h2, h3⟩ => ⟨h1, h2, (Chg.of_still hw).trans h3⟩
  clear h hk hS
  go_enter Try.func13, Try.ntmps13
  go_wp2_with fail
  refine H.mono ?_
  rintro e w' ⟨rfl, rfl⟩
  go_wp2_with fail
  refine H2.mono ?_
  rintro e w' ⟨rfl, rfl⟩
  go_wp2_with fail
  refine H3.mono ?_
  rintro e w' ⟨rfl, hst⟩
  go_wp2_with fail
  refine (H4.out _ hst).mono ?_
  rintro e w2 ⟨rfl, h2, h3⟩
  go_wp2
  go_ret
  exact ⟨rfl, h2, h3⟩
theorem drop_arg (h : SetAt w g n S) (k : Int) (hk : ¬ (0 ≤ k ∧ k < n)) : Calls Try.prog 15 #[.pointer (some ⟨g, 0, none⟩), .int .i64 k] w fun e w' => e = .returned (.int .i64 2) ∧ w' = w := by
  have H := made_yes h
  have H2 := knows_any h k
  rw [decide_eq_false hk] at H2
  clear h hk
  go_enter Try.func15, Try.ntmps15
  go_wp2_with fail
  refine H.mono ?_
  rintro e w' ⟨rfl, rfl⟩
  go_wp2_with fail
  refine H2.mono ?_
  rintro e w' ⟨rfl, rfl⟩
  go_wp2
  go_ret
  exact ⟨rfl, rfl⟩
theorem drop_none (h : SetAt w g n S) (k : Nat) (hk : k < n) (hS : S k = false) : Calls Try.prog 15 #[.pointer (some ⟨g, 0, none⟩), .int .i64 k] w fun e w' => e = .returned (.int .i64 14) ∧ Still w w' := by
  have H := made_yes h
  have H2 := knows_any h k
  rw [show decide (0 ≤ (k : Int) ∧ (k : Int) < n) = true by simp; omega] at H2
  have H3 := in_any h k (by have := h.hi; omega)
  rw [hS] at H3
  clear h hk hS
  go_enter Try.func15, Try.ntmps15
  go_wp2_with fail
  refine H.mono ?_
  rintro e w' ⟨rfl, rfl⟩
  go_wp2_with fail
  refine H2.mono ?_
  rintro e w' ⟨rfl, rfl⟩
  go_wp2_with fail
  refine H3.mono ?_
  rintro e w' ⟨rfl, hst⟩
  go_wp2
  go_ret
  exact ⟨rfl, hst⟩
theorem drop_in (h : SetAt w g n S) (k : Nat) (hk : k < n) (hS : S k = true) : Calls Try.prog 15 #[.pointer (some ⟨g, 0, none⟩), .int .i64 k] w fun e w' => e = .returned (.int .i64 0) ∧ SetAt w' g n (fl S k) ∧ Chg g w w' := by
  have H := made_yes h
  have H2 := knows_any h k
  rw [show decide (0 ≤ (k : Int) ∧ (k : Int) < n) = true by simp; omega] at H2
  have H3 := in_any h k (by have := h.hi; omega)
  rw [hS] at H3
  have H4 : Hid (∀ w', Still w w' → Calls Try.prog 26 #[.pointer (some ⟨g, 0, none⟩), .int .i64 k] w' fun e w' => e = .returned (.tuple #[]) ∧ SetAt w' g n (fl S k) ∧ Chg g w w') := fun w' hw => (flip_any (h.still hw) k hk).mono fun e w2 ⟨h1, h2, h3⟩ => ⟨h1, h2, (Chg.of_still hw).trans h3⟩
  clear h hk hS
  go_enter Try.func15, Try.ntmps15
  go_wp2_with fail
  refine H.mono ?_
  rintro e w' ⟨rfl, rfl⟩
  go_wp2_with fail
  refine H2.mono ?_
  rintro e w' ⟨rfl, rfl⟩
  go_wp2_with fail
  refine H3.mono ?_
  rintro e w' ⟨rfl, hst⟩
  go_wp2_with fail
  refine (H4.out _ hst).mono ?_
  rintro e w2 ⟨rfl, h2, h3⟩
  go_wp2
  go_ret
  exact ⟨rfl, h2, h3⟩
theorem has_arg (h : SetAt w g n S) (k : Int) (hk : ¬ (0 ≤ k ∧ k < n)) : Calls Try.prog 21 #[.pointer (some ⟨g, 0, none⟩), .int .i64 k] w fun e w' => e = .returned (.bool false) ∧ w' = w := by
  have H := made_yes h
  have H2 := knows_any h k
  rw [decide_eq_false hk] at H2
  clear h hk
  go_enter Try.func21, Try.ntmps21
  go_wp2_with fail
  refine H.mono ?_
  rintro e w' ⟨rfl, rfl⟩
  go_wp2_with fail
  refine H2.mono ?_
  rintro e w' ⟨rfl, rfl⟩
  go_wp2
  go_ret
  exact ⟨rfl, rfl⟩
theorem has_in (h : SetAt w g n S) (k : Nat) (hk : k < n) : Calls Try.prog 21 #[.pointer (some ⟨g, 0, none⟩), .int .i64 k] w fun e w' => e = .returned (.bool (S k)) ∧ Still w w' := by
  have H := made_yes h
  have H2 := knows_any h k
  rw [show decide (0 ≤ (k : Int) ∧ (k : Int) < n) = true by simp; omega] at H2
  have H3 := in_any h k (by have := h.hi; omega)
  clear h hk
  go_enter Try.func21, Try.ntmps21
  go_wp2_with fail
  refine H.mono ?_
  rintro e w' ⟨rfl, rfl⟩
  go_wp2_with fail
  refine H2.mono ?_
  rintro e w' ⟨rfl, rfl⟩
  go_wp2_with fail
  refine H3.mono ?_
  rintro e w' ⟨rfl, hst⟩
  go_wp2
  go_ret
  exact ⟨rfl, hst⟩

/-- How many of the first n are in it. -/
def cnt (S : Nat → Bool) : Nat → Nat
  | 0 => 0
  | n + 1 => cnt S n + (S n).toNat
theorem cnt_le (S : Nat → Bool) (n : Nat) : cnt S n ≤ n := by
  induction n with
  | zero => exact Nat.le_refl _
  | succ n ih => unfold cnt; cases S n <;> simp <;> omega

theorem take_ok (h : SetAt w g n S) (k : Nat) (hk : k < n) (hmin : ∀ j, j < k → S j = true) (hS : S k = false) :
    Calls Try.prog 11 #[.pointer (some ⟨g, 0, none⟩)] w fun e w' => e = .returned (.tuple #[.int .i64 k, .int .i64 0]) ∧ SetAt w' g n (fl S k) ∧ Chg g w w' := by
  have H := made_yes h
  have hc := h.cn
  have hn := h.hi
  have HH : Hid _ := h
  have HM : Hid _ := hmin
  clear h hmin
  go_enter Try.func11, Try.ntmps11
  go_wp2_with fail
  refine H.mono ?_
  rintro e w' ⟨rfl, rfl⟩
  go_wp2
  go_loopw [12] (fun i wr => ∃ j : Nat, j ≤ k ∧ i = .int .i64 j ∧ Still w' wr) (fun i _ => k - (intOf i).toNat)
  case atStart => exact ⟨0, by omega, rfl, Still.refl _⟩
  case round =>
    obtain ⟨j, hj, rfl, hst⟩ := hrel
    clear H hc
    have hjn : (j : Int) < n := by omega
    have H3 := in_any (HH.out.still hst) j (by omega)
    by_cases hjk : j < k
    · rw [HM.out j hjk] at H3
      go_wp2_with fail
      refine H3.mono ?_
      rintro e w2 ⟨rfl, hst2⟩
      go_wp2
      go_roundw
      case rel => exact ⟨j + 1, by omega, by go_num, hst.trans hst2⟩
      case measure => simp [intOf]; omega
    · obtain rfl : j = k := by omega
      rw [hS] at H3
      have H4 : Hid (∀ w2, Still w' w2 → Calls Try.prog 26 #[.pointer (some ⟨g, 0, none⟩), .int .i64 j] w2 fun e w3 => e = .returned (.tuple #[]) ∧ SetAt w3 g n (fl S j) ∧ Chg g w' w3) := fun w2 hw => (flip_any (HH.out.still hw) j hk).mono fun e w2 ⟨h1, h2, h3⟩ => ⟨h1, h2, (Chg.of_still hw).trans h3⟩
      go_wp2_with fail
      refine H3.mono ?_
      rintro e w2 ⟨rfl, hst2⟩
      go_wp2_with fail
      refine (H4.out _ (hst.trans hst2)).mono ?_
      rintro e w3 ⟨rfl, h2, h3⟩
      go_wp2
      go_ret2
      exact ⟨rfl, h2, h3⟩
theorem take_full (h : SetAt w g n S) (hall : ∀ j, j < n → S j = true) :
    Calls Try.prog 11 #[.pointer (some ⟨g, 0, none⟩)] w fun e w' => e = .returned (.tuple #[.int .i64 0, .int .i64 15]) ∧ Still w w' := by
  have H := made_yes h
  have hc := h.cn
  have hn := h.hi
  have HH : Hid _ := h
  have HM : Hid _ := hall
  clear h hall
  go_enter Try.func11, Try.ntmps11
  go_wp2_with fail
  refine H.mono ?_
  rintro e w' ⟨rfl, rfl⟩
  go_wp2
  go_loopw [12] (fun i wr => ∃ j : Nat, j ≤ n ∧ i = .int .i64 j ∧ Still w' wr) (fun i _ => n - (intOf i).toNat)
  case atStart => exact ⟨0, by omega, rfl, Still.refl _⟩
  case round =>
    obtain ⟨j, hj, rfl, hst⟩ := hrel
    clear H hc
    by_cases hjk : j < n
    · have hjn : (j : Int) < n := by omega
      have H3 := in_any (HH.out.still hst) j (by omega)
      rw [HM.out j hjk] at H3
      go_wp2_with fail
      refine H3.mono ?_
      rintro e w2 ⟨rfl, hst2⟩
      go_wp2
      go_roundw
      case rel => exact ⟨j + 1, by omega, by go_num, hst.trans hst2⟩
      case measure => simp [intOf]; omega
    · go_wp2
      go_ret2
      exact ⟨rfl, hst⟩
theorem count_ok (h : SetAt w g n S) :
    Calls Try.prog 20 #[.pointer (some ⟨g, 0, none⟩)] w fun e w' => e = .returned (.tuple #[.int .i64 (cnt S n), .int .i64 ((n : Int) - cnt S n)]) ∧ Still w w' := by
  have H := made_yes h
  have hc := h.cn
  have hn := h.hi
  have HH : Hid _ := h
  clear h
  go_enter Try.func20, Try.ntmps20
  go_wp2_with fail
  refine H.mono ?_
  rintro e w' ⟨rfl, rfl⟩
  go_wp2
  go_loopw [2, 12] (fun c i wr => ∃ j : Nat, j ≤ n ∧ c = .int .i64 (cnt S j) ∧ i = .int .i64 j ∧ Still w' wr) (fun _ i _ => n - (intOf i).toNat)
  case atStart => exact ⟨0, by omega, rfl, rfl, Still.refl _⟩
  case round =>
    obtain ⟨j, hj, rfl, rfl, hst⟩ := hrel
    clear H hc
    have hcl := cnt_le S j
    by_cases hjk : j < n
    · have hjn : (j : Int) < n := by omega
      have H3 := in_any (HH.out.still hst) j (by omega)
      have hcs : cnt S (j + 1) = cnt S j + (S j).toNat := rfl
      cases hS : S j with
      | true =>
        rw [hS] at H3 hcs
        have HC : Hid _ := hcs
        clear hcs hS
        generalize cnt S j = q at *
        go_wp2_with fail
        refine H3.mono ?_
        rintro e w2 ⟨rfl, hst2⟩
        go_wp2
        go_roundw
        case rel => exact ⟨j + 1, by omega, by rw [HC.out]; simp, by go_num, hst.trans hst2⟩
        case measure => simp [intOf]; omega
      | false =>
        rw [hS] at H3 hcs
        have HC : Hid _ := hcs
        clear hcs hS
        generalize cnt S j = q at *
        go_wp2_with fail
        refine H3.mono ?_
        rintro e w2 ⟨rfl, hst2⟩
        go_wp2
        go_roundw
        case rel => exact ⟨j + 1, by omega, by rw [HC.out]; simp, by go_num, hst.trans hst2⟩
        case measure => simp [intOf]; omega
    · obtain rfl : j = n := by omega
      have hc := (HH.out.still hst).cn
      generalize hq : cnt S j = q at *
      have HQ : Hid _ := hq
      clear hq
      have hwr : IntKind.i64.wrap ((j : Int) - q) = (j : Int) - q := by rw [IntKind.wrap_i64]; omega
      go_wp2_with fail
      refine wp_region_mix [false, false, false, false, false, false, false, false, false] (Still w') (by kernel_rfl) (by kernel_rfl) hst.drew ?_
      refine m_move _ rfl (by rfl) ?_
      simp only [Act.put, List.setIfInBounds_toArray, List.set_cons_zero, List.set_cons_succ]
      refine m_move _ rfl (by rfl) ?_
      simp only [Act.put, List.setIfInBounds_toArray, List.set_cons_zero, List.set_cons_succ]
      refine m_value ?_ (by rfl) (fun w hw => ?_) ?_
      rotate_left
      · go_simp
        with_reducible rfl
      simp only [Act.put, List.setIfInBounds_toArray, List.set_cons_zero, List.set_cons_succ]
      refine m_value ?_ (by rfl) (fun w hw => ?_) ?_
      rotate_left
      · go_simp
        with_reducible rfl
      simp only [Act.put, List.setIfInBounds_toArray, List.set_cons_zero, List.set_cons_succ]
      refine m_value ?_ (by rfl) (fun w hw => ?_) ?_
      rotate_left
      · have hc := (HH.out.still hw).cn
        go_simp
        with_reducible rfl
      simp only [Act.put, List.setIfInBounds_toArray, List.set_cons_zero, List.set_cons_succ]
      refine m_move _ rfl (by rfl) ?_
      simp only [Act.put, List.setIfInBounds_toArray, List.set_cons_zero, List.set_cons_succ]
      refine m_value ?_ (by rfl) (fun w hw => ?_) ?_
      rotate_left
      · go_simp
        with_reducible rfl
      simp only [Act.put, List.setIfInBounds_toArray, List.set_cons_zero, List.set_cons_succ]
      refine m_assign _ rfl (by rfl) ?_
      simp only [Act.put, List.setIfInBounds_toArray, List.set_cons_zero, List.set_cons_succ]
      refine m_assign _ rfl (by rfl) ?_
      simp only [Act.put, List.setIfInBounds_toArray, List.set_cons_zero, List.set_cons_succ]
      refine m_done ?_
      simp only [Exit.then]
      go_wp2
      go_ret2
      exact ⟨by rw [HQ.out]; rfl, hst.drew⟩
end Go.Proofs.Ythjmmlgcaigdfaa
