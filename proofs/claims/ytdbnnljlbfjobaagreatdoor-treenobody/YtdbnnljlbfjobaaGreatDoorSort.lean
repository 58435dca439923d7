/- The walk of slices.Sort on few ints: an insertion sort. -/
import Derived.Test.YtdbnnljlbfjobaaGreatDoorLate
import Derived.Test.YtdbnnljlbfjobaaGreatDoorMap2
namespace Go.Proofs.YtdbnnljlbfjobaaGreatDoor
open Go.RowKit

/-- n ints that lie in block b from its beginning. -/
structure Ints (w : World) (b n : Nat) (F : Nat → Int) : Prop where
  ex : ∃ cur, Row w b cur 3 ∧ n ≤ cur.size ∧ ∀ i, i < n → cur[i]? = some (.int .i64 (F i))
theorem Ints.cell {w : World} {b n : Nat} {F : Nat → Int} (h : Ints w b n F) (i : Nat) (hi : i < n) : w.cell? ⟨b, i, none⟩ = some (.int .i64 (F i)) := by
  obtain ⟨cur, h1, _, h3⟩ := h.ex
  exact (h1.cell i).trans (h3 i hi)
theorem Ints.frozen {w : World} {b n : Nat} {F : Nat → Int} (h : Ints w b n F) (i : Nat) : w.frozen? ⟨b, i, none⟩ = false := by
  obtain ⟨cur, h1, _, h3⟩ := h.ex
  exact h1.frozen i
def updF (F : Nat → Int) (k : Nat) (v : Int) (i : Nat) : Int := if i = k then v else F i
theorem Ints.set {w : World} {b n : Nat} {F : Nat → Int} (h : Ints w b n F) (k : Nat) (v : Int) : Ints (w.setCell ⟨b, k, none⟩ (.int .i64 v)) b n (updF F k v) := by
  obtain ⟨cur, h1, h2, h3⟩ := h.ex
  refine ⟨_, h1.setCell (i := k) _, by rw [Array.size_setIfInBounds]; exact h2, fun i hi => ?_⟩
  unfold updF
  by_cases e : i = k
  · subst e
    rw [if_pos rfl, Array.getElem?_setIfInBounds_self_of_lt (by omega)]
  · rw [if_neg e, Array.getElem?_setIfInBounds_ne (Ne.symm e)]
    exact h3 i hi
theorem Ints.keep {w w' : World} {b n : Nat} {F : Nat → Int} (h : Ints w b n F) (hb : w'.heap[b]? = w.heap[b]?) : Ints w' b n F := by
  obtain ⟨cur, h1, h2⟩ := h.ex
  exact ⟨cur, hb.trans h1, h2⟩

/-- The same values; unlike ones stay unlike. -/
structure Alike (n : Nat) (F F0 : Nat → Int) : Prop where
  mem : ∀ v, (∃ i, i < n ∧ F i = v) ↔ (∃ i, i < n ∧ F0 i = v)
  inj : (∀ i j, i < n → j < n → F0 i = F0 j → i = j) → ∀ i j, i < n → j < n → F i = F j → i = j
theorem Alike.refl (n : Nat) (F : Nat → Int) : Alike n F F := ⟨fun _ => Iff.rfl, id⟩
def swapF (F : Nat → Int) (k : Nat) : Nat → Int := updF (updF F (k + 1) (F k)) k (F (k + 1))
theorem swapF_at (F : Nat → Int) (k i : Nat) : swapF F k i = F (if i = k then k + 1 else if i = k + 1 then k else i) := by
  unfold swapF updF
  by_cases h : i = k
  · simp [h]
  · by_cases h2 : i = k + 1
    · simp [h2]
    · simp [h, h2]
theorem Alike.swap {n : Nat} {F F0 : Nat → Int} (h : Alike n F F0) (k : Nat) (hk : k + 1 < n) : Alike n (swapF F k) F0 := by
  have hlt : ∀ i, i < n → (if i = k then k + 1 else if i = k + 1 then k else i) < n := fun i hi => by
    by_cases h1 : i = k
    · rw [if_pos h1]; omega
    · rw [if_neg h1]
      split <;> omega
  refine ⟨fun v => Iff.trans ?_ (h.mem v), fun hi0 i j hi hj e => ?_⟩
  · constructor
    · rintro ⟨i, hi, e⟩
      rw [swapF_at] at e
      exact ⟨_, hlt i hi, e⟩
    · rintro ⟨i, hi, e⟩
      refine ⟨if i = k then k + 1 else if i = k + 1 then k else i, hlt i hi, ?_⟩
      rw [swapF_at, ← e]
      congr 1
      by_cases h1 : i = k
      · simp [h1]
      · by_cases h2 : i = k + 1
        · simp [h2]
        · simp [h1, h2]
  · rw [swapF_at, swapF_at] at e
    have := h.inj hi0 _ _ (hlt i hi) (hlt j hj) e
    by_cases h1 : i = k <;> by_cases h2 : i = k + 1 <;> by_cases h3 : j = k <;> by_cases h4 : j = k + 1 <;> simp [h1, h2, h3, h4] at this <;> omega

/-- All of the first m but the one at j stand in order. -/
def Near (F : Nat → Int) (m j : Nat) : Prop := ∀ p q, p < q → q ≤ m → q ≠ j → F p ≤ F q
theorem Near.swap {F : Nat → Int} {m k : Nat} (h : Near F m (k + 1)) (hk : k + 1 ≤ m) (hlt : F (k + 1) < F k) : Near (swapF F k) m k := fun p q hpq hqm hqk => by
  by_cases h1 : q = k + 1
  · subst h1
    have eq : swapF F k (k + 1) = F k := by rw [swapF_at, if_neg (by omega), if_pos rfl]
    by_cases h2 : p = k
    · subst h2
      have ep : swapF F p p = F (p + 1) := by rw [swapF_at, if_pos rfl]
      rw [ep, eq]
      omega
    · have ep : swapF F k p = F p := by rw [swapF_at, if_neg h2, if_neg (by omega)]
      rw [ep, eq]
      exact h p k (by omega) (by omega) (by omega)
  · have eq : swapF F k q = F q := by rw [swapF_at, if_neg hqk, if_neg h1]
    by_cases h2 : p = k
    · subst h2
      have ep : swapF F p p = F (p + 1) := by rw [swapF_at, if_pos rfl]
      rw [ep, eq]
      exact h (p + 1) q (by omega) hqm h1
    · by_cases h3 : p = k + 1
      · subst h3
        have ep : swapF F k (k + 1) = F k := by rw [swapF_at, if_neg h2, if_pos rfl]
        rw [ep, eq]
        exact h k q (by omega) hqm h1
      · have ep : swapF F k p = F p := by rw [swapF_at, if_neg h2, if_neg h3]
        rw [ep, eq]
        exact h p q hpq hqm h1
theorem Near.done {F : Nat → Int} {m k : Nat} (h : Near F m (k + 1)) (hge : F k ≤ F (k + 1)) (hk : k + 1 ≤ m) : ∀ p q, p < q → q ≤ m → F p ≤ F q := fun p q hpq hqm => by
  by_cases h1 : q = k + 1
  · subst h1
    by_cases h2 : p = k
    · subst h2; exact hge
    · have := h p k (by omega) (by omega) (by omega)
      omega
  · exact h p q hpq hqm h1

theorem less_any (x y : Int) (w : World) : Calls Tryz.prog 169 #[.int .i64 x, .int .i64 y] w fun e w' => e = .returned (.bool (decide (x < y))) ∧ w' = w := by
  go_enter Tryz.func169, Tryz.ntmps169
  go_wp2
  go_ret
  exact ⟨rfl, rfl⟩

set_option maxRecDepth 20000 in
set_option maxHeartbeats 4000000 in
theorem ins_ok (b n c : Nat) (F0 : Nat → Int) (w : World) (hn : n ≤ 12) (hI : Ints w b n F0) :
    Calls Tryz.prog 163 #[.slice (some ⟨b, 0, none⟩) n c, .int .i64 0, .int .i64 n] w fun e w' => (∃ v, e = .returned v) ∧ ∃ F, Ints w' b n F ∧ Alike n F F0 ∧ (∀ p q, p < q → q < n → F p ≤ F q) ∧ One b w w' := by
  have HI0 : Hid _ := hI
  have H1 : Hid (One b w w) := ⟨rfl, rfl, rfl, rfl, fun _ _ => rfl⟩
  clear hI
  go_enter Tryz.func163, Tryz.ntmps163
  go_wp2
  go_loopw [6] (fun iv wx => ∃ (i : Nat) (F : Nat → Int), 1 ≤ i ∧ iv = .int .i64 i ∧ i ≤ n + 1 ∧ Hid (Ints wx b n F) ∧ Hid (Alike n F F0) ∧ Hid (∀ p q, p < q → q < i → q < n → F p ≤ F q) ∧ Hid (One b w wx)) (fun iv _ => n + 1 - (intOf iv).toNat)
  case atStart => exact ⟨1, F0, by omega, by go_num, by omega, HI0, Alike.refl _ _, (fun p q h1 h2 => by omega), H1⟩
  case round =>
    obtain ⟨i, F, hi1, rfl, hin, hIF, hAl, hSo, hOn⟩ := hrel
    clear HI0 H1
    by_cases hlt : i < n
    · have hNear : Hid (Near F i i) := fun p q h1 h2 h3 => hSo.out p q h1 (by omega) (by omega)
      obtain ⟨wO, rfl⟩ : ∃ x, x = wr := ⟨wr, rfl⟩
      clear hSo
      go_wp2
      go_loopw [7] (fun jv wx => ∃ (j : Nat) (F : Nat → Int), j ≤ i ∧ jv = .int .i64 j ∧ Hid (Ints wx b n F) ∧ Hid (Alike n F F0) ∧ Hid (Near F i j) ∧ Hid (One b w wx)) (fun jv _ => (intOf jv).toNat)
      case atStart => exact ⟨i, F, Nat.le_refl _, rfl, hIF, hAl, hNear, hOn⟩
      case round =>
        clear hIF hAl hNear hOn
        obtain ⟨j, F, hji, rfl, hIF, hAl, hNe, hOn⟩ := hrel
        have HI : Hid (Ints wr.drew b n F) := hIF.out.keep rfl
        have HO : Hid (One b w wr.drew) := ⟨hOn.out.os, hOn.out.tape, hOn.out.output, hOn.out.size, hOn.out.block⟩
        cases j with
        | zero =>
          have hS : Hid (∀ p q, p < q → q < i + 1 → q < n → F p ≤ F q) := fun p q h1 h2 h3 => hNe.out p q h1 (by omega) (by omega)
          clear hIF hOn
          go_wp2_with fail
          refine wp_region_mix [false, false, false, false, false, false, false, false, false, false, false, false, false, false, false] (fun wx => Ints wx b n F) (by kernel_rfl) (by kernel_rfl) HI.out ?_
          refine m_move _ rfl (by rfl) ?_
          simp only [Act.put, List.setIfInBounds_toArray, List.set_cons_zero, List.set_cons_succ]
          refine m_move _ rfl (by rfl) ?_
          simp only [Act.put, List.setIfInBounds_toArray, List.set_cons_zero, List.set_cons_succ]
          refine m_value ?_ (by rfl) (fun w hw => ?_) ?_
          rotate_left
          · go_simp
            with_reducible rfl
          simp only [Act.put, List.setIfInBounds_toArray, List.set_cons_zero, List.set_cons_succ]
          refine m_move _ rfl (by rfl) ?_
          simp only [Act.put, List.setIfInBounds_toArray, List.set_cons_zero, List.set_cons_succ]
          refine m_skip (by rfl) ?_
          simp only [Act.put, List.setIfInBounds_toArray, List.set_cons_zero, List.set_cons_succ]
          refine m_skip (by rfl) ?_
          simp only [Act.put, List.setIfInBounds_toArray, List.set_cons_zero, List.set_cons_succ]
          refine m_skip (by rfl) ?_
          simp only [Act.put, List.setIfInBounds_toArray, List.set_cons_zero, List.set_cons_succ]
          refine m_skip (by rfl) ?_
          simp only [Act.put, List.setIfInBounds_toArray, List.set_cons_zero, List.set_cons_succ]
          refine m_skip (by rfl) ?_
          simp only [Act.put, List.setIfInBounds_toArray, List.set_cons_zero, List.set_cons_succ]
          refine m_skip (by rfl) ?_
          simp only [Act.put, List.setIfInBounds_toArray, List.set_cons_zero, List.set_cons_succ]
          refine m_skip (by rfl) ?_
          simp only [Act.put, List.setIfInBounds_toArray, List.set_cons_zero, List.set_cons_succ]
          refine m_skip (by rfl) ?_
          simp only [Act.put, List.setIfInBounds_toArray, List.set_cons_zero, List.set_cons_succ]
          refine m_skip (by rfl) ?_
          simp only [Act.put, List.setIfInBounds_toArray, List.set_cons_zero, List.set_cons_succ]
          refine m_skip (by rfl) ?_
          simp only [Act.put, List.setIfInBounds_toArray, List.set_cons_zero, List.set_cons_succ]
          refine m_value ?_ (by rfl) (fun w hw => ?_) ?_
          rotate_left
          · go_simp
            with_reducible rfl
          simp only [Act.put, List.setIfInBounds_toArray, List.set_cons_zero, List.set_cons_succ]
          refine m_done ?_
          try simp only [Exit.then]
          go_wp2
          go_roundw
          case rel => exact ⟨i + 1, F, by omega, by go_num, by omega, HI, hAl, hS, HO⟩
          case measure => simp [intOf]; omega
        | succ k =>
          have hki : (k : Int) < n := by omega
          have hki1 : (k : Int) + 1 < n := by omega
          have h0k : (0 : Int) ≤ (k : Int) + 1 := by omega
          have h0k' : (0 : Int) ≤ (k : Int) := by omega
          have hkp : (0 : Int) < (k : Int) + 1 := by omega
          have hwk : IntKind.i64.wrap (k : Int) = k := by rw [IntKind.wrap_i64]; omega
          clear hIF hOn
          by_cases hl : F (k + 1) < F k
          · go_wp2_with fail
            refine wp_region_mix [false, false, false, false, false, false, false, false, false, false, false, false, false, true, false] (fun wx => Ints wx b n F) (by kernel_rfl) (by kernel_rfl) HI.out ?_
            refine m_move _ rfl (by rfl) ?_
            simp only [Act.put, List.setIfInBounds_toArray, List.set_cons_zero, List.set_cons_succ]
            refine m_move _ rfl (by rfl) ?_
            simp only [Act.put, List.setIfInBounds_toArray, List.set_cons_zero, List.set_cons_succ]
            refine m_value ?_ (by rfl) (fun w hw => ?_) ?_
            rotate_left
            · go_simp
              with_reducible rfl
            simp only [Act.put, List.setIfInBounds_toArray, List.set_cons_zero, List.set_cons_succ]
            refine m_move _ rfl (by rfl) ?_
            simp only [Act.put, List.setIfInBounds_toArray, List.set_cons_zero, List.set_cons_succ]
            refine m_move _ rfl (by rfl) ?_
            simp only [Act.put, List.setIfInBounds_toArray, List.set_cons_zero, List.set_cons_succ]
            refine m_move _ rfl (by rfl) ?_
            simp only [Act.put, List.setIfInBounds_toArray, List.set_cons_zero, List.set_cons_succ]
            refine m_value ?_ (by rfl) (fun w hw => ?_) ?_
            rotate_left
            · go_simp
              with_reducible rfl
            simp only [Act.put, List.setIfInBounds_toArray, List.set_cons_zero, List.set_cons_succ]
            refine m_value ?_ (by rfl) (fun w hw => ?_) ?_
            rotate_left
            · have hc := hw.cell (k + 1) (by omega)
              go_simp
              with_reducible rfl
            simp only [Act.put, List.setIfInBounds_toArray, List.set_cons_zero, List.set_cons_succ]
            refine m_move _ rfl (by rfl) ?_
            simp only [Act.put, List.setIfInBounds_toArray, List.set_cons_zero, List.set_cons_succ]
            refine m_move _ rfl (by rfl) ?_
            simp only [Act.put, List.setIfInBounds_toArray, List.set_cons_zero, List.set_cons_succ]
            refine m_value ?_ (by rfl) (fun w hw => ?_) ?_
            rotate_left
            · go_simp
              with_reducible rfl
            simp only [Act.put, List.setIfInBounds_toArray, List.set_cons_zero, List.set_cons_succ]
            refine m_value ?_ (by rfl) (fun w hw => ?_) ?_
            rotate_left
            · go_simp
              with_reducible rfl
            simp only [Act.put, List.setIfInBounds_toArray, List.set_cons_zero, List.set_cons_succ]
            refine m_value ?_ (by rfl) (fun w hw => ?_) ?_
            rotate_left
            · have hc := hw.cell k (by omega)
              go_simp
              with_reducible rfl
            simp only [Act.put, List.setIfInBounds_toArray, List.set_cons_zero, List.set_cons_succ]
            refine m_call (by rfl) 169 #[.int .i64 (F (k + 1)), .int .i64 (F k)] (by go_simp) ((less_any _ _ _).mono fun e w' ⟨he, hw'⟩ => ⟨_, he, by rw [hw']; exact HI.out, ?_⟩)
            subst hw'
            simp only [Act.put, List.setIfInBounds_toArray, List.set_cons_zero, List.set_cons_succ]
            refine m_value ?_ (by rfl) (fun w hw => ?_) ?_
            rotate_left
            · go_simp
              with_reducible rfl
            simp only [Act.put, List.setIfInBounds_toArray, List.set_cons_zero, List.set_cons_succ]
            refine m_done ?_
            try simp only [Exit.then]
            go_wp2_with fail
            refine wp_region_late [15, 17] [(2, 0), (2, 1), (2, 2), (2, 3), (2, 4), (2, 5), (2, 6), (2, 7), (2, 8), (0, 9), (2, 10), (2, 11), (2, 12), (0, 13), (2, 14), (1, 15), (2, 16), (1, 17)] (fun wx => Ints wx b n F) (by kernel_rfl) (by kernel_rfl) (HI.out.keep rfl) ?_
            have HIW : Hid (Ints wr.drew.drew b n F) := HI.out.keep rfl
            have HOW : Hid (One b w wr.drew.drew) := ⟨HO.out.os, HO.out.tape, HO.out.output, HO.out.size, HO.out.block⟩
            generalize wr.drew.drew = WW at *
            clear HI HO
            refine f_move (some 33) _ rfl rfl rfl (by rfl) ?_
            simp only [Act.put, List.setIfInBounds_toArray, List.set_cons_zero, List.set_cons_succ]
            refine f_move (some 34) _ rfl rfl rfl (by rfl) ?_
            simp only [Act.put, List.setIfInBounds_toArray, List.set_cons_zero, List.set_cons_succ]
            refine f_move (some 35) _ rfl rfl rfl (by rfl) ?_
            simp only [Act.put, List.setIfInBounds_toArray, List.set_cons_zero, List.set_cons_succ]
            refine f_move (some 36) _ rfl rfl rfl (by rfl) ?_
            simp only [Act.put, List.setIfInBounds_toArray, List.set_cons_zero, List.set_cons_succ]
            refine f_value (some 37) ?_ rfl rfl (by rfl) (fun w _ => ?_) ?_
            rotate_left
            · go_simp
              with_reducible rfl
            simp only [Act.put, List.setIfInBounds_toArray, List.set_cons_zero, List.set_cons_succ]
            refine f_move (some 38) _ rfl rfl rfl (by rfl) ?_
            simp only [Act.put, List.setIfInBounds_toArray, List.set_cons_zero, List.set_cons_succ]
            refine f_move (some 39) _ rfl rfl rfl (by rfl) ?_
            simp only [Act.put, List.setIfInBounds_toArray, List.set_cons_zero, List.set_cons_succ]
            refine f_value (some 40) ?_ rfl rfl (by rfl) (fun w _ => ?_) ?_
            rotate_left
            · go_simp
              with_reducible rfl
            simp only [Act.put, List.setIfInBounds_toArray, List.set_cons_zero, List.set_cons_succ]
            refine f_value (some 41) ?_ rfl rfl (by rfl) (fun w _ => ?_) ?_
            rotate_left
            · go_simp
              with_reducible rfl
            simp only [Act.put, List.setIfInBounds_toArray, List.set_cons_zero, List.set_cons_succ]
            refine l_value (some 42) ?_ rfl rfl (by rfl) (fun w hw => ?_) ?_
            rotate_left
            · have hc := hw.cell k (by omega)
              go_simp
              with_reducible rfl
            simp only [Act.put, List.setIfInBounds_toArray, List.set_cons_zero, List.set_cons_succ]
            refine f_move (some 43) _ rfl rfl rfl (by rfl) ?_
            simp only [Act.put, List.setIfInBounds_toArray, List.set_cons_zero, List.set_cons_succ]
            refine f_move (some 44) _ rfl rfl rfl (by rfl) ?_
            simp only [Act.put, List.setIfInBounds_toArray, List.set_cons_zero, List.set_cons_succ]
            refine f_value (some 45) ?_ rfl rfl (by rfl) (fun w _ => ?_) ?_
            rotate_left
            · go_simp
              with_reducible rfl
            simp only [Act.put, List.setIfInBounds_toArray, List.set_cons_zero, List.set_cons_succ]
            refine l_value (some 46) ?_ rfl rfl (by rfl) (fun w hw => ?_) ?_
            rotate_left
            · have hc := hw.cell (k + 1) (by omega)
              go_simp
              with_reducible rfl
            simp only [Act.put, List.setIfInBounds_toArray, List.set_cons_zero, List.set_cons_succ]
            refine f_value (some 47) ?_ rfl rfl (by rfl) (fun w _ => ?_) ?_
            rotate_left
            · go_simp
              with_reducible rfl
            simp only [Act.put, List.setIfInBounds_toArray, List.set_cons_zero, List.set_cons_succ]
            have hcA := HIW.out.cell (k + 1) (by omega)
            have hfA := HIW.out.frozen (k + 1)
            refine l_store (WW.setCell ⟨b, k + 1, none⟩ (.int .i64 (F k))) rfl rfl (by rfl) (by go_simp) (fun h => by simp [later] at h) ?_
            refine f_value (some 48) ?_ rfl rfl (by rfl) (fun w _ => ?_) ?_
            rotate_left
            · go_simp
              with_reducible rfl
            simp only [Act.put, List.setIfInBounds_toArray, List.set_cons_zero, List.set_cons_succ]
            have hcB := (HIW.out.set (k + 1) (F k)).cell k (by omega)
            have hfB := (HIW.out.set (k + 1) (F k)).frozen k
            refine l_store ((WW.setCell ⟨b, k + 1, none⟩ (.int .i64 (F k))).setCell ⟨b, k, none⟩ (.int .i64 (F (k + 1)))) rfl rfl (by rfl) (by go_simp) (fun h => by simp [later] at h) ?_
            refine l_done ?_
            try simp only [Exit.then]
            go_wp2
            have hI2 : Hid (Ints ((WW.setCell ⟨b, k + 1, none⟩ (.int .i64 (F k))).setCell ⟨b, k, none⟩ (.int .i64 (F (k + 1)))) b n (swapF F k)) := ((HIW.out.set (k + 1) (F k)).set k (F (k + 1)))
            have hO2 : Hid (One b w ((WW.setCell ⟨b, k + 1, none⟩ (.int .i64 (F k))).setCell ⟨b, k, none⟩ (.int .i64 (F (k + 1))))) := ⟨HOW.out.os, HOW.out.tape, HOW.out.output, by simpa [World.setCell] using HOW.out.size, fun q hq => (Below.heap_setCell _ _ _ _ hq).trans ((Below.heap_setCell _ _ _ _ hq).trans (HOW.out.block q hq))⟩
            go_roundw
            case rel => exact ⟨k, swapF F k, by omega, by go_num, hI2, hAl.out.swap k (by omega), hNe.out.swap (by omega) hl, hO2⟩
            case measure => simp [intOf]
          · go_wp2_with fail
            refine wp_region_mix [false, false, false, false, false, false, false, false, false, false, false, false, false, true, false] (fun wx => Ints wx b n F) (by kernel_rfl) (by kernel_rfl) HI.out ?_
            refine m_move _ rfl (by rfl) ?_
            simp only [Act.put, List.setIfInBounds_toArray, List.set_cons_zero, List.set_cons_succ]
            refine m_move _ rfl (by rfl) ?_
            simp only [Act.put, List.setIfInBounds_toArray, List.set_cons_zero, List.set_cons_succ]
            refine m_value ?_ (by rfl) (fun w hw => ?_) ?_
            rotate_left
            · go_simp
              with_reducible rfl
            simp only [Act.put, List.setIfInBounds_toArray, List.set_cons_zero, List.set_cons_succ]
            refine m_move _ rfl (by rfl) ?_
            simp only [Act.put, List.setIfInBounds_toArray, List.set_cons_zero, List.set_cons_succ]
            refine m_move _ rfl (by rfl) ?_
            simp only [Act.put, List.setIfInBounds_toArray, List.set_cons_zero, List.set_cons_succ]
            refine m_move _ rfl (by rfl) ?_
            simp only [Act.put, List.setIfInBounds_toArray, List.set_cons_zero, List.set_cons_succ]
            refine m_value ?_ (by rfl) (fun w hw => ?_) ?_
            rotate_left
            · go_simp
              with_reducible rfl
            simp only [Act.put, List.setIfInBounds_toArray, List.set_cons_zero, List.set_cons_succ]
            refine m_value ?_ (by rfl) (fun w hw => ?_) ?_
            rotate_left
            · have hc := hw.cell (k + 1) (by omega)
              go_simp
              with_reducible rfl
            simp only [Act.put, List.setIfInBounds_toArray, List.set_cons_zero, List.set_cons_succ]
            refine m_move _ rfl (by rfl) ?_
            simp only [Act.put, List.setIfInBounds_toArray, List.set_cons_zero, List.set_cons_succ]
            refine m_move _ rfl (by rfl) ?_
            simp only [Act.put, List.setIfInBounds_toArray, List.set_cons_zero, List.set_cons_succ]
            refine m_value ?_ (by rfl) (fun w hw => ?_) ?_
            rotate_left
            · go_simp
              with_reducible rfl
            simp only [Act.put, List.setIfInBounds_toArray, List.set_cons_zero, List.set_cons_succ]
            refine m_value ?_ (by rfl) (fun w hw => ?_) ?_
            rotate_left
            · go_simp
              with_reducible rfl
            simp only [Act.put, List.setIfInBounds_toArray, List.set_cons_zero, List.set_cons_succ]
            refine m_value ?_ (by rfl) (fun w hw => ?_) ?_
            rotate_left
            · have hc := hw.cell k (by omega)
              go_simp
              with_reducible rfl
            simp only [Act.put, List.setIfInBounds_toArray, List.set_cons_zero, List.set_cons_succ]
            refine m_call (by rfl) 169 #[.int .i64 (F (k + 1)), .int .i64 (F k)] (by go_simp) ((less_any _ _ _).mono fun e w' ⟨he, hw'⟩ => ⟨_, he, by rw [hw']; exact HI.out, ?_⟩)
            subst hw'
            simp only [Act.put, List.setIfInBounds_toArray, List.set_cons_zero, List.set_cons_succ]
            refine m_value ?_ (by rfl) (fun w hw => ?_) ?_
            rotate_left
            · go_simp
              with_reducible rfl
            simp only [Act.put, List.setIfInBounds_toArray, List.set_cons_zero, List.set_cons_succ]
            refine m_done ?_
            try simp only [Exit.then]
            go_wp2
            have hS : Hid (∀ p q, p < q → q < i + 1 → q < n → F p ≤ F q) := fun p q h1 h2 h3 => hNe.out.done (by omega) (by omega) p q h1 (by omega)
            go_roundw
            case rel => exact ⟨i + 1, F, by omega, by go_num, by omega, HI, hAl, hS, HO⟩
            case measure => simp [intOf]; omega
    · go_wp2
      go_end0
      exact ⟨⟨_, rfl⟩, F, hIF.out, hAl.out, (fun p q h1 h2 => hSo.out p q h1 (by omega) h2), hOn.out⟩
end Go.Proofs.YtdbnnljlbfjobaaGreatDoor
