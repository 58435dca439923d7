/- The walk of slices.Sort on few ints: an insertion sort. The walks of slices.Sort and of what it calls, on at most twelve ints. A disk in memory, and the calls that only read it. -/
import Derived.Test.YtlbapnecmhlgmaaM2
import Derived.Test.YtlbapnecmhlgmaaM1
import Derived.Laws.MakeOwn
namespace Go.Proofs.Ytlbapnecmhlgmaa
open Go.RowKit

/-- n ints that lie in block b from its beginning. -/
structure Ints (w : World) (b n : Nat) (F : Nat → Int) : Prop where
  ex : ∃ cur, Row w b cur 3 ∧ n ≤ cur.size ∧ ∀ i, i < n → cur[i]? = some (.int .i64 (F i))
theorem Ints.cell {w : World} {b n : Nat} {F : Nat → Int} (h : Ints w b n F) (i : Nat) (hi : i < n) : w.cell? ⟨b, i, none⟩ = some (.int .i64 (F i)) := by
  obtain ⟨cur, h1, _, h3⟩ := h.ex
  exact (h1.cell i).trans (h3 i hi)
theorem Ints.frozen {w : World} {b n : Nat} {F : Nat → Int} (h : Ints w b n F) (i : Nat) : w.frozen? ⟨b, i, none⟩ = false := by
  obtain ⟨cur, h1, _, h3⟩ := h.ex
  exact h1.frozen i
def updF (F : Nat → Int) (k : Nat) (v : Int) (i : Nat) : Int := if i = k then v else F i
theorem Ints.set {w : World} {b n : Nat} {F : Nat → Int} (h : Ints w b n F) (k : Nat) (v : Int) : Ints (w.setCell ⟨b, k, none⟩ (.int .i64 v)) b n (updF F k v) := by
  obtain ⟨cur, h1, h2, h3⟩ := h.ex
  refine ⟨_, h1.setCell (i := k) _, by rw [Array.size_setIfInBounds]; exact h2, fun i hi => ?_⟩
  unfold updF
  by_cases e : i = k
  · subst e
    rw [if_pos rfl, Array.getElem?_setIfInBounds_self_of_lt (by omega)]
  · rw [if_neg e, Array.getElem?_setIfInBounds_ne (Ne.symm e)]
    exact h3 i hi
theorem Ints.keep {w w' : World} {b n : Nat} {F : Nat → Int} (h : Ints w b n F) (hb : w'.heap[b]? = w.heap[b]?) : Ints w' b n F := by
  obtain ⟨cur, h1, h2⟩ := h.ex
  exact ⟨cur, hb.trans h1, h2⟩

/-- The same values; unlike ones stay unlike. -/
structure Alike (n : Nat) (F F0 : Nat → Int) : Prop where
  mem : ∀ v, (∃ i, i < n ∧ F i = v) ↔ (∃ i, i < n ∧ F0 i = v)
  inj : (∀ i j, i < n → j < n → F0 i = F0 j → i = j) → ∀ i j, i < n → j < n → F i = F j → i = j
theorem Alike.refl (n : Nat) (F : Nat → Int) : Alike n F F := ⟨fun _ => Iff.rfl, id⟩
def swapF (F : Nat → Int) (k : Nat) : Nat → Int := updF (updF F (k + 1) (F k)) k (F (k + 1))
theorem swapF_at (F : Nat → Int) (k i : Nat) : swapF F k i = F (if i = k then k + 1 else if i = k + 1 then k else i) := by
  unfold swapF updF
  by_cases h : i = k
  · simp [h]
  · by_cases h2 : i = k + 1
    · simp [h2]
    · simp [h, h2]
theorem Alike.swap {n : Nat} {F F0 : Nat → Int} (h : Alike n F F0) (k : Nat) (hk : k + 1 < n) : Alike n (swapF F k) F0 := by
  have hlt : ∀ i, i < n → (if i = k then k + 1 else if i = k + 1 then k else i) < n := fun i hi => by
    by_cases h1 : i = k
    · rw [if_pos h1]; omega
    · rw [if_neg h1]
      split <;> omega
  refine ⟨fun v => Iff.trans ?_ (h.mem v), fun hi0 i j hi hj e => ?_⟩
  · constructor
    · rintro ⟨i, hi, e⟩
      rw [swapF_at] at e
      exact ⟨_, hlt i hi, e⟩
    · rintro ⟨i, hi, e⟩
      refine ⟨if i = k then k + 1 else if i = k + 1 then k else i, hlt i hi, ?_⟩
      rw [swapF_at, ← e]
      congr 1
      by_cases h1 : i = k
      · simp [h1]
      · by_cases h2 : i = k + 1
        · simp [h2]
        · simp [h1, h2]
  · rw [swapF_at, swapF_at] at e
    have := h.inj hi0 _ _ (hlt i hi) (hlt j hj) e
    by_cases h1 : i = k <;> by_cases h2 : i = k + 1 <;> by_cases h3 : j = k <;> by_cases h4 : j = k + 1 <;> simp [h1, h2, h3, h4] at this <;> omega

/-- All of the first m but the one at j stand in order. -/
def Near (F : Nat → Int) (m j : Nat) : Prop := ∀ p q, p < q → q ≤ m → q ≠ j → F p ≤ F q
theorem Near.swap {F : Nat → Int} {m k : Nat} (h : Near F m (k + 1)) (hk : k + 1 ≤ m) (hlt : F (k + 1) < F k) : Near (swapF F k) m k := fun p q hpq hqm hqk => by
  by_cases h1 : q = k + 1
  · subst h1
    have eq : swapF F k (k + 1) = F k := by rw [swapF_at, if_neg (by omega), if_pos rfl]
    by_cases h2 : p = k
    · subst h2
      have ep : swapF F p p = F (p + 1) := by rw [swapF_at, if_pos rfl]
      rw [ep, eq]
      omega
    · have ep : swapF F k p = F p := by rw [swapF_at, if_neg h2, if_neg (by omega)]
      rw [ep, eq]
      exact h p k (by omega) (by omega) (by omega)
  · have eq : swapF F k q = F q := by rw [swapF_at, if_neg hqk, if_neg h1]
    by_cases h2 : p = k
    · subst h2
      have ep : swapF F p p = F (p + 1) := by rw [swapF_at, if_pos rfl]
      rw [ep, eq]
      exact h (p + 1) q (by omega) hqm h1
    · by_cases h3 : p = k + 1
      · subst h3
        have ep : swapF F k (k + 1) = F k := by rw [swapF_at, if_neg h2, if_pos rfl]
        rw [ep, eq]
        exact h k q (by omega) hqm h1
      · have ep : swapF F k p = F p := by rw [swapF_at, if_neg h2, if_neg h3]
        rw [ep, eq]
        exact h p q hpq hqm h1
theorem Near.done {F : Nat → Int} {m k : Nat} (h : Near F m (k + 1)) (hge : F k ≤ F (k + 1)) (hk : k + 1 ≤ m) : ∀ p q, p < q → q ≤ m → F p ≤ F q := fun p q hpq hqm => by
  by_cases h1 : q = k + 1
  · subst h1
    by_cases h2 : p = k
    · subst h2; exact hge
    · have := h p k (by omega) (by omega) (by omega)
      omega
  · exact h p q hpq hqm h1

theorem less_any (x y : Int) (w : World) : Calls Try.prog 71 #[.int .i64 x, .int .i64 y] w fun e w' => e = .returned (.bool (decide (x < y))) ∧ w' = w := by
  go_enter Try.func71, Try.ntmps71
  go_wp2
  go_ret
  exact ⟨rfl, rfl⟩

set_option maxRecDepth 20000 in
set_option maxHeartbeats 4000000 in
theorem ins_ok (b n c : Nat) (F0 : Nat → Int) (w : World) (hn : n ≤ 12) (hI : Ints w b n F0) :
    Calls Try.prog 65 #[.slice (some ⟨b, 0, none⟩) n c, .int .i64 0, .int .i64 n] w fun e w' => (∃ v, e = .returned v) ∧ ∃ F, Ints w' b n F ∧ Alike n F F0 ∧ (∀ p q, p < q → q < n → F p ≤ F q) ∧ One b w w' := by
  have HI0 : Hid _ := hI
  have H1 : Hid (One b w w) := ⟨rfl, rfl, rfl, rfl, fun _ _ => rfl⟩
  clear hI
  go_enter Try.func65, Try.ntmps65
  go_wp2
  go_loopw [6] (fun iv wx => ∃ (i : Nat) (F : Nat → Int), 1 ≤ i ∧ iv = .int .i64 i ∧ i ≤ n + 1 ∧ Hid (Ints wx b n F) ∧ Hid (Alike n F F0) ∧ Hid (∀ p q, p < q → q < i → q < n → F p ≤ F q) ∧ Hid (One b w wx)) (fun iv _ => n + 1 - (intOf iv).toNat)
  case atStart => exact ⟨1, F0, by omega, by go_num, by omega, HI0, Alike.refl _ _, (fun p q h1 h2 => by omega), H1⟩
  case round =>
    obtain ⟨i, F, hi1, rfl, hin, hIF, hAl, hSo, hOn⟩ := hrel
    clear HI0 H1
    by_cases hlt : i < n
    · have hNear : Hid (Near F i i) := fun p q h1 h2 h3 => hSo.out p q h1 (by omega) (by omega)
      obtain ⟨wO, rfl⟩ : ∃ x, x = wr := ⟨wr, rfl⟩
      clear hSo
      go_wp2
      go_loopw [7] (fun jv wx => ∃ (j : Nat) (F : Nat → Int), j ≤ i ∧ jv = .int .i64 j ∧ Hid (Ints wx b n F) ∧ Hid (Alike n F F0) ∧ Hid (Near F i j) ∧ Hid (One b w wx)) (fun jv _ => (intOf jv).toNat)
      case atStart => exact ⟨i, F, Nat.le_refl _, rfl, hIF, hAl, hNear, hOn⟩
      case round =>
        clear hIF hAl hNear hOn
        obtain ⟨j, F, hji, rfl, hIF, hAl, hNe, hOn⟩ := hrel
        have HI : Hid (Ints wr.drew b n F) := hIF.out.keep rfl
        have HO : Hid (One b w wr.drew) := ⟨hOn.out.os, hOn.out.tape, hOn.out.output, hOn.out.size, hOn.out.block⟩
        cases j with
        | zero =>
          have hS : Hid (∀ p q, p < q → q < i + 1 → q < n → F p ≤ F q) := fun p q h1 h2 h3 => hNe.out p q h1 (by omega) (by omega)
          clear hIF hOn
          go_wp2_with fail
          refine wp_region_mix [false, false, false, false, false, false, false, false, false, false, false, false, false, false, false] (fun wx => Ints wx b n F) (by kernel_rfl) (by kernel_rfl) HI.out ?_
          refine m_move _ rfl (by rfl) ?_
          simp only [Act.put, List.setIfInBounds_toArray, List.set_cons_zero, List.set_cons_succ]
          refine m_move _ rfl (by rfl) ?_
          simp only [Act.put, List.setIfInBounds_toArray, List.set_cons_zero, List.set_cons_succ]
          refine m_value ?_ (by rfl) (fun w hw => ?_) ?_
          rotate_left
          · go_simp
            with_reducible rfl
          simp only [Act.put, List.setIfInBounds_toArray, List.set_cons_zero, List.set_cons_succ]
          refine m_move _ rfl (by rfl) ?_
          simp only [Act.put, List.setIfInBounds_toArray, List.set_cons_zero, List.set_cons_succ]
          refine m_skip (by rfl) ?_
          simp only [Act.put, List.setIfInBounds_toArray, List.set_cons_zero, List.set_cons_succ]
          refine m_skip (by rfl) ?_
          simp only [Act.put, List.setIfInBounds_toArray, List.set_cons_zero, List.set_cons_succ]
          refine m_skip (by rfl) ?_
          simp only [Act.put, List.setIfInBounds_toArray, List.set_cons_zero, List.set_cons_succ]
          refine m_skip (by rfl) ?_
          simp only [Act.put, List.setIfInBounds_toArray, List.set_cons_zero, List.set_cons_succ]
          refine m_skip (by rfl) ?_
          simp only [Act.put, List.setIfInBounds_toArray, List.set_cons_zero, List.set_cons_succ]
          refine m_skip (by rfl) ?_
          simp only [Act.put, List.setIfInBounds_toArray, List.set_cons_zero, List.set_cons_succ]
          refine m_skip (by rfl) ?_
          simp only [Act.put, List.setIfInBounds_toArray, List.set_cons_zero, List.set_cons_succ]
          refine m_skip (by rfl) ?_
          simp only [Act.put, List.setIfInBounds_toArray, List.set_cons_zero, List.set_cons_succ]
          refine m_skip (by rfl) ?_
          simp only [Act.put, List.setIfInBounds_toArray, List.set_cons_zero, List.set_cons_succ]
          refine m_skip (by rfl) ?_
          simp only [Act.put, List.setIfInBounds_toArray, List.set_cons_zero, List.set_cons_succ]
          refine m_value ?_ (by rfl) (fun w hw => ?_) ?_
          rotate_left
          · go_simp
            with_reducible rfl
          simp only [Act.put, List.setIfInBounds_toArray, List.set_cons_zero, List.set_cons_succ]
          refine m_done ?_
          try simp only [Exit.then]
          go_wp2
          go_roundw
          case rel => exact ⟨i + 1, F, by omega, by go_num, by omega, HI, hAl, hS, HO⟩
          case measure => simp [intOf]; omega
        | succ k =>
          have hki : (k : Int) < n := by omega
          have hki1 : (k : Int) + 1 < n := by omega
          have h0k : (0 : Int) ≤ (k : Int) + 1 := by omega
          have h0k' : (0 : Int) ≤ (k : Int) := by omega
          have hkp : (0 : Int) < (k : Int) + 1 := by omega
          have hwk : IntKind.i64.wrap (k : Int) = k := by rw [IntKind.wrap_i64]; omega
          clear hIF hOn
          by_cases hl : F (k + 1) < F k
          · go_wp2_with fail
            refine wp_region_mix [false, false, false, false, false, false, false, false, false, false, false, false, false, true, false] (fun wx => Ints wx b n F) (by kernel_rfl) (by kernel_rfl) HI.out ?_
            refine m_move _ rfl (by rfl) ?_
            simp only [Act.put, List.setIfInBounds_toArray, List.set_cons_zero, List.set_cons_succ]
            refine m_move _ rfl (by rfl) ?_
            simp only [Act.put, List.setIfInBounds_toArray, List.set_cons_zero, List.set_cons_succ]
            refine m_value ?_ (by rfl) (fun w hw => ?_) ?_
            rotate_left
            · go_simp
              with_reducible rfl
            simp only [Act.put, List.setIfInBounds_toArray, List.set_cons_zero, List.set_cons_succ]
            refine m_move _ rfl (by rfl) ?_
            simp only [Act.put, List.setIfInBounds_toArray, List.set_cons_zero, List.set_cons_succ]
            refine m_move _ rfl (by rfl) ?_
            simp only [Act.put, List.setIfInBounds_toArray, List.set_cons_zero, List.set_cons_succ]
            refine m_move _ rfl (by rfl) ?_
            simp only [Act.put, List.setIfInBounds_toArray, List.set_cons_zero, List.set_cons_succ]
            refine m_value ?_ (by rfl) (fun w hw => ?_) ?_
            rotate_left
            · go_simp
              with_reducible rfl
            simp only [Act.put, List.setIfInBounds_toArray, List.set_cons_zero, List.set_cons_succ]
            refine m_value ?_ (by rfl) (fun w hw => ?_) ?_
            rotate_left
            · have hc := hw.cell (k + 1) (by omega)
              go_simp
              with_reducible rfl
            simp only [Act.put, List.setIfInBounds_toArray, List.set_cons_zero, List.set_cons_succ]
            refine m_move _ rfl (by rfl) ?_
            simp only [Act.put, List.setIfInBounds_toArray, List.set_cons_zero, List.set_cons_succ]
            refine m_move _ rfl (by rfl) ?_
            simp only [Act.put, List.setIfInBounds_toArray, List.set_cons_zero, List.set_cons_succ]
            refine m_value ?_ (by rfl) (fun w hw => ?_) ?_
            rotate_left
            · go_simp
              with_reducible rfl
            simp only [Act.put, List.setIfInBounds_toArray, List.set_cons_zero, List.set_cons_succ]
            refine m_value ?_ (by rfl) (fun w hw => ?_) ?_
            rotate_left
            · go_simp
              with_reducible rfl
            simp only [Act.put, List.setIfInBounds_toArray, List.set_cons_zero, List.set_cons_succ]
            refine m_value ?_ (by rfl) (fun w hw => ?_) ?_
            rotate_left
            · have hc := hw.cell k (by omega)
              go_simp
              with_reducible rfl
            simp only [Act.put, List.setIfInBounds_toArray, List.set_cons_zero, List.set_cons_succ]
            refine m_call (by rfl) 71 #[.int .i64 (F (k + 1)), .int .i64 (F k)] (by go_simp) ((less_any _ _ _).mono fun e w' ⟨he, hw'⟩ => ⟨_, he, by rw [hw']; exact HI.out, ?_⟩)
            subst hw'
            simp only [Act.put, List.setIfInBounds_toArray, List.set_cons_zero, List.set_cons_succ]
            refine m_value ?_ (by rfl) (fun w hw => ?_) ?_
            rotate_left
            · go_simp
              with_reducible rfl
            simp only [Act.put, List.setIfInBounds_toArray, List.set_cons_zero, List.set_cons_succ]
            refine m_done ?_
            try simp only [Exit.then]
            go_wp2_with fail
            refine wp_region_late [15, 17] [(2, 0), (2, 1), (2, 2), (2, 3), (2, 4), (2, 5), (2, 6), (2, 7), (2, 8), (0, 9), (2, 10), (2, 11), (2, 12), (0, 13), (2, 14), (1, 15), (2, 16), (1, 17)] (fun wx => Ints wx b n F) (by kernel_rfl) (by kernel_rfl) (HI.out.keep rfl) ?_
            have HIW : Hid (Ints wr.drew.drew b n F) := HI.out.keep rfl
            have HOW : Hid (One b w wr.drew.drew) := ⟨HO.out.os, HO.out.tape, HO.out.output, HO.out.size, HO.out.block⟩
            generalize wr.drew.drew = WW at *
            clear HI HO
            refine f_move (some 33) _ rfl rfl rfl (by rfl) ?_
            simp only [Act.put, List.setIfInBounds_toArray, List.set_cons_zero, List.set_cons_succ]
            refine f_move (some 34) _ rfl rfl rfl (by rfl) ?_
            simp only [Act.put, List.setIfInBounds_toArray, List.set_cons_zero, List.set_cons_succ]
            refine f_move (some 35) _ rfl rfl rfl (by rfl) ?_
            simp only [Act.put, List.setIfInBounds_toArray, List.set_cons_zero, List.set_cons_succ]
            refine f_move (some 36) _ rfl rfl rfl (by rfl) ?_
            simp only [Act.put, List.setIfInBounds_toArray, List.set_cons_zero, List.set_cons_succ]
            refine f_value (some 37) ?_ rfl rfl (by rfl) (fun w _ => ?_) ?_
            rotate_left
            · go_simp
              with_reducible rfl
            simp only [Act.put, List.setIfInBounds_toArray, List.set_cons_zero, List.set_cons_succ]
            refine f_move (some 38) _ rfl rfl rfl (by rfl) ?_
            simp only [Act.put, List.setIfInBounds_toArray, List.set_cons_zero, List.set_cons_succ]
            refine f_move (some 39) _ rfl rfl rfl (by rfl) ?_
            simp only [Act.put, List.setIfInBounds_toArray, List.set_cons_zero, List.set_cons_succ]
            refine f_value (some 40) ?_ rfl rfl (by rfl) (fun w _ => ?_) ?_
            rotate_left
            · go_simp
              with_reducible rfl
            simp only [Act.put, List.setIfInBounds_toArray, List.set_cons_zero, List.set_cons_succ]
            refine f_value (some 41) ?_ rfl rfl (by rfl) (fun w _ => ?_) ?_
            rotate_left
            · go_simp
              with_reducible rfl
            simp only [Act.put, List.setIfInBounds_toArray, List.set_cons_zero, List.set_cons_succ]
            refine l_value (some 42) ?_ rfl rfl (by rfl) (fun w hw => ?_) ?_
            rotate_left
            · have hc := hw.cell k (by omega)
              go_simp
              with_reducible rfl
            simp only [Act.put, List.setIfInBounds_toArray, List.set_cons_zero, List.set_cons_succ]
            refine f_move (some 43) _ rfl rfl rfl (by rfl) ?_
            simp only [Act.put, List.setIfInBounds_toArray, List.set_cons_zero, List.set_cons_succ]
            refine f_move (some 44) _ rfl rfl rfl (by rfl) ?_
            simp only [Act.put, List.setIfInBounds_toArray, List.set_cons_zero, List.set_cons_succ]
            refine f_value (some 45) ?_ rfl rfl (by rfl) (fun w _ => ?_) ?_
            rotate_left
            · go_simp
              with_reducible rfl
            simp only [Act.put, List.setIfInBounds_toArray, List.set_cons_zero, List.set_cons_succ]
            refine l_value (some 46) ?_ rfl rfl (by rfl) (fun w hw => ?_) ?_
            rotate_left
            · have hc := hw.cell (k + 1) (by omega)
              go_simp
              with_reducible rfl
            simp only [Act.put, List.setIfInBounds_toArray, List.set_cons_zero, List.set_cons_succ]
            refine f_value (some 47) ?_ rfl rfl (by rfl) (fun w _ => ?_) ?_
            rotate_left
            · go_simp
              with_reducible rfl
            simp only [Act.put, List.setIfInBounds_toArray, List.set_cons_zero, List.set_cons_succ]
            have hcA := HIW.out.cell (k + 1) (by omega)
            have hfA := HIW.out.frozen (k + 1)
            refine l_store (WW.setCell ⟨b, k + 1, none⟩ (.int .i64 (F k))) rfl rfl (by rfl) (by go_simp) (fun h => by simp [later] at h) ?_
            refine f_value (some 48) ?_ rfl rfl (by rfl) (fun w _ => ?_) ?_
            rotate_left
            · go_simp
              with_reducible rfl
            simp only [Act.put, List.setIfInBounds_toArray, List.set_cons_zero, List.set_cons_succ]
            have hcB := (HIW.out.set (k + 1) (F k)).cell k (by omega)
            have hfB := (HIW.out.set (k + 1) (F k)).frozen k
            refine l_store ((WW.setCell ⟨b, k + 1, none⟩ (.int .i64 (F k))).setCell ⟨b, k, none⟩ (.int .i64 (F (k + 1)))) rfl rfl (by rfl) (by go_simp) (fun h => by simp [later] at h) ?_
            refine l_done ?_
            try simp only [Exit.then]
            go_wp2
            have hI2 : Hid (Ints ((WW.setCell ⟨b, k + 1, none⟩ (.int .i64 (F k))).setCell ⟨b, k, none⟩ (.int .i64 (F (k + 1)))) b n (swapF F k)) := ((HIW.out.set (k + 1) (F k)).set k (F (k + 1)))
            have hO2 : Hid (One b w ((WW.setCell ⟨b, k + 1, none⟩ (.int .i64 (F k))).setCell ⟨b, k, none⟩ (.int .i64 (F (k + 1))))) := ⟨HOW.out.os, HOW.out.tape, HOW.out.output, by simpa [World.setCell] using HOW.out.size, fun q hq => (Below.heap_setCell _ _ _ _ hq).trans ((Below.heap_setCell _ _ _ _ hq).trans (HOW.out.block q hq))⟩
            go_roundw
            case rel => exact ⟨k, swapF F k, by omega, by go_num, hI2, hAl.out.swap k (by omega), hNe.out.swap (by omega) hl, hO2⟩
            case measure => simp [intOf]
          · go_wp2_with fail
            refine wp_region_mix [false, false, false, false, false, false, false, false, false, false, false, false, false, true, false] (fun wx => Ints wx b n F) (by kernel_rfl) (by kernel_rfl) HI.out ?_
            refine m_move _ rfl (by rfl) ?_
            simp only [Act.put, List.setIfInBounds_toArray, List.set_cons_zero, List.set_cons_succ]
            refine m_move _ rfl (by rfl) ?_
            simp only [Act.put, List.setIfInBounds_toArray, List.set_cons_zero, List.set_cons_succ]
            refine m_value ?_ (by rfl) (fun w hw => ?_) ?_
            rotate_left
            · go_simp
              with_reducible rfl
            simp only [Act.put, List.setIfInBounds_toArray, List.set_cons_zero, List.set_cons_succ]
            refine m_move _ rfl (by rfl) ?_
            simp only [Act.put, List.setIfInBounds_toArray, List.set_cons_zero, List.set_cons_succ]
            refine m_move _ rfl (by rfl) ?_
            simp only [Act.put, List.setIfInBounds_toArray, List.set_cons_zero, List.set_cons_succ]
            refine m_move _ rfl (by rfl) ?_
            simp only [Act.put, List.setIfInBounds_toArray, List.set_cons_zero, List.set_cons_succ]
            refine m_value ?_ (by rfl) (fun w hw => ?_) ?_
            rotate_left
            · go_simp
              with_reducible rfl
            simp only [Act.put, List.setIfInBounds_toArray, List.set_cons_zero, List.set_cons_succ]
            refine m_value ?_ (by rfl) (fun w hw => ?_) ?_
            rotate_left
            · have hc := hw.cell (k + 1) (by omega)
              go_simp
              with_reducible rfl
            simp only [Act.put, List.setIfInBounds_toArray, List.set_cons_zero, List.set_cons_succ]
            refine m_move _ rfl (by rfl) ?_
            simp only [Act.put, List.setIfInBounds_toArray, List.set_cons_zero, List.set_cons_succ]
            refine m_move _ rfl (by rfl) ?_
            simp only [Act.put, List.setIfInBounds_toArray, List.set_cons_zero, List.set_cons_succ]
            refine m_value ?_ (by rfl) (fun w hw => ?_) ?_
            rotate_left
            · go_simp
              with_reducible rfl
            simp only [Act.put, List.setIfInBounds_toArray, List.set_cons_zero, List.set_cons_succ]
            refine m_value ?_ (by rfl) (fun w hw => ?_) ?_
            rotate_left
            · go_simp
              with_reducible rfl
            simp only [Act.put, List.setIfInBounds_toArray, List.set_cons_zero, List.set_cons_succ]
            refine m_value ?_ (by rfl) (fun w hw => ?_) ?_
            rotate_left
            · have hc := hw.cell k (by omega)
              go_simp
              with_reducible rfl
            simp only [Act.put, List.setIfInBounds_toArray, List.set_cons_zero, List.set_cons_succ]
            refine m_call (by rfl) 71 #[.int .i64 (F (k + 1)), .int .i64 (F k)] (by go_simp) ((less_any _ _ _).mono fun e w' ⟨he, hw'⟩ => ⟨_, he, by rw [hw']; exact HI.out, ?_⟩)
            subst hw'
            simp only [Act.put, List.setIfInBounds_toArray, List.set_cons_zero, List.set_cons_succ]
            refine m_value ?_ (by rfl) (fun w hw => ?_) ?_
            rotate_left
            · go_simp
              with_reducible rfl
            simp only [Act.put, List.setIfInBounds_toArray, List.set_cons_zero, List.set_cons_succ]
            refine m_done ?_
            try simp only [Exit.then]
            go_wp2
            have hS : Hid (∀ p q, p < q → q < i + 1 → q < n → F p ≤ F q) := fun p q h1 h2 h3 => hNe.out.done (by omega) (by omega) p q h1 (by omega)
            go_roundw
            case rel => exact ⟨i + 1, F, by omega, by go_num, by omega, HI, hAl, hS, HO⟩
            case measure => simp [intOf]; omega
    · go_wp2
      go_end0
      exact ⟨⟨_, rfl⟩, F, hIF.out, hAl.out, (fun p q h1 h2 => hSo.out p q h1 (by omega) h2), hOn.out⟩
end Go.Proofs.Ytlbapnecmhlgmaa
namespace Go.Proofs.Ytlbapnecmhlgmaa
open Go.RowKit

set_option maxRecDepth 20000 in
set_option maxHeartbeats 4000000 in
theorem pdq_ok (b n c : Nat) (F0 : Nat → Int) (lim : Int) (w : World) (hn : n ≤ 12) (hI : Ints w b n F0) :
    Calls Try.prog 60 #[.slice (some ⟨b, 0, none⟩) n c, .int .i64 0, .int .i64 n, .int .i64 lim] w fun e w' => (∃ v, e = .returned v) ∧ ∃ F, Ints w' b n F ∧ Alike n F F0 ∧ (∀ p q, p < q → q < n → F p ≤ F q) ∧ One b w w' := by
  have H := ins_ok b n c F0 w hn hI
  have HH : Hid _ := H
  clear H hI
  go_enter Try.func60, Try.ntmps60
  go_wp2
  go_loopw [1, 2] (fun av bv wx => av = .int .i64 0 ∧ bv = .int .i64 n ∧ wx = w) (fun _ _ _ => 0)
  case atStart => exact ⟨rfl, rfl, rfl⟩
  case round =>
    obtain ⟨rfl, rfl, rfl⟩ := hrel
    have hn12 : (n : Int) ≤ 12 := by omega
    go_wp2_with fail
    refine Calls.mono HH.out ?_
    rintro e w' ⟨⟨v, rfl⟩, F, h1, h2, h3, h4⟩
    go_wp2
    (try simp only [Exit.inBlock, Exit.then])
    refine bodyPost_ret (results_none rfl _ _ _) rfl ?_
    exact ⟨⟨_, rfl⟩, F, h1, h2, h3, h4⟩
set_option maxHeartbeats 4000000 in
set_option maxRecDepth 100000 in
theorem len64_some (n : Nat) (w : World) (hn : n ≤ 12) : Calls Try.prog 75 #[.int .u64 n] w fun e w' => (∃ k, e = .returned (.int .i64 k)) ∧ w' = w := by
  have h1 : ¬ (4294967296 : Int) ≤ n := by omega
  have h2 : ¬ (65536 : Int) ≤ n := by omega
  have h3 : ¬ (256 : Int) ≤ n := by omega
  go_enter Try.func75, Try.ntmps75
  go_wp2
  all_goals (go_ret; exact ⟨⟨_, rfl⟩, rfl⟩)
theorem len_some (n : Nat) (w : World) (hn : n ≤ 12) : Calls Try.prog 61 #[.int .u64 n] w fun e w' => (∃ k, e = .returned (.int .i64 k)) ∧ w' = w := by
  have H := len64_some n w hn
  go_enter Try.func61, Try.ntmps61
  go_wp2_with fail
  refine H.mono ?_
  rintro e w' ⟨⟨k, rfl⟩, rfl⟩
  go_wp2
  go_ret
  exact ⟨⟨_, rfl⟩, rfl⟩
set_option maxRecDepth 20000 in
theorem sort_ok (b n c : Nat) (F0 : Nat → Int) (w : World) (hn : n ≤ 12) (hI : Ints w b n F0) :
    Calls Try.prog 51 #[.slice (some ⟨b, 0, none⟩) n c] w fun e w' => (∃ v, e = .returned v) ∧ ∃ F, Ints w' b n F ∧ Alike n F F0 ∧ (∀ p q, p < q → q < n → F p ≤ F q) ∧ One b w w' := by
  have H := fun k => pdq_ok b n c F0 k w hn hI
  have HH : Hid _ := H
  have HL := len_some n w hn
  clear H hI
  go_enter Try.func51, Try.ntmps51
  go_wp2_with fail
  refine HL.mono ?_
  rintro e w' ⟨⟨k, rfl⟩, hw'⟩
  subst w'
  go_wp2_with fail
  refine Calls.mono (HH.out k) ?_
  rintro e w' ⟨⟨v, rfl⟩, h⟩
  go_wp2
  go_end0
  exact ⟨⟨_, rfl⟩, h⟩
end Go.Proofs.Ytlbapnecmhlgmaa
namespace Go.Proofs.Ytlbapnecmhlgmaa
open Go.RowKit

/-- Something that happened: a sector got these bytes, or (-1) there was a flush. -/
structure Ev where
  n : Int
  f : Nat → Int
def Ev.cells (e : Ev) : List Value := .int .i64 e.n :: byts e.f 256
theorem Ev.cells_len (e : Ev) : e.cells.length = 257 := by simp [Ev.cells, byts_len]
theorem Ev.cells_one (e : Ev) : ∀ u ∈ e.cells, u.oneCell' = true := by
  intro u hu
  rcases List.mem_cons.1 hu with rfl | h
  · rfl
  · exact byts_one _ _ u h
def evCells (E : List Ev) : List Value := E.flatMap Ev.cells
theorem evCells_len (E : List Ev) : (evCells E).length = E.length * 257 := by
  induction E with
  | nil => rfl
  | cons e E ih => simp [evCells, Ev.cells_len] at ih ⊢; omega
theorem evCells_snoc (E : List Ev) (e : Ev) : evCells (E ++ [e]) = evCells E ++ e.cells := by simp [evCells]
theorem evCells_at (E : List Ev) (i : Nat) (e : Ev) (h : E[i]? = some e) (j : Nat) (hj : j < 257) : (evCells E)[i * 257 + j]? = e.cells[j]? := by
  induction E generalizing i with
  | nil => simp at h
  | cons x E ih =>
    have hc : evCells (x :: E) = x.cells ++ evCells E := rfl
    cases i with
    | zero =>
      simp at h
      subst h
      rw [hc, List.getElem?_append_left (by rw [Ev.cells_len]; omega)]
      simp
    | succ i =>
      rw [hc, List.getElem?_append_right (by rw [Ev.cells_len]; omega), Ev.cells_len, show (i + 1) * 257 + j - 257 = i * 257 + j by omega]
      exact ih i (by simpa using h)
def flushEv : Ev := ⟨-1, fun _ => 0⟩

/-- What a disk is: its sectors, its bytes at first, its bytes now, what happened. -/
structure Dk where
  s : Nat
  F : Nat → Int
  B : Nat → Int
  E : List Ev
/-- An event that may be. -/
def Ev.ok (s : Nat) (e : Ev) : Prop := (∀ i, 0 ≤ e.f i ∧ e.f i < 256) ∧ (e = flushEv ∨ (0 ≤ e.n ∧ e.n < s))
structure Dk.ok (D : Dk) : Prop where
  lo : 1 ≤ D.s
  hi : D.s ≤ 2048
  F : ∀ i, 0 ≤ D.F i ∧ D.F i < 256
  B : ∀ i, 0 ≤ D.B i ∧ D.B i < 256
  E : ∀ e ∈ D.E, e.ok D.s

/-- The disk lies in memory: its block g, its bytes at first in g1, its bytes now in g2, its events. -/
structure DiskAt (w : World) (base g g1 c1 g2 c2 : Nat) (ev : Value) (D : Dk) : Prop where
  row : Row w g #[.slice (some ⟨g1, 0, none⟩) (D.s * 256) c1, .slice (some ⟨g2, 0, none⟩) (D.s * 256) c2, ev] 64
  first : w.ownsRow base 5 1 (.slice (some ⟨g1, 0, none⟩) (D.s * 256) c1) (D.s * 256) (byts D.F (D.s * 256))
  now : w.ownsRow base 5 1 (.slice (some ⟨g2, 0, none⟩) (D.s * 256) c2) (D.s * 256) (byts D.B (D.s * 256))
  evs : w.ownsRow base 95 257 ev D.E.length (evCells D.E)
  ge : base ≤ g
  ne : g1 ≠ g2
  ok : D.ok

theorem ownsRow_slice {w : World} {base n s g c m : Nat} {e : TypeId} {xs : List Value} (h : w.ownsRow base e s (.slice (some ⟨g, 0, none⟩) m c) n xs) : base ≤ g ∧ n = m ∧ n ≤ c ∧ c ≤ maxLen ∧ ∃ cur, Row w g cur e ∧ cur.size = c * s ∧ cur.toList.take (n * s) = xs := by
  obtain ⟨_, ⟨h1, _⟩ | ⟨g', c', cur, h1, h2, e3, e4, e5, e6, e7⟩⟩ := h
  · cases h1
  simp only [Value.slice.injEq, Option.some.injEq, Addr.mk.injEq, and_true] at h1
  obtain ⟨rfl, rfl, rfl⟩ := h1
  exact ⟨h2, rfl, e4, e5, cur, e3, e6, e7⟩

section
variable {w : World} {base g g1 c1 g2 c2 : Nat} {ev : Value} {D : Dk}
theorem DiskAt.keep (h : DiskAt w base g g1 c1 g2 c2 ev D) {w' : World} (hb : ∀ k, k = g ∨ k = g1 ∨ k = g2 ∨ ev.ownBlock = some k → w'.heap[k]? = w.heap[k]?) : DiskAt w' base g g1 c1 g2 c2 ev D :=
  ⟨(hb g (.inl rfl)).trans h.row, ownsRow_keep h.first (fun k hk _ => hb k (.inr (.inl (by simpa [Value.ownBlock] using hk.symm)))), ownsRow_keep h.now (fun k hk _ => hb k (.inr (.inr (.inl (by simpa [Value.ownBlock] using hk.symm))))),
    ownsRow_keep h.evs (fun k hk _ => hb k (.inr (.inr (.inr hk)))), h.ge, h.ne, h.ok⟩
theorem DiskAt.lt1 (h : DiskAt w base g g1 c1 g2 c2 ev D) : g1 < w.heap.size := by obtain ⟨_, _, _, _, cur, hr, _⟩ := ownsRow_slice h.first; exact hr.lt
theorem DiskAt.lt2 (h : DiskAt w base g g1 c1 g2 c2 ev D) : g2 < w.heap.size := by obtain ⟨_, _, _, _, cur, hr, _⟩ := ownsRow_slice h.now; exact hr.lt
theorem ownsRow_lt {n s : Nat} {e : TypeId} {v : Value} {xs : List Value} (h : w.ownsRow base e s v n xs) : ∀ k, v.ownBlock = some k → k < w.heap.size ∧ base ≤ k ∧ ∃ cur, Row w k cur e := fun k hk => by
  obtain ⟨_, ⟨rfl, _⟩ | ⟨g', c', cur, rfl, h2, e3, _⟩⟩ := h
  · cases hk
  · simp [Value.ownBlock] at hk
    subst hk
    exact ⟨Row.lt e3, h2, cur, e3⟩
theorem DiskAt.below (h : DiskAt w base g g1 c1 g2 c2 ev D) {w' : World} {B : Nat} (hb : Below B w w') (hB : w.heap.size ≤ B) : DiskAt w' base g g1 c1 g2 c2 ev D := by
  refine h.keep fun k hk => hb.block k ?_
  rcases hk with rfl | rfl | rfl | hk
  · have := h.row.lt; omega
  · have := h.lt1; omega
  · have := h.lt2; omega
  · have := (ownsRow_lt h.evs k hk).1; omega
theorem DiskAt.cell1 (h : DiskAt w base g g1 c1 g2 c2 ev D) : w.cell? ⟨g, 1, none⟩ = some (.slice (some ⟨g2, 0, none⟩) (D.s * 256) c2) := (h.row.cell 1).trans rfl
theorem DiskAt.cell0 (h : DiskAt w base g g1 c1 g2 c2 ev D) : w.cell? ⟨g, 0, none⟩ = some (.slice (some ⟨g1, 0, none⟩) (D.s * 256) c1) := (h.row.cell 0).trans rfl
theorem DiskAt.cell2 (h : DiskAt w base g g1 c1 g2 c2 ev D) : w.cell? ⟨g, 2, none⟩ = some ev := (h.row.cell 2).trans rfl
theorem DiskAt.byte (h : DiskAt w base g g1 c1 g2 c2 ev D) (i : Nat) (hi : i < D.s * 256) : w.cell? ⟨g2, i, none⟩ = some (.int .u8 (D.B i)) := by
  rw [h.now.cellAt i (by omega), byts_at _ _ _ hi]
end

theorem made_yes (g g2 m c : Nat) (w : World) (hc : w.cell? ⟨g, 1, none⟩ = some (.slice (some ⟨g2, 0, none⟩) m c)) (h0 : 0 < m) : Calls Try.prog 46 #[.pointer (some ⟨g, 0, none⟩)] w fun e w' => e = .returned (.bool true) ∧ w' = w := by
  go_enter Try.func46, Try.ntmps46
  go_wp2
  go_ret
  exact ⟨rfl, rfl⟩
theorem sectors_yes (g g2 s c : Nat) (w : World) (hc : w.cell? ⟨g, 1, none⟩ = some (.slice (some ⟨g2, 0, none⟩) (s * 256) c)) (h0 : 1 ≤ s) (h1 : s ≤ 2048) : Calls Try.prog 30 #[.pointer (some ⟨g, 0, none⟩)] w fun e w' => e = .returned (.int .i64 s) ∧ w' = w := by
  have H := made_yes g g2 (s * 256) c w hc (by omega)
  have e : ((s * 256 : Nat) : Int).tdiv 256 = s := by
    rw [Int.natCast_mul]
    exact Int.mul_tdiv_cancel _ (by decide)
  obtain ⟨m, hm⟩ : ∃ m, m = s * 256 := ⟨_, rfl⟩
  rw [← hm] at hc e
  have hm1 : m ≤ 524288 := by omega
  have HM : Hid _ := hm
  clear hm
  go_enter Try.func30, Try.ntmps30
  go_wp2_with fail
  refine H.mono ?_
  rintro e w' ⟨rfl, rfl⟩
  go_wp2
  go_ret
  exact ⟨rfl, rfl⟩
theorem has_any (g g2 s c : Nat) (n : Int) (w : World) (hc : w.cell? ⟨g, 1, none⟩ = some (.slice (some ⟨g2, 0, none⟩) (s * 256) c)) (h0 : 1 ≤ s) (h1 : s ≤ 2048) : Calls Try.prog 47 #[.pointer (some ⟨g, 0, none⟩), .int .i64 n] w fun e w' => e = .returned (.bool (decide (0 ≤ n ∧ n < s))) ∧ w' = w := by
  have H := sectors_yes g g2 s c w hc h0 h1
  by_cases hn : 0 ≤ n
  · have hd : decide (0 ≤ n ∧ n < s) = decide (n < s) := by simp [hn]
    rw [hd]
    clear hd
    go_enter Try.func47, Try.ntmps47
    go_wp2_with fail
    refine H.mono ?_
    rintro e w' ⟨rfl, rfl⟩
    go_wp2
    go_ret
    exact ⟨rfl, rfl⟩
  · have hd : decide (0 ≤ n ∧ n < s) = false := by simp; omega
    rw [hd]
    clear hd H
    go_enter Try.func47, Try.ntmps47
    go_wp2
    go_ret
    exact ⟨rfl, rfl⟩
theorem sectorOf_any (a : Nat) (m n c : Nat) (w : World) (h1 : n * 256 + 256 ≤ m) (h2 : m ≤ c) (h3 : c ≤ maxLen) : Calls Try.prog 48 #[.slice (some ⟨a, 0, none⟩) m c, .int .i64 n] w fun e w' => e = .returned (.slice (some ⟨a, n * 256, none⟩) 256 256) ∧ w' = w := by
  unfold maxLen at h3
  have e : n * 256 + 256 - n * 256 = 256 := by omega
  go_enter Try.func48, Try.ntmps48
  go_wp2
  go_ret
  exact ⟨by simp, rfl⟩
end Go.Proofs.Ytlbapnecmhlgmaa
