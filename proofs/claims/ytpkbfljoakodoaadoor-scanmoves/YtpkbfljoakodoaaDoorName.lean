/- The walks of isName and Name: is a text a name? -/
import Derived.Test.YtpkbfljoakodoaaDoorNd
namespace Go.Proofs.YtpkbfljoakodoaaDoor
open Go.RowKit

/-- A byte that a name may have. -/
def okB (c : Int) : Bool := !decide (c < 33) && !decide (126 < c) && !decide (c = 47)
def bytesOk (s : ByteArray) : Bool := (List.range s.size).all fun i => okB (bf s i)
/-- Is it a name? -/
def nameB (s : ByteArray) : Bool := decide (1 ≤ s.size) && decide (s.size ≤ 60) && !decide (s = ⟨#[46]⟩) && !decide (s = ⟨#[46, 46]⟩) && bytesOk s
theorem bf_at (s : ByteArray) (k : Nat) (h : k < s.size) : bf s k = (s[k].toNat : Int) := by
  unfold bf
  have h' : k < s.data.size := h
  rw [Array.getElem?_eq_getElem h']
  rfl
theorem str_ne {s t : ByteArray} (h : s ≠ t) : (s.toList == t.data.toList) = false := by
  rw [ByteArray.toList_eq]
  apply beq_false_of_ne
  intro e
  apply h
  cases s
  cases t
  congr
  exact Array.ext' e
theorem str_eq {s t : ByteArray} (h : s = t) : (s.toList == t.data.toList) = true := by
  rw [ByteArray.toList_eq, h]
  simp
theorem bytesOk_no (s : ByteArray) (k : Nat) (h : k < s.size) (hb : okB (bf s k) = false) : bytesOk s = false := by
  unfold bytesOk
  rw [List.all_eq_false]
  exact ⟨k, List.mem_range.2 h, by simp [hb]⟩
theorem bytesOk_yes (s : ByteArray) (h : ∀ k, k < s.size → okB (bf s k) = true) : bytesOk s = true := by
  unfold bytesOk
  rw [List.all_eq_true]
  exact fun k hk => h k (List.mem_range.1 hk)

set_option maxRecDepth 20000 in
set_option maxHeartbeats 2000000 in
theorem isName_ok (s : ByteArray) (w : World) : Calls Tryd.prog 98 #[.string s] w fun e w' => e = .returned (.bool (nameB s)) ∧ Below w.heap.size w w' := by
  by_cases h1 : s.size < 1
  · have hn : nameB s = false := by unfold nameB; rw [decide_eq_false (show ¬ 1 ≤ s.size by omega)]; rfl
    rw [hn]
    have h1' : (s.size : Int) < 1 := by omega
    go_enter Tryd.func98, Tryd.ntmps98
    go_wp2
    go_ret
    exact ⟨rfl, Below.refl _ _⟩
  have h1' : ¬ (s.size : Int) < 1 := by omega
  by_cases h2 : 60 < s.size
  · have hn : nameB s = false := by unfold nameB; rw [decide_eq_false (show ¬ s.size ≤ 60 by omega)]; simp
    rw [hn]
    have h2' : (60 : Int) < s.size := by omega
    go_enter Tryd.func98, Tryd.ntmps98
    go_wp2
    go_ret
    exact ⟨rfl, Below.refl _ _⟩
  have h2' : ¬ (60 : Int) < s.size := by omega
  by_cases h3 : s = ⟨#[46]⟩
  · have hn : nameB s = false := by unfold nameB; rw [decide_eq_true h3]; simp
    rw [hn]
    subst h3
    clear hn h1 h2 h1' h2'
    go_enter Tryd.func98, Tryd.ntmps98
    go_wp2
    go_ret
    exact ⟨rfl, Below.refl _ _⟩
  by_cases h4 : s = ⟨#[46, 46]⟩
  · have hn : nameB s = false := by unfold nameB; rw [decide_eq_true h4]; simp
    rw [hn]
    subst h4
    clear hn h1 h2 h1' h2' h3
    go_enter Tryd.func98, Tryd.ntmps98
    go_wp2
    go_ret
    exact ⟨rfl, Below.refl _ _⟩
  have hn : nameB s = bytesOk s := by
    unfold nameB
    rw [decide_eq_false h3, decide_eq_false h4, decide_eq_true (show 1 ≤ s.size by omega), decide_eq_true (show s.size ≤ 60 by omega)]
    rfl
  rw [hn]
  have h3' : (s.toList == [46]) = false := str_ne h3
  have h4' : (s.toList == [46, 46]) = false := str_ne h4
  clear hn
  go_enter Tryd.func98, Tryd.ntmps98
  go_wp2
  go_loopw [22] (fun iv wx => ∃ k : Nat, iv = .int .i64 k ∧ k ≤ s.size ∧ Hid (∀ j, j < k → okB (bf s j) = true) ∧ Hid (Below w.heap.size w wx)) (fun iv _ => s.size - (intOf iv).toNat)
  case atStart => exact ⟨0, rfl, Nat.zero_le _, fun j hj => absurd hj (by omega), Below.refl _ _⟩
  case round =>
    obtain ⟨k, rfl, hk, hok, hB⟩ := hrel
    by_cases hlt : k < s.size
    · have hlt' : (k : Int) < (s.size : Int) := by omega
      have hBd : Hid (Below w.heap.size w wr.drew) := hB.out.drew
      have hbf := bf_at s k hlt
      obtain ⟨c, hc⟩ : ∃ c : Int, c = (s[k].toNat : Int) := ⟨_, rfl⟩
      have hc' := hc.symm
      have HbF : Hid (bf s k = c) := hbf.trans hc'
      clear hbf hc
      by_cases c1 : c < 33
      · have d1 : decide (c < 33) = true := decide_eq_true c1
        have HN : Hid (bytesOk s = false) := bytesOk_no s k hlt (by rw [show bf s k = c from HbF.out]; unfold okB; rw [decide_eq_true c1]; rfl)
        clear hok HbF
        go_wp2_with fail
        refine wp_region_mix [false, false, false, false, false, false, false, false, false, false, false, false, false, false, false, false, false] (fun _ => True) (by kernel_rfl) (by kernel_rfl) trivial ?_
        refine m_move _ rfl (by rfl) ?_
        simp only [Act.put, List.setIfInBounds_toArray, List.set_cons_zero, List.set_cons_succ]
        refine m_move _ rfl (by rfl) ?_
        simp only [Act.put, List.setIfInBounds_toArray, List.set_cons_zero, List.set_cons_succ]
        refine m_value ?_ (by rfl) (fun w hw => ?_) ?_
        rotate_left
        · go_simp
          with_reducible rfl
        simp only [Act.put, List.setIfInBounds_toArray, List.set_cons_zero, List.set_cons_succ]
        refine m_value ?_ (by rfl) (fun w hw => ?_) ?_
        rotate_left
        · go_simp
          with_reducible rfl
        simp only [Act.put, List.setIfInBounds_toArray, List.set_cons_zero, List.set_cons_succ]
        refine m_move _ rfl (by rfl) ?_
        simp only [Act.put, List.setIfInBounds_toArray, List.set_cons_zero, List.set_cons_succ]
        refine m_skip (by rfl) ?_
        simp only [Act.put, List.setIfInBounds_toArray, List.set_cons_zero, List.set_cons_succ]
        refine m_skip (by rfl) ?_
        simp only [Act.put, List.setIfInBounds_toArray, List.set_cons_zero, List.set_cons_succ]
        refine m_skip (by rfl) ?_
        simp only [Act.put, List.setIfInBounds_toArray, List.set_cons_zero, List.set_cons_succ]
        refine m_skip (by rfl) ?_
        simp only [Act.put, List.setIfInBounds_toArray, List.set_cons_zero, List.set_cons_succ]
        refine m_value ?_ (by rfl) (fun w hw => ?_) ?_
        rotate_left
        · go_simp
          with_reducible rfl
        simp only [Act.put, List.setIfInBounds_toArray, List.set_cons_zero, List.set_cons_succ]
        refine m_move _ rfl (by rfl) ?_
        simp only [Act.put, List.setIfInBounds_toArray, List.set_cons_zero, List.set_cons_succ]
        refine m_skip (by rfl) ?_
        simp only [Act.put, List.setIfInBounds_toArray, List.set_cons_zero, List.set_cons_succ]
        refine m_skip (by rfl) ?_
        simp only [Act.put, List.setIfInBounds_toArray, List.set_cons_zero, List.set_cons_succ]
        refine m_skip (by rfl) ?_
        simp only [Act.put, List.setIfInBounds_toArray, List.set_cons_zero, List.set_cons_succ]
        refine m_skip (by rfl) ?_
        simp only [Act.put, List.setIfInBounds_toArray, List.set_cons_zero, List.set_cons_succ]
        refine m_skip (by rfl) ?_
        simp only [Act.put, List.setIfInBounds_toArray, List.set_cons_zero, List.set_cons_succ]
        refine m_value ?_ (by rfl) (fun w hw => ?_) ?_
        rotate_left
        · go_simp
          with_reducible rfl
        simp only [Act.put, List.setIfInBounds_toArray, List.set_cons_zero, List.set_cons_succ]
        refine m_done ?_
        try simp only [Exit.then]
        go_wp2
        go_ret
        exact ⟨by rw [show bytesOk s = false from HN.out] <;> rfl, hBd.out⟩
      · have d1 : decide (c < 33) = false := decide_eq_false c1
        by_cases c2 : 126 < c
        · have d2 : decide (126 < c) = true := decide_eq_true c2
          have HN : Hid (bytesOk s = false) := bytesOk_no s k hlt (by rw [show bf s k = c from HbF.out]; unfold okB; rw [decide_eq_true c2]; simp)
          clear hok HbF
          go_wp2_with fail
          refine wp_region_mix [false, false, false, false, false, false, false, false, false, false, false, false, false, false, false, false, false] (fun _ => True) (by kernel_rfl) (by kernel_rfl) trivial ?_
          refine m_move _ rfl (by rfl) ?_
          simp only [Act.put, List.setIfInBounds_toArray, List.set_cons_zero, List.set_cons_succ]
          refine m_move _ rfl (by rfl) ?_
          simp only [Act.put, List.setIfInBounds_toArray, List.set_cons_zero, List.set_cons_succ]
          refine m_value ?_ (by rfl) (fun w hw => ?_) ?_
          rotate_left
          · go_simp
            with_reducible rfl
          simp only [Act.put, List.setIfInBounds_toArray, List.set_cons_zero, List.set_cons_succ]
          refine m_value ?_ (by rfl) (fun w hw => ?_) ?_
          rotate_left
          · go_simp
            with_reducible rfl
          simp only [Act.put, List.setIfInBounds_toArray, List.set_cons_zero, List.set_cons_succ]
          refine m_move _ rfl (by rfl) ?_
          simp only [Act.put, List.setIfInBounds_toArray, List.set_cons_zero, List.set_cons_succ]
          refine m_move _ rfl (by rfl) ?_
          simp only [Act.put, List.setIfInBounds_toArray, List.set_cons_zero, List.set_cons_succ]
          refine m_move _ rfl (by rfl) ?_
          simp only [Act.put, List.setIfInBounds_toArray, List.set_cons_zero, List.set_cons_succ]
          refine m_value ?_ (by rfl) (fun w hw => ?_) ?_
          rotate_left
          · go_simp
            with_reducible rfl
          simp only [Act.put, List.setIfInBounds_toArray, List.set_cons_zero, List.set_cons_succ]
          refine m_value ?_ (by rfl) (fun w hw => ?_) ?_
          rotate_left
          · go_simp
            with_reducible rfl
          simp only [Act.put, List.setIfInBounds_toArray, List.set_cons_zero, List.set_cons_succ]
          refine m_value ?_ (by rfl) (fun w hw => ?_) ?_
          rotate_left
          · go_simp
            with_reducible rfl
          simp only [Act.put, List.setIfInBounds_toArray, List.set_cons_zero, List.set_cons_succ]
          refine m_move _ rfl (by rfl) ?_
          simp only [Act.put, List.setIfInBounds_toArray, List.set_cons_zero, List.set_cons_succ]
          refine m_skip (by rfl) ?_
          simp only [Act.put, List.setIfInBounds_toArray, List.set_cons_zero, List.set_cons_succ]
          refine m_skip (by rfl) ?_
          simp only [Act.put, List.setIfInBounds_toArray, List.set_cons_zero, List.set_cons_succ]
          refine m_skip (by rfl) ?_
          simp only [Act.put, List.setIfInBounds_toArray, List.set_cons_zero, List.set_cons_succ]
          refine m_skip (by rfl) ?_
          simp only [Act.put, List.setIfInBounds_toArray, List.set_cons_zero, List.set_cons_succ]
          refine m_skip (by rfl) ?_
          simp only [Act.put, List.setIfInBounds_toArray, List.set_cons_zero, List.set_cons_succ]
          refine m_value ?_ (by rfl) (fun w hw => ?_) ?_
          rotate_left
          · go_simp
            with_reducible rfl
          simp only [Act.put, List.setIfInBounds_toArray, List.set_cons_zero, List.set_cons_succ]
          refine m_done ?_
          try simp only [Exit.then]
          go_wp2
          go_ret
          exact ⟨by rw [show bytesOk s = false from HN.out] <;> rfl, hBd.out⟩
        · have d2 : decide (126 < c) = false := decide_eq_false c2
          by_cases c3 : c = 47
          · have d3 : decide (c = 47) = true := decide_eq_true c3
            have HN : Hid (bytesOk s = false) := bytesOk_no s k hlt (by rw [show bf s k = c from HbF.out]; unfold okB; rw [decide_eq_true c3]; simp)
            clear hok HbF
            go_wp2_with fail
            refine wp_region_mix [false, false, false, false, false, false, false, false, false, false, false, false, false, false, false, false, false] (fun _ => True) (by kernel_rfl) (by kernel_rfl) trivial ?_
            refine m_move _ rfl (by rfl) ?_
            simp only [Act.put, List.setIfInBounds_toArray, List.set_cons_zero, List.set_cons_succ]
            refine m_move _ rfl (by rfl) ?_
            simp only [Act.put, List.setIfInBounds_toArray, List.set_cons_zero, List.set_cons_succ]
            refine m_value ?_ (by rfl) (fun w hw => ?_) ?_
            rotate_left
            · go_simp
              with_reducible rfl
            simp only [Act.put, List.setIfInBounds_toArray, List.set_cons_zero, List.set_cons_succ]
            refine m_value ?_ (by rfl) (fun w hw => ?_) ?_
            rotate_left
            · go_simp
              with_reducible rfl
            simp only [Act.put, List.setIfInBounds_toArray, List.set_cons_zero, List.set_cons_succ]
            refine m_move _ rfl (by rfl) ?_
            simp only [Act.put, List.setIfInBounds_toArray, List.set_cons_zero, List.set_cons_succ]
            refine m_move _ rfl (by rfl) ?_
            simp only [Act.put, List.setIfInBounds_toArray, List.set_cons_zero, List.set_cons_succ]
            refine m_move _ rfl (by rfl) ?_
            simp only [Act.put, List.setIfInBounds_toArray, List.set_cons_zero, List.set_cons_succ]
            refine m_value ?_ (by rfl) (fun w hw => ?_) ?_
            rotate_left
            · go_simp
              with_reducible rfl
            simp only [Act.put, List.setIfInBounds_toArray, List.set_cons_zero, List.set_cons_succ]
            refine m_value ?_ (by rfl) (fun w hw => ?_) ?_
            rotate_left
            · go_simp
              with_reducible rfl
            simp only [Act.put, List.setIfInBounds_toArray, List.set_cons_zero, List.set_cons_succ]
            refine m_value ?_ (by rfl) (fun w hw => ?_) ?_
            rotate_left
            · go_simp
              with_reducible rfl
            simp only [Act.put, List.setIfInBounds_toArray, List.set_cons_zero, List.set_cons_succ]
            refine m_move _ rfl (by rfl) ?_
            simp only [Act.put, List.setIfInBounds_toArray, List.set_cons_zero, List.set_cons_succ]
            refine m_move _ rfl (by rfl) ?_
            simp only [Act.put, List.setIfInBounds_toArray, List.set_cons_zero, List.set_cons_succ]
            refine m_move _ rfl (by rfl) ?_
            simp only [Act.put, List.setIfInBounds_toArray, List.set_cons_zero, List.set_cons_succ]
            refine m_value ?_ (by rfl) (fun w hw => ?_) ?_
            rotate_left
            · go_simp
              with_reducible rfl
            simp only [Act.put, List.setIfInBounds_toArray, List.set_cons_zero, List.set_cons_succ]
            refine m_value (.int .u8 47) (by rfl) (fun w hw => by kernel_rfl) ?_
            simp only [Act.put, List.setIfInBounds_toArray, List.set_cons_zero, List.set_cons_succ]
            refine m_value ?_ (by rfl) (fun w hw => ?_) ?_
            rotate_left
            · go_simp
              with_reducible rfl
            simp only [Act.put, List.setIfInBounds_toArray, List.set_cons_zero, List.set_cons_succ]
            refine m_value ?_ (by rfl) (fun w hw => ?_) ?_
            rotate_left
            · go_simp
              with_reducible rfl
            simp only [Act.put, List.setIfInBounds_toArray, List.set_cons_zero, List.set_cons_succ]
            refine m_done ?_
            try simp only [Exit.then]
            go_wp2
            go_ret
            exact ⟨by rw [show bytesOk s = false from HN.out] <;> rfl, hBd.out⟩
          · have d3 : decide (c = 47) = false := decide_eq_false c3
            have d4 : (c == 47) = false := beq_false_of_ne c3
            have hok' : Hid (∀ j, j < k + 1 → okB (bf s j) = true) := fun j hj => by
              by_cases e : j = k
              · subst e
                rw [show bf s j = c from HbF.out]
                unfold okB
                rw [decide_eq_false c1, decide_eq_false c2, decide_eq_false c3]
                rfl
              · exact hok.out j (by omega)
            clear hok HbF
            go_wp2_with fail
            refine wp_region_mix [false, false, false, false, false, false, false, false, false, false, false, false, false, false, false, false, false] (fun _ => True) (by kernel_rfl) (by kernel_rfl) trivial ?_
            refine m_move _ rfl (by rfl) ?_
            simp only [Act.put, List.setIfInBounds_toArray, List.set_cons_zero, List.set_cons_succ]
            refine m_move _ rfl (by rfl) ?_
            simp only [Act.put, List.setIfInBounds_toArray, List.set_cons_zero, List.set_cons_succ]
            refine m_value ?_ (by rfl) (fun w hw => ?_) ?_
            rotate_left
            · go_simp
              with_reducible rfl
            simp only [Act.put, List.setIfInBounds_toArray, List.set_cons_zero, List.set_cons_succ]
            refine m_value ?_ (by rfl) (fun w hw => ?_) ?_
            rotate_left
            · go_simp
              with_reducible rfl
            simp only [Act.put, List.setIfInBounds_toArray, List.set_cons_zero, List.set_cons_succ]
            refine m_move _ rfl (by rfl) ?_
            simp only [Act.put, List.setIfInBounds_toArray, List.set_cons_zero, List.set_cons_succ]
            refine m_move _ rfl (by rfl) ?_
            simp only [Act.put, List.setIfInBounds_toArray, List.set_cons_zero, List.set_cons_succ]
            refine m_move _ rfl (by rfl) ?_
            simp only [Act.put, List.setIfInBounds_toArray, List.set_cons_zero, List.set_cons_succ]
            refine m_value ?_ (by rfl) (fun w hw => ?_) ?_
            rotate_left
            · go_simp
              with_reducible rfl
            simp only [Act.put, List.setIfInBounds_toArray, List.set_cons_zero, List.set_cons_succ]
            refine m_value ?_ (by rfl) (fun w hw => ?_) ?_
            rotate_left
            · go_simp
              with_reducible rfl
            simp only [Act.put, List.setIfInBounds_toArray, List.set_cons_zero, List.set_cons_succ]
            refine m_value ?_ (by rfl) (fun w hw => ?_) ?_
            rotate_left
            · go_simp
              with_reducible rfl
            simp only [Act.put, List.setIfInBounds_toArray, List.set_cons_zero, List.set_cons_succ]
            refine m_move _ rfl (by rfl) ?_
            simp only [Act.put, List.setIfInBounds_toArray, List.set_cons_zero, List.set_cons_succ]
            refine m_move _ rfl (by rfl) ?_
            simp only [Act.put, List.setIfInBounds_toArray, List.set_cons_zero, List.set_cons_succ]
            refine m_move _ rfl (by rfl) ?_
            simp only [Act.put, List.setIfInBounds_toArray, List.set_cons_zero, List.set_cons_succ]
            refine m_value ?_ (by rfl) (fun w hw => ?_) ?_
            rotate_left
            · go_simp
              with_reducible rfl
            simp only [Act.put, List.setIfInBounds_toArray, List.set_cons_zero, List.set_cons_succ]
            refine m_value (.int .u8 47) (by rfl) (fun w hw => by kernel_rfl) ?_
            simp only [Act.put, List.setIfInBounds_toArray, List.set_cons_zero, List.set_cons_succ]
            refine m_value ?_ (by rfl) (fun w hw => ?_) ?_
            rotate_left
            · go_simp
              with_reducible rfl
            simp only [Act.put, List.setIfInBounds_toArray, List.set_cons_zero, List.set_cons_succ]
            refine m_value ?_ (by rfl) (fun w hw => ?_) ?_
            rotate_left
            · go_simp
              with_reducible rfl
            simp only [Act.put, List.setIfInBounds_toArray, List.set_cons_zero, List.set_cons_succ]
            refine m_done ?_
            try simp only [Exit.then]
            go_wp2
            clear d1 d2 d3 d4 hc'
            go_roundw
            case rel => exact ⟨k + 1, by go_num, by omega, hok', hBd⟩
            case measure => simp [intOf]; omega
    · have hlt' : ¬ (k : Int) < (s.size : Int) := by omega
      obtain rfl : k = s.size := by omega
      have HN : Hid (bytesOk s = true) := bytesOk_yes s hok.out
      clear hok
      go_wp2
      go_ret
      exact ⟨by rw [show bytesOk s = true from HN.out] <;> rfl, hB.out⟩

set_option maxRecDepth 20000 in
set_option maxHeartbeats 2000000 in
theorem refName_ok (s : ByteArray) (w : World) (hs : s.size ≤ maxLen) : Calls Tryd.prog 44 #[.string s] w fun e w' => e = .returned (.bool (nameB s)) ∧ Below w.heap.size w w' := by
  unfold maxLen at hs
  go_enter Tryd.func44, Tryd.ntmps44
  go_wp2
  go_loopw [3] (fun iv wx => ∃ k : Nat, iv = .int .i64 k ∧ k ≤ s.size ∧ Hid (∀ j, j < k → okB (bf s j) = true) ∧ Hid (Below w.heap.size w wx)) (fun iv _ => s.size - (intOf iv).toNat)
  case atStart => exact ⟨0, rfl, Nat.zero_le _, fun j hj => absurd hj (by omega), Below.refl _ _⟩
  case round =>
    obtain ⟨k, rfl, hk, hok, hB⟩ := hrel
    by_cases hlt : k < s.size
    · have hlt' : (k : Int) < (s.size : Int) := by omega
      have hbf := bf_at s k hlt
      obtain ⟨c, hc⟩ : ∃ c : Int, c = (s[k].toNat : Int) := ⟨_, rfl⟩
      have hc' := hc.symm
      have HbF : Hid (bf s k = c) := hbf.trans hc'
      have HNO : Hid (okB c = false → nameB s = false) := fun h => by
        unfold nameB
        rw [bytesOk_no s k hlt (by rw [show bf s k = c from HbF.out]; exact h), Bool.and_false]
      clear hbf hc
      by_cases c1 : c < 33
      · have d1 : decide (c < 33) = true := decide_eq_true c1
        have HN : Hid (nameB s = false) := HNO.out (by unfold okB; rw [decide_eq_true c1]; rfl)
        clear hok HbF HNO
        go_wp2
        go_ret
        exact ⟨by rw [show nameB s = false from HN.out] <;> rfl, hB.out⟩
      · have d1 : decide (c < 33) = false := decide_eq_false c1
        by_cases c2 : 126 < c
        · have d2 : decide (126 < c) = true := decide_eq_true c2
          have HN : Hid (nameB s = false) := HNO.out (by unfold okB; rw [decide_eq_true c2]; simp)
          clear hok HbF HNO
          go_wp2
          go_ret
          exact ⟨by rw [show nameB s = false from HN.out] <;> rfl, hB.out⟩
        · have d2 : decide (126 < c) = false := decide_eq_false c2
          by_cases c3 : c = 47
          · have d3 : decide (c = 47) = true := decide_eq_true c3
            have HN : Hid (nameB s = false) := HNO.out (by unfold okB; rw [decide_eq_true c3]; simp)
            clear hok HbF HNO
            go_wp2
            go_ret
            exact ⟨by rw [show nameB s = false from HN.out] <;> rfl, hB.out⟩
          · have d3 : decide (c = 47) = false := decide_eq_false c3
            have d4 : (c == 47) = false := beq_false_of_ne c3
            have hok' : Hid (∀ j, j < k + 1 → okB (bf s j) = true) := fun j hj => by
              by_cases e : j = k
              · subst e
                rw [show bf s j = c from HbF.out]
                unfold okB
                rw [decide_eq_false c1, decide_eq_false c2, decide_eq_false c3]
                rfl
              · exact hok.out j (by omega)
            clear hok HbF HNO
            go_wp2
            clear d1 d2 d3 d4 hc'
            go_roundw
            case rel => exact ⟨k + 1, by go_num, by omega, hok', hB⟩
            case measure => simp [intOf]; omega
    · have hlt' : ¬ (k : Int) < (s.size : Int) := by omega
      have hks : k = s.size := by omega
      have HN : Hid (bytesOk s = true) := bytesOk_yes s (by rw [← hks]; exact hok.out)
      have hn : nameB s = (decide (1 ≤ s.size) && decide (s.size ≤ 60) && !decide (s = ⟨#[46]⟩) && !decide (s = ⟨#[46, 46]⟩)) := by
        unfold nameB
        rw [show bytesOk s = true from HN.out, Bool.and_true]
      have HNB : Hid _ := hn
      clear hok HN hks hn
      by_cases h1 : 1 ≤ s.size
      · have h1' : (1 : Int) ≤ s.size := by omega
        by_cases h2 : s.size ≤ 60
        · have h2' : (s.size : Int) ≤ 60 := by omega
          by_cases h3 : s = ⟨#[46]⟩
          · have HF : Hid (nameB s = false) := by show nameB s = false; rw [show nameB s = _ from HNB.out, decide_eq_true h3]; simp
            have h3' : (s.toList == [46]) = true := str_eq h3
            clear h3 HNB
            go_wp2
            go_ret
            exact ⟨by rw [show nameB s = false from HF.out] <;> rfl, hB.out⟩
          · have h3' : (s.toList == [46]) = false := str_ne h3
            by_cases h4 : s = ⟨#[46, 46]⟩
            · have HF : Hid (nameB s = false) := by show nameB s = false; rw [show nameB s = _ from HNB.out, decide_eq_true h4]; simp
              have h4' : (s.toList == [46, 46]) = true := str_eq h4
              clear h3 h4 HNB
              go_wp2
              go_ret
              exact ⟨by rw [show nameB s = false from HF.out] <;> rfl, hB.out⟩
            · have HF : Hid (nameB s = true) := by show nameB s = true; rw [show nameB s = _ from HNB.out, decide_eq_false h4, decide_eq_false h3, decide_eq_true h1, decide_eq_true h2]; rfl
              have h4' : (s.toList == [46, 46]) = false := str_ne h4
              clear h3 h4 HNB
              go_wp2
              go_ret
              exact ⟨by rw [show nameB s = true from HF.out] <;> rfl, hB.out⟩
        · have h2' : ¬ (s.size : Int) ≤ 60 := by omega
          have HF : Hid (nameB s = false) := by show nameB s = false; rw [show nameB s = _ from HNB.out, decide_eq_false h2]; simp
          clear HNB
          go_wp2
          go_ret
          exact ⟨by rw [show nameB s = false from HF.out] <;> rfl, hB.out⟩
      · have h1' : ¬ (1 : Int) ≤ s.size := by omega
        have HF : Hid (nameB s = false) := by show nameB s = false; rw [show nameB s = _ from HNB.out, decide_eq_false h1]; rfl
        clear HNB
        go_wp2
        go_ret
        exact ⟨by rw [show nameB s = false from HF.out] <;> rfl, hB.out⟩
end Go.Proofs.YtpkbfljoakodoaaDoor
