/- My own work: which bytes a name has; the walks of within, Name, and the document's own sign and Name. -/
import Derived.Test.YthidlckipiamkaaDoorXB
import Derived.WalkMore
import Derived.BigQuiet
namespace Go.Proofs.YthidlckipiamkaaDoor.S2
open Go.RowKit Math

abbrev bl (s : ByteArray) : List UInt8 := s.data.toList
theorem bl_len (s : ByteArray) : (bl s).length = s.size := by rw [Array.length_toList]; rfl
theorem bl_at (s : ByteArray) (i : Nat) (h : i < s.size) : (bl s)[i]'(by rw [bl_len]; exact h) = s[i] := rfl
/-- The spans of a name's bytes. -/
def lo : Nat → Int
  | 0 => 97 | 1 => 65 | 2 => 48 | 3 => 43 | 4 => 45 | 5 => 46 | _ => 95
def hi : Nat → Int
  | 0 => 122 | 1 => 90 | 2 => 57 | 3 => 43 | 4 => 45 | 5 => 46 | _ => 95
def spanArr : Array Value := #[.int .u8 97, .int .u8 122, .int .u8 65, .int .u8 90, .int .u8 48, .int .u8 57, .int .u8 43, .int .u8 43, .int .u8 45, .int .u8 45, .int .u8 46, .int .u8 46, .int .u8 95, .int .u8 95]
/-- The table stands. -/
def NTab (w : World) : Prop := ∃ t fr, w.heap[2]? = some (.cells spanArr t fr)
theorem NTab.pos {w : World} (h : NTab w) : 2 < w.heap.size := by
  obtain ⟨t, fr, h⟩ := h
  exact (Array.getElem?_eq_some_iff.1 h).1
theorem NTab.keep {w w' : World} (h : NTab w) (hb : Below w.heap.size w w') : NTab w' := by
  have hp := h.pos
  obtain ⟨t, fr, h⟩ := h
  exact ⟨t, fr, (hb.block 2 hp).trans h⟩
theorem span_at (k : Nat) (hk : k < 7) (w : World) : (Instr.index 91 (.agg spanArr) (.int .i64 k)).run Tryd.prog w = .ok (.agg #[.int .u8 (lo k), .int .u8 (hi k)]) w := by
  match k, hk with
  | 0, _ => show _ = _; kernel_rfl
  | 1, _ => show _ = _; kernel_rfl
  | 2, _ => show _ = _; kernel_rfl
  | 3, _ => show _ = _; kernel_rfl
  | 4, _ => show _ = _; kernel_rfl
  | 5, _ => show _ = _; kernel_rfl
  | 6, _ => show _ = _; kernel_rfl
  | n + 7, h => exact absurd h (by omega)
/-- May a name have this byte? -/
def inSpan (c : Int) (k : Nat) : Bool := decide (lo k ≤ c) && decide (c ≤ hi k)
def nameC (c : UInt8) : Bool := (List.range 7).any (inSpan c.toNat)
def nameB (l : List UInt8) : Bool := decide (1 ≤ l.length ∧ l.length ≤ 27 ∧ l.head? ≠ some 46) && l.all nameC

set_option maxHeartbeats 400000 in
theorem withinI (x a b : Int) (w : World) : Calls Tryd.prog 59 #[.int .i64 x, .int .i64 a, .int .i64 b] w fun e w' => e = .returned (.bool (decide (a ≤ x) && decide (x ≤ b))) ∧ w' = w := by
  go_enter Tryd.func59, Tryd.ntmps59
  by_cases h1 : a ≤ x
  · go_wp2
    go_ret
    exact ⟨by simp [h1], rfl⟩
  · go_wp2
    go_ret
    exact ⟨by simp; omega, rfl⟩
set_option maxHeartbeats 400000 in
theorem withinB (x a b : Int) (w : World) : Calls Tryd.prog 60 #[.int .u8 x, .int .u8 a, .int .u8 b] w fun e w' => e = .returned (.bool (decide (a ≤ x) && decide (x ≤ b))) ∧ w' = w := by
  go_enter Tryd.func60, Tryd.ntmps60
  by_cases h1 : a ≤ x
  · go_wp2
    go_ret
    exact ⟨by simp [h1], rfl⟩
  · go_wp2
    go_ret
    exact ⟨by simp; omega, rfl⟩
theorem all_upto {l : List UInt8} {k : Nat} (h1 : ∀ j, (h : j < l.length) → j < k → nameC l[j] = true) (h2 : l.length ≤ k) : l.all nameC = true := by
  rw [List.all_eq_true]
  intro x hx
  obtain ⟨j, hj, rfl⟩ := List.getElem_of_mem hx
  exact h1 j hj (by omega)
theorem all_not {l : List UInt8} {k : Nat} (h : k < l.length) (h1 : nameC l[k] = false) : l.all nameC = false := by
  rw [List.all_eq_false]
  exact ⟨l[k], List.getElem_mem h, by simp [h1]⟩
theorem nameB_no {l : List UInt8} (h : ¬ (1 ≤ l.length ∧ l.length ≤ 27 ∧ l.head? ≠ some 46)) : nameB l = false := by
  unfold nameB
  rw [decide_eq_false h, Bool.false_and]
theorem nameB_of {l : List UInt8} (h : 1 ≤ l.length ∧ l.length ≤ 27 ∧ l.head? ≠ some 46) : nameB l = l.all nameC := by
  unfold nameB
  rw [decide_eq_true h, Bool.true_and]
theorem head_at {s : ByteArray} (h : 0 < s.size) : (bl s).head? = some s[0] := by
  rw [List.head?_eq_getElem?, List.getElem?_eq_getElem (by rw [bl_len]; exact h)]
  rfl
/-- No span up to there has it. -/
theorem nameC_no {c : UInt8} (h : ∀ j, j < 7 → inSpan c.toNat j = false) : nameC c = false := by
  unfold nameC
  rw [List.any_eq_false]
  intro x hx
  rw [h x (List.mem_range.1 hx)]
  decide
theorem nameC_yes {c : UInt8} {j : Nat} (hj : j < 7) (h : inSpan c.toNat j = true) : nameC c = true := by
  unfold nameC
  rw [List.any_eq_true]
  exact ⟨j, List.mem_range.2 hj, h⟩
set_option maxRecDepth 20000 in
set_option maxHeartbeats 2000000 in
theorem name_ok (s : ByteArray) (w : World) (hT : NTab w) : Calls Tryd.prog 54 #[.string s] w fun e w' => e = .returned (.bool (nameB (bl s))) ∧ Below w.heap.size w w' := by
  have hlen := bl_len s
  have hW := withinI (s.size : Int) 1 27 w
  by_cases hsz : 1 ≤ s.size ∧ s.size ≤ 27
  · rw [show (decide ((1 : Int) ≤ (s.size : Int)) && decide ((s.size : Int) ≤ 27)) = true by simp; omega] at hW
    have h0 : 0 < s.size := by omega
    by_cases hp : s[0] = 46
    · have HN : Hid (nameB (bl s) = false) := nameB_no (fun h => h.2.2 (by rw [head_at h0, hp]))
      have hp' : s[0].toNat = 46 := by rw [hp]; rfl
      go_enter Tryd.func54, Tryd.ntmps54
      go_wp2
      go_step3
      go_wp2_with (go_at_call 59; refine hW.mono ?_; rintro e w1 ⟨rfl, hw1⟩; rw [hw1]; clear hw1)
      try rw [Exit.noGoto_ret]
      go_ret
      exact ⟨by rw [HN.out]; rfl, Below.refl _ _⟩
    · have hp' : ((s[0].toNat : Int) == 46) = false := by
        simp only [beq_eq_false_iff_ne]
        exact fun e => hp (UInt8.toNat_inj.1 (by simpa using (by omega : s[0].toNat = 46)))
      have HN : Hid (nameB (bl s) = (bl s).all nameC) := nameB_of ⟨by omega, by omega, by rw [head_at h0]; exact fun e => hp (Option.some.inj e)⟩
      have HT : Hid (NTab w) := hT
      clear hT
      go_enter Tryd.func54, Tryd.ntmps54
      go_wp2
      go_step3
      go_wp2_with (go_at_call 59; refine hW.mono ?_; rintro e w1 ⟨rfl, hw1⟩; rw [hw1]; clear hw1)
      go_step3
      go_wp2
      go_loopw [17] (fun i wr => ∃ k : Nat, k ≤ s.size ∧ i = .int .i64 k ∧ Hid (∀ j, (h : j < (bl s).length) → j < k → nameC (bl s)[j] = true) ∧ Below w.heap.size w wr) (fun i _ => s.size - (intOf i).toNat)
      case atStart => exact ⟨0, Nat.zero_le _, rfl, fun j h hj => absurd hj (by omega), Below.refl _ _⟩
      case round =>
        obtain ⟨k, hk, rfl, hall, hb⟩ := hrel
        by_cases hlt : k < s.size
        · obtain ⟨tt, fr, hT1⟩ := HT.out.keep hb
          obtain ⟨c, hc⟩ : ∃ c, c = s[k] := ⟨_, rfl⟩
          have HC : Hid (nameC (bl s)[k] = nameC c) := by show nameC s[k] = _; rw [hc]
          go_wp2_with (refine wpList_load_row rfl 91 _ rfl 2 rfl tt _ fr _ hT1 Tryd.underlying91 rfl (by kernel_rfl) ?_)
          obtain ⟨wE, hwE⟩ : ∃ x, x = wr := ⟨wr, rfl⟩
          rw [← hwE]
          rw [← hwE] at hb
          clear hwE hT1 wr
          go_loopw [5, 21] (fun u i wi => ∃ j : Nat, j ≤ 7 ∧ i = .int .i64 j ∧ Hid (∀ q, q < j → inSpan c.toNat q = false) ∧ Below w.heap.size w wi) (fun _ i _ => 7 - (intOf i).toNat)
          case atStart => exact ⟨0, Nat.zero_le _, rfl, fun q hq => absurd hq (by omega), hb⟩
          case round =>
            clear hb
            obtain ⟨j, hj, rfl, hno, hb⟩ := hrel
            by_cases hjl : j < 7
            · have hidx := span_at j hjl
              have hss : inSpan (s[k].toNat : Int) j = inSpan (c.toNat : Int) j := by rw [hc]
              cases hin : inSpan (c.toNat : Int) j with
              | true =>
                have HY : Hid (nameC c = true) := nameC_yes hjl hin
                rw [hin] at hss
                have hW1 := withinB (s[k].toNat : Int) (lo j) (hi j)
                unfold inSpan at hss
                rw [hss] at hW1
                clear hss hin
                go_wp2
                go_quiet (first | (go_at_call 60; exact Calls.quiet_of ((hW1 _).mono fun e w' h => ⟨h.1, 0, h.2⟩)))
                have hb' : Below w.heap.size w ((wr.alloc (.cells #[.int .u8 (lo j), .int .u8 (hi j)] 90)).drewN nq) := below_drewN (hb.alloc hb.size _) nq
                go_wp2
                go_roundw
                case rel =>
                  exact ⟨k + 1, by omega, by go_num, fun q hq hqk => by
                    by_cases e : q = k
                    · subst e; rw [HC.out, HY.out]
                    · exact hall.out q hq (by omega), hb'⟩
                case measure => simp [intOf]; omega
              | false =>
                have HY : Hid (∀ q, q < j + 1 → inSpan c.toNat q = false) := fun q hq => by
                  by_cases e : q = j
                  · subst e; exact hin
                  · exact hno.out q (by omega)
                rw [hin] at hss
                have hW1 := withinB (s[k].toNat : Int) (lo j) (hi j)
                unfold inSpan at hss
                rw [hss] at hW1
                clear hss hin
                go_wp2
                go_quiet (first | (go_at_call 60; exact Calls.quiet_of ((hW1 _).mono fun e w' h => ⟨h.1, 0, h.2⟩)))
                have hb' : Below w.heap.size w ((wr.alloc (.cells #[.int .u8 (lo j), .int .u8 (hi j)] 90)).drewN nq) := below_drewN (hb.alloc hb.size _) nq
                go_wp2
                go_roundw
                case rel => exact ⟨j + 1, by omega, by go_num, HY, hb'⟩
                case measure => simp [intOf]; omega
            · go_wp2
              try rw [Exit.noGoto_ret]
              go_ret
              have e : nameC c = false := nameC_no (fun q hq => hno.out q (by omega))
              exact ⟨by rw [HN.out, all_not (by omega) (HC.out.trans e)]; rfl, hb⟩
        · go_wp2
          try rw [Exit.noGoto_ret]
          go_ret
          exact ⟨by rw [HN.out, all_upto hall.out (by omega)]; rfl, hb⟩
  · rw [show (decide ((1 : Int) ≤ (s.size : Int)) && decide ((s.size : Int) ≤ 27)) = false by simp; omega] at hW
    have HN : Hid (nameB (bl s) = false) := nameB_no (fun h => hsz ⟨by omega, by omega⟩)
    go_enter Tryd.func54, Tryd.ntmps54
    go_wp2
    go_step3
    go_wp2_with (go_at_call 59; refine hW.mono ?_; rintro e w1 ⟨rfl, hw1⟩; rw [hw1]; clear hw1)
    try rw [Exit.noGoto_ret]
    go_ret
    exact ⟨by rw [HN.out]; rfl, Below.refl _ _⟩

/-- The document's own sign is the same. -/
def refC (c : UInt8) : Bool := decide (97 ≤ c.toNat ∧ c.toNat ≤ 122) || decide (65 ≤ c.toNat ∧ c.toNat ≤ 90) || decide (48 ≤ c.toNat ∧ c.toNat ≤ 57) || decide (c.toNat = 43) || decide (c.toNat = 45) || decide (c.toNat = 46) || decide (c.toNat = 95)
theorem refC_eq (c : UInt8) : refC c = nameC c := by
  rw [Bool.eq_iff_iff]
  unfold refC nameC inSpan
  simp [List.range_succ, lo, hi]
  omega
set_option maxRecDepth 20000 in
set_option maxHeartbeats 2000000 in
theorem refSign_ok (c : UInt8) (w : World) : Calls Tryd.prog 56 #[.int .u8 c.toNat] w fun e w' => e = .returned (.bool (nameC c)) ∧ w' = w := by
  have HC : Hid (refC c = nameC c) := refC_eq c
  have HN : Hid _ := c.toNat_lt
  go_enter Tryd.func56, Tryd.ntmps56
  go_wp2
  all_goals (go_ret; refine ⟨?_, rfl⟩; rw [← HC.out]; refine congrArg (fun b => Ending.returned (Value.bool b)) ?_; rw [Bool.eq_iff_iff]; unfold refC; simp; omega)
set_option maxRecDepth 20000 in
set_option maxHeartbeats 2000000 in
theorem refName_ok (s : ByteArray) (w : World) (hs : s.size ≤ 140737488355328) : Calls Tryd.prog 47 #[.string s] w fun e w' => e = .returned (.bool (nameB (bl s))) ∧ w' = w := by
  have hlen := bl_len s
  go_enter Tryd.func47, Tryd.ntmps47
  go_wp2
  go_loop [3] (fun i => ∃ k : Nat, k ≤ s.size ∧ i = .int .i64 k ∧ Hid (∀ j, (h : j < (bl s).length) → j < k → nameC (bl s)[j] = true)) (fun i => s.size - (intOf i).toNat)
  case atStart => exact ⟨0, Nat.zero_le _, rfl, fun j h hj => absurd hj (by omega)⟩
  case round =>
    obtain ⟨k, hk, rfl, hall⟩ := hrel
    by_cases hlt : k < s.size
    · cases hc : nameC s[k] with
      | true =>
        have hS := refSign_ok s[k] w
        rw [hc] at hS
        have HC : Hid (nameC (bl s)[k] = true) := hc
        clear hc
        go_wp2_with (go_at_call 56; refine hS.mono ?_; rintro e w1 ⟨rfl, hw1⟩; rw [hw1]; clear hw1)
        go_round
        case rel =>
          exact ⟨k + 1, by omega, by go_num, fun q hq hqk => by
            by_cases e : q = k
            · subst e; exact HC.out
            · exact hall.out q hq (by omega)⟩
        case measure => simp [intOf]; omega
      | false =>
        have hS := refSign_ok s[k] w
        rw [hc] at hS
        have HC : Hid (nameC (bl s)[k] = false) := hc
        clear hc
        go_wp2_with (go_at_call 56; refine hS.mono ?_; rintro e w1 ⟨rfl, hw1⟩; rw [hw1]; clear hw1)
        go_ret
        refine ⟨?_, rfl⟩
        have e : nameB (bl s) = false := by unfold nameB; rw [all_not (by omega) HC.out, Bool.and_false]
        rw [e]
        rfl
    · have HA : Hid ((bl s).all nameC = true) := all_upto hall.out (by omega)
      by_cases h1 : 1 ≤ s.size
      · have h0 : 0 < s.size := by omega
        by_cases h2 : s.size ≤ 27
        · by_cases hp : s[0] = 46
          · have HN : Hid (nameB (bl s) = false) := nameB_no (fun h => h.2.2 (by rw [head_at h0, hp]))
            have hp' : s[0].toNat = 46 := by rw [hp]; rfl
            go_wp2
            go_ret
            exact ⟨by rw [HN.out]; rfl, rfl⟩
          · have hp' : ((s[0].toNat : Int) == 46) = false := by
              simp only [beq_eq_false_iff_ne]
              exact fun e => hp (UInt8.toNat_inj.1 (by simpa using (by omega : s[0].toNat = 46)))
            have HN : Hid (nameB (bl s) = true) := (nameB_of ⟨by omega, by omega, by rw [head_at h0]; exact fun e => hp (Option.some.inj e)⟩).trans HA.out
            go_wp2
            go_ret
            exact ⟨by rw [HN.out]; exact congrArg (fun b => Ending.returned (Value.bool b)) (by simp [bne, hp']), rfl⟩
        · have HN : Hid (nameB (bl s) = false) := nameB_no (fun h => h2 (by omega))
          go_wp2
          go_ret
          exact ⟨by rw [HN.out]; rfl, rfl⟩
      · have HN : Hid (nameB (bl s) = false) := nameB_no (fun h => h1 (by omega))
        go_wp2
        go_ret
        exact ⟨by rw [HN.out]; rfl, rfl⟩
end Go.Proofs.YthidlckipiamkaaDoor.S2
