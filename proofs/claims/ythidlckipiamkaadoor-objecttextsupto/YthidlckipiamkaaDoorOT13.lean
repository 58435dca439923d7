/- My own work: the closure of the program's Read that appends a reference; strings.Lines, whose state lies in a cell. -/
import Derived.Test.YthidlckipiamkaaDoorOT12
import Derived.Test.YthidlckipiamkaaDoorOT11
import Derived.Test.YthidlckipiamkaaDoorRFn
import Derived.RangeFuncBound
import Derived.RangeFuncCalls
import Derived.RangeFuncLeaves
import Derived.Shelf.RegionOpen
import Derived.OwnWalkIn
import Derived.TacticsInMore
import Derived.LoopNIn
import Derived.LoopIn
namespace Go.Proofs.YthidlckipiamkaaDoor
open Go.RowKit
open S2 (bl bl_len bl_inj)
attribute [local go_sem] Oper.semAt_some

/-- One text is appended to a row of one's own. -/
theorem ap_ref1 {w : World} {o : Oper} {a : Act} {K : Act → World → Prop} {Q : Exit → Act → World → Prop} (dd : Option Tmp) (hdd : o.dst = dd) (s x : Operand) (ho : o.op = .call { callee := .builtin .append, args := #[s, x], argTypes := #[22, 22] }) (B : Nat) (v : Value) (n : Nat) (xs : List Value) (hs : a.eval s = v) (t : ByteArray) (hown : (w.alloc (.cells #[.string t] 9)).ownsRow B 9 1 v n xs) (hx : a.eval x = .slice (some ⟨w.heap.size, 0, none⟩) 1 1) (hB : B ≤ w.heap.size) (hby : (n + 1) * 16 ≤ 140737488355328)
    (h : ∀ v' w', w'.ownsRow B 9 1 v' (n + 1) (xs ++ [.string t]) → (w.alloc (.cells #[.string t] 9)).grownBy w' v.ownBlock → K (a.put dd v') w') : o.wp Tryd.prog a (w.alloc (.cells #[.string t] 9)) K Q := by
  refine wp_append_any dd hdd s x 22 9 (.string ⟨#[]⟩) 1 16 Tryd.underlying22 Try.info9 rfl (by decide) ho B v n xs hs hown (some ⟨w.heap.size, 0, none⟩) w.heap.size 0 1 1 [.string t] rfl hx (fun _ => rfl) (fun j u hj => ?_) (fun u hu => ?_) (fun h => nomatch h) (by unfold maxLen; omega) hby (by simp; omega) (fun v' w' h1 h2 _ => h v' w' h1 h2)
  · cases j with
    | zero => simp at hj; subst hj; exact (Row.cell (Row.new w #[.string t] 9) 0).trans rfl
    | succ j => simp at hj
  · simp at hu; subst hu; rfl
set_option maxHeartbeats 2000000 in
/-- A reference is said. -/
theorem say_ref (w1 : World) (p h d x : ByteArray) (rs : List ByteArray) (v : Value) (wx : World) (H : DR w1 p h d rs v wx) (hl : rs.length ≤ 1048576) : Calls Tryd.prog 16 #[.string x, .pointer (some ⟨w1.heap.size, 0, none⟩)] wx fun e w' => (∃ r, e = .returned r) ∧ ∃ v', DR w1 p h d (rs ++ [x]) v' w' := by
  obtain ⟨ra, rc, rfl⟩ := refs_slice H.own
  have q1 := (H.row.cell 3).trans (rfl : _ = some (Value.slice ra rs.length rc))
  have hba : Below wx.heap.size wx (wx.alloc (.cells #[.string x] 9)) := (Below.refl _ _).alloc (Nat.le_refl _) _
  have hr2 : Row (wx.alloc (.cells #[.string x] 9)) w1.heap.size #[.string p, .string h, .string d, .slice ra rs.length rc] 24 := H.row.below hba H.row.lt
  have hold2 : Below w1.heap.size w1 (wx.alloc (.cells #[.string x] 9)) := H.old.trans (hba.mono H.old.size)
  have hown2 := own_belowR H.own hba
  have hle : w1.heap.size + 1 ≤ wx.heap.size := H.row.lt
  have HG : Hid (Row (wx.alloc (.cells #[.string x] 9)) w1.heap.size #[.string p, .string h, .string d, .slice ra rs.length rc] 24 ∧ Below w1.heap.size w1 (wx.alloc (.cells #[.string x] 9)) ∧ (wx.alloc (.cells #[.string x] 9)).ownsRow (w1.heap.size + 1) 9 1 (.slice ra rs.length rc) rs.length (rs.map Value.string)) := ⟨hr2, hold2, hown2⟩
  clear H hr2 hold2 hown2
  go_enter Tryd.func16, Tryd.ntmps16
  go_wp2_with (
    at_builtin
    refine wpList_plain rfl fun K' hK' => ?_
    refine ap_ref1 (some 7) rfl (.tmp 4) (.tmp 6) rfl (w1.heap.size + 1) _ rs.length _ rfl x HG.out.2.2 rfl hle (by omega) ?_
    intro v5 w5 hown5 hgrow5
    refine hK' _ _ ?_
    have hr3 : Row w5 w1.heap.size #[.string p, .string h, .string d, .slice ra rs.length rc] 24 := row_grownR HG.out.2.2 hgrow5 HG.out.1 (by decide)
    have hold3 : Below w1.heap.size w1 w5 := old_grown HG.out.2.2 HG.out.2.1 HG.out.2.1.size hgrow5
    have HA : Hid (DR w1 p h d (rs ++ [x]) v5 (w5.setCell ⟨w1.heap.size, 3, none⟩ v5)) := dr_set hr3 hold3 hown5
    obtain ⟨ra3, rc3, rfl⟩ := refs_slice hown5
    have q4 := (hr3.cell 3).trans (rfl : _ = some (Value.slice ra rs.length rc))
    have f4 := hr3.frozen 3
    clear hown5 hgrow5 hr3 hold3)
  refine bodyPost_end (results_none rfl _ _ _) rfl ?_
  exact ⟨⟨_, rfl⟩, _, HA.out⟩
/-- What strings.Lines changes between two rounds. -/
def ChL (Bs : Nat) (A B : World) : Prop := ∃ v, B = A.setCell ⟨Bs, 0, none⟩ (.string v) ∨ B = A.drew.setCell ⟨Bs, 0, none⟩ (.string v)
/-- What the body must keep for it. -/
def KpL (Bs : Nat) (A B : World) : Prop := ∀ s : ByteArray, Row A Bs #[.string s] 9 → Row B Bs #[.string s] 9
theorem KpL.trans {Bs : Nat} {A B C : World} (h : KpL Bs A B) (k : KpL Bs B C) : KpL Bs A C := fun s hs => k s (h s hs)
theorem lines_ok (s : ByteArray) (w : World) : Calls Tryd.prog 17 #[.string s] w fun e w' => e = .returned (.func (.func 28) #[] #[.pointer (some ⟨w.heap.size, 0, none⟩)]) ∧ w' = w.alloc (.cells #[.string s] 9) := by
  go_enter Tryd.func17, Tryd.ntmps17
  go_wp2
  go_ret
  exact ⟨rfl, rfl⟩
theorem lineA_at (s : ByteArray) (n : Nat) (h : Lib.indexByte (bl s) 10 = (n : Int)) : lineA s = s.extract 0 (n + 1) ∧ lineZ s = s.extract (n + 1) s.size := by
  unfold lineA lineZ
  rw [h, if_neg (by omega), if_neg (by omega)]
  exact ⟨rfl, rfl⟩
theorem lineA_no (s : ByteArray) (h : Lib.indexByte (bl s) 10 = -1) : lineA s = s ∧ lineZ s = ⟨#[]⟩ := by
  unfold lineA lineZ
  rw [if_pos h, if_pos h]
  exact ⟨rfl, rfl⟩
set_option maxRecDepth 100000 in
set_option maxHeartbeats 4000000 in
theorem lines_stops (n : Nat) (hn : 1 ≤ n) (Bs : Nat) (s : ByteArray) (hs : s.size ≤ 1048576) (w : World) (hB : Row w Bs #[.string s] 9) :
    SeqOwn Fence.wide n Tryd.prog 28 #[.pointer (some ⟨Bs, 0, none⟩)] (fun x : ByteArray => #[Value.string x]) (fun x => x.size ≤ 1048576) (ChL Bs) (KpL Bs) (fun ys => ys = linesOf s) (fun pre => pre <+: linesOf s) s.size w := fun l J Jx W hW hJ hJx hY h0 => by
  have hB0 := hW s hB
  clear hW hB
  refine callsIn_of_wp Tryd.func28 rfl trivial ?_ rfl
  simp only [Tryd.ntmps28, List.size_toArray, List.length_cons, List.length_nil, Nat.reduceAdd, Nat.reduceSub, Array.replicate_succ, Array.replicate_zero, List.push_toArray, List.append_toArray, List.nil_append, List.cons_append]
  gi_wp2
  gi_loopw [] (fun wr => ∃ (pre : List ByteArray) (m : Nat) (r : ByteArray), Row wr Bs #[.string r] 9 ∧ J pre wr ∧ pre ++ linesF m r = linesOf s ∧ r.size ≤ m ∧ r.size ≤ s.size)
    (fun wr => match wr.cell? ⟨Bs, 0, none⟩ with | some (.string r) => r.size | _ => 0)
  case atStart => exact ⟨[], s.size, s, hB0, h0, rfl, Nat.le_refl _, Nat.le_refl _⟩
  case round =>
    obtain ⟨pre, m, r, hr, hJp, hcat, hm, hrs⟩ := hrel
    have hc : wr.cell? ⟨Bs, 0, none⟩ = some (.string r) := (hr.cell 0).trans rfl
    have hfz := hr.frozen 0
    by_cases hz : r.size = 0
    · have hle : ¬ (0 : Int) < (r.size : Int) := by omega
      gi_wp2
      go_end0
      rw [linesF_nil m r (List.eq_nil_of_length_eq_zero (by rw [bl_len]; exact hz)), List.append_nil] at hcat
      exact ⟨⟨_, rfl⟩, .inl (hcat ▸ hJp)⟩
    · have hlt : (0 : Int) < (r.size : Int) := by omega
      obtain ⟨m', rfl⟩ : ∃ m', m = m' + 1 := ⟨m - 1, by omega⟩
      rw [linesF, if_neg hz] at hcat
      have hpl : pre.length < s.size := by
        have h1 := congrArg List.length hcat
        have h2 := linesF_len s.size s
        rw [List.length_append, List.length_cons] at h1
        have h3 : (linesOf s).length ≤ s.size := h2
        omega
      have hAl := lineA_le r
      have hZl := lineZ_lt r (by omega)
      have HC : Hid ((pre ++ [lineA r]) ++ linesF m' (lineZ r) = linesOf s ∧ (lineZ r).size ≤ m' ∧ (lineZ r).size < r.size ∧ (lineA r).size ≤ r.size) := ⟨by rw [List.append_assoc]; exact hcat, by omega, hZl, hAl⟩
      have HI := sindexByte_ok r wr
      clear hcat hAl hZl
      rcases index_cases (bl r) 10 with hi | ⟨k, hi, hk⟩
      · rw [hi] at HI
        obtain ⟨eA, eZ⟩ := lineA_no r hi
        rw [eA, eZ] at HC
        clear hi eA eZ
        obtain ⟨W3, hW3⟩ : ∃ x, x = wr.setCell ⟨Bs, 0, none⟩ (.string ⟨#[]⟩) := ⟨_, rfl⟩
        have HR3 : Hid (Row W3 Bs #[.string ⟨#[]⟩] 9) := by
          show Row _ _ _ _
          rw [hW3]
          exact hr.setCell (i := 0) (.string ⟨#[]⟩)
        have hW3' := hW3.symm
        obtain ⟨fn, tmps, assign, body, hy, hR⟩ := hY pre r W3 (by omega) (hJ pre wr W3 ⟨_, .inl hW3⟩ hJp) hpl
        clear hW3
        gi_wp2_with (refine ⟨trivial, ?_⟩; gi_at_call 29; refine (callsIn_wide.2 HI).mono ?_; rintro e w1 ⟨rfl, rfl⟩; clear HI)
        refine hR.mono ?_
        rintro e W4 (⟨rfl, hJ4, hk4⟩ | ⟨rfl, hJx4⟩)
        · have hr4 := hk4 _ HR3.out
          have hc4 : W4.cell? ⟨Bs, 0, none⟩ = some (.string ⟨#[]⟩) := (Row.cell hr4 0).trans rfl
          have HCc : Hid _ := hc
          clear hc
          gi_wp2
          go_roundw
          case rel => exact ⟨pre ++ [r], m', ⟨#[]⟩, hr4, hJ4, HC.out.1, HC.out.2.1, Nat.zero_le _⟩
          case measure => have h5 := HC.out.2.2.1; have h6 := HCc.out; simp only [hc4, h6]; exact h5
        · gi_wp2
          refine bodyPost_ret (results_none rfl _ _ _) rfl ?_
          exact ⟨⟨_, rfl⟩, .inr ⟨pre ++ [r], ⟨_, HC.out.1⟩, hJx4⟩⟩
      · rw [hi] at HI
        obtain ⟨eA, eZ⟩ := lineA_at r k hi
        rw [eA, eZ] at HC
        rw [bl_len] at hk
        clear hi eA eZ
        have h2 : k + 1 ≤ r.size := by omega
        have hw1 : IntKind.i64.wrap ((k : Int) + 1) = (k : Int) + 1 := by rw [IntKind.wrap_i64]; omega
        have hnn : (0 : Int) ≤ (k : Int) := by omega
        obtain ⟨W3, hW3⟩ : ∃ x, x = wr.drew.setCell ⟨Bs, 0, none⟩ (.string (r.extract (k + 1) r.size)) := ⟨_, rfl⟩
        have HR3 : Hid (Row W3 Bs #[.string (r.extract (k + 1) r.size)] 9) := by
          show Row _ _ _ _
          rw [hW3]
          exact hr.drew.setCell (i := 0) (.string (r.extract (k + 1) r.size))
        obtain ⟨fn, tmps, assign, body, hy, hR⟩ := hY pre (r.extract 0 (k + 1)) W3 (by have := HC.out.2.2.2; omega) (hJ pre wr W3 ⟨_, .inr hW3⟩ hJp) hpl
        have HW3 : Hid _ := hW3
        clear hW3
        gi_wp2_with (refine ⟨trivial, ?_⟩; gi_at_call 29; refine (callsIn_wide.2 HI).mono ?_; rintro e w1 ⟨rfl, rfl⟩; clear HI)
        refine wpIn_wide.2 ?_
        refine wp_region_perm [(false, 0), (false, 1), (false, 2), (false, 3), (false, 4), (false, 5), (false, 6), (false, 7), (false, 8), (true, 9)] (fun wx => Row wx Bs #[.string r] 9) (by kernel_rfl) (by kernel_rfl) hr.drew ?_
        refine p_value (some 12) (.string r) rfl rfl (by rfl) (fun w hw => ?_) ?_
        · have hcw : w.cell? ⟨Bs, 0, none⟩ = some (.string r) := (Row.cell hw 0).trans rfl
          go_simp
        simp only [Act.put, List.setIfInBounds_toArray, List.set_cons_zero, List.set_cons_succ]
        refine p_move (some 13) _ rfl rfl rfl (by rfl) ?_
        simp only [Act.put, List.setIfInBounds_toArray, List.set_cons_zero, List.set_cons_succ]
        refine p_value (some 14) (.int .i64 ((k : Int) + 1)) rfl rfl (by rfl) (fun w hw => ?_) ?_
        · go_simp
        simp only [Act.put, List.setIfInBounds_toArray, List.set_cons_zero, List.set_cons_succ]
        refine p_value (some 15) (.string (r.extract 0 (k + 1))) rfl rfl (by rfl) (fun w hw => ?_) ?_
        · go_simp
          intro hx
          have := hx (by omega)
          omega
        simp only [Act.put, List.setIfInBounds_toArray, List.set_cons_zero, List.set_cons_succ]
        refine p_value (some 16) (.string r) rfl rfl (by rfl) (fun w hw => ?_) ?_
        · have hcw : w.cell? ⟨Bs, 0, none⟩ = some (.string r) := (Row.cell hw 0).trans rfl
          go_simp
        simp only [Act.put, List.setIfInBounds_toArray, List.set_cons_zero, List.set_cons_succ]
        refine p_move (some 17) _ rfl rfl rfl (by rfl) ?_
        simp only [Act.put, List.setIfInBounds_toArray, List.set_cons_zero, List.set_cons_succ]
        refine p_value (some 18) (.int .i64 ((k : Int) + 1)) rfl rfl (by rfl) (fun w hw => ?_) ?_
        · go_simp
        simp only [Act.put, List.setIfInBounds_toArray, List.set_cons_zero, List.set_cons_succ]
        refine p_value (some 19) (.string (r.extract (k + 1) r.size)) rfl rfl (by rfl) (fun w hw => ?_) ?_
        · go_simp
          intro hx
          have := hx (by omega)
          omega
        simp only [Act.put, List.setIfInBounds_toArray, List.set_cons_zero, List.set_cons_succ]
        refine p_value (some 3) (.string (r.extract 0 (k + 1))) rfl rfl (by rfl) (fun w hw => ?_) ?_
        · go_simp
        simp only [Act.put, List.setIfInBounds_toArray, List.set_cons_zero, List.set_cons_succ]
        have hcd : w1.drew.cell? ⟨Bs, 0, none⟩ = some (.string r) := (Row.cell hr.drew 0).trans rfl
        have hfd := Row.frozen hr.drew 0
        refine p_store (w1.drew.setCell ⟨Bs, 0, none⟩ (.string (r.extract (k + 1) r.size))) rfl rfl (by rfl) (by go_simp) (fun h => absurd rfl h) ?_
        refine p_done ?_
        try simp only [Exit.then]
        rw [← HW3.out]
        clear hcd hfd
        gi_wp2
        refine hR.mono ?_
        rintro e W4 (⟨rfl, hJ4, hk4⟩ | ⟨rfl, hJx4⟩)
        · have hr4 := hk4 _ HR3.out
          have hc4 : W4.cell? ⟨Bs, 0, none⟩ = some (.string (r.extract (k + 1) r.size)) := (Row.cell hr4 0).trans rfl
          have HCc : Hid _ := hc
          clear hc
          gi_wp2
          go_roundw
          case rel => exact ⟨pre ++ [r.extract 0 (k + 1)], m', r.extract (k + 1) r.size, hr4, hJ4, HC.out.1, HC.out.2.1, by have := HC.out.2.2.1; omega⟩
          case measure => have h5 := HC.out.2.2.1; have h6 := HCc.out; simp only [hc4, h6]; exact h5
        · gi_wp2
          refine bodyPost_ret (results_none rfl _ _ _) rfl ?_
          exact ⟨⟨_, rfl⟩, .inr ⟨pre ++ [r.extract 0 (k + 1)], ⟨_, HC.out.1⟩, hJx4⟩⟩
end Go.Proofs.YthidlckipiamkaaDoor
