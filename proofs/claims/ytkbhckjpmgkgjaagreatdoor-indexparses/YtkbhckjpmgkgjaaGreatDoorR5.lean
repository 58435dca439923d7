/- My own work: the document's own sign and Compare. -/
import Derived.Test.YtkbhckjpmgkgjaaGreatDoorR3
import Derived.BigQuiet
namespace Go.Proofs.YtkbhckjpmgkgjaaGreatDoor
open Go.RowKit

def signI (b c : Bool) : Int := if b then -1 else if c then 1 else 0
theorem sign_ok (b c : Bool) (w : World) : Calls Tryz.prog 98 #[.bool b, .bool c] w fun e w' => e = .returned (.int .i64 (signI b c)) ∧ w' = w := by
  cases b <;> cases c
  all_goals
    go_enter Tryz.func98, Tryz.ntmps98
    go_wp2
    go_ret
    exact ⟨rfl, rfl⟩
theorem cmpV_at {a b : Ver} {k : Nat} (hk : k < 4) (h : ∀ j, j < k → nAt a j = nAt b j) (hn : nAt a k ≠ nAt b k) : cmpV a b = cmpI (nAt a k) (nAt b k) := by
  match k, hk with
  | 0, _ => exact cmpV_0 hn
  | 1, _ => exact cmpV_1 (h 0 (by omega)) hn
  | 2, _ => exact cmpV_2 (h 0 (by omega)) (h 1 (by omega)) hn
  | 3, _ => exact cmpV_3 (h 0 (by omega)) (h 1 (by omega)) (h 2 (by omega)) hn
theorem cmpV_tail {a b : Ver} (h : ∀ j, j < 4 → nAt a j = nAt b j) : cmpV a b = if cmpT (vb a.tag) (vb b.tag) = 0 then cmpI a.cnt b.cnt else cmpT (vb a.tag) (vb b.tag) := cmpV_4 (h 0 (by omega)) (h 1 (by omega)) (h 2 (by omega)) (h 3 (by omega))
abbrev twoR (w : World) (a b : Ver) : World := (w.alloc (.cells (verC a) 104)).alloc (.cells (verC b) 104)
theorem sign_int (x y : Int) : signI (decide (x < y)) (decide (y < x)) = cmpI x y := by
  unfold signI cmpI
  by_cases h : x < y
  · simp [h]
  · by_cases k : y < x <;> simp [h, k]
set_option maxRecDepth 20000 in
set_option maxHeartbeats 8000000 in
theorem refCompare_ok (a b : Ver) (w : World) : Calls Tryz.prog 63 #[verV a, verV b] w fun e w' => e = .returned (.int .i64 (cmpV a b)) ∧ Below w.heap.size w w' := by
  have hA : Row (twoR w a b) w.heap.size (verC a) 104 := (Row.new w (verC a) 104).alloc _
  have hB : Row (twoR w a b) (w.heap.size + 1) (verC b) 104 := by
    have h := Row.new (w.alloc (.cells (verC a) 104)) (verC b) 104
    rw [World.size_alloc] at h
    exact h
  have hbel : Below w.heap.size w (twoR w a b) := ((Below.refl _ _).alloc (Nat.le_refl _) _).alloc (by simp) _
  obtain ⟨w2, hw2⟩ : ∃ x, x = twoR w a b := ⟨_, rfl⟩
  have hw2' := hw2.symm
  rw [← hw2] at hA hB hbel
  have HCA : Hid (∀ q k, k < 4 → (w2.drewN q).cell? ⟨w.heap.size, k, none⟩ = some (.int .i64 (nAt a k))) := fun q k hk => ((show (w2.drewN q).cell? _ = (verC a)[k]? from hA.cell k)).trans (ver_cell a k hk)
  have HCB : Hid (∀ q k, k < 4 → (w2.drewN q).cell? ⟨w.heap.size + 1, k, none⟩ = some (.int .i64 (nAt b k))) := fun q k hk => ((show (w2.drewN q).cell? _ = (verC b)[k]? from hB.cell k)).trans (ver_cell b k hk)
  have HC4 : Hid (∀ q, (w2.drewN q).cell? ⟨w.heap.size, 4, none⟩ = some (.int .i64 a.cnt) ∧ (w2.drewN q).cell? ⟨w.heap.size, 5, none⟩ = some (.string a.tag) ∧ (w2.drewN q).cell? ⟨w.heap.size + 1, 4, none⟩ = some (.int .i64 b.cnt) ∧ (w2.drewN q).cell? ⟨w.heap.size + 1, 5, none⟩ = some (.string b.tag)) := fun q => ⟨(show (w2.drewN q).cell? _ = (verC a)[4]? from hA.cell 4).trans rfl, (show (w2.drewN q).cell? _ = (verC a)[5]? from hA.cell 5).trans rfl, (show (w2.drewN q).cell? _ = (verC b)[4]? from hB.cell 4).trans rfl, (show (w2.drewN q).cell? _ = (verC b)[5]? from hB.cell 5).trans rfl⟩
  have HBE : Hid (∀ q, Below w.heap.size w (w2.drewN q)) := fun q => hbel.trans ⟨rfl, rfl, rfl, Nat.le_refl _, fun _ _ => rfl⟩
  have HSI : Hid (∀ b c wx, Calls Tryz.prog 98 #[.bool b, .bool c] wx fun e w' => e = .returned (.int .i64 (signI b c)) ∧ w' = wx) := fun b c wx => sign_ok b c wx
  clear hw2 hA hB hbel
  go_enter Tryz.func63, Tryz.ntmps63
  go_wp2
  clear hw2'
  go_loopw [5] (fun i wr => ∃ k q : Nat, k ≤ 4 ∧ i = .int .i64 k ∧ wr = w2.drewN q ∧ Hid (∀ j, j < k → nAt a j = nAt b j)) (fun i _ => 4 - (intOf i).toNat)
  case atStart => exact ⟨0, 0, Nat.zero_le _, rfl, rfl, fun j h => absurd h (Nat.not_lt_zero _)⟩
  case round =>
    obtain ⟨k, q, hk, rfl, hwr, HAL⟩ := hrel
    by_cases hlt : k < 4
    · have hlt' : (k : Int) < 4 := by omega
      have ca := HCA.out q k hlt
      have cb := HCB.out q k hlt
      rw [← hwr] at ca cb
      obtain ⟨x, hx⟩ : ∃ x, x = nAt a k := ⟨_, rfl⟩
      obtain ⟨y, hy⟩ : ∃ y, y = nAt b k := ⟨_, rfl⟩
      rw [← hx] at ca
      rw [← hy] at cb
      by_cases hxy : x = y
      · have HN : Hid (∀ j, j < k + 1 → nAt a j = nAt b j) := fun j hj => by
          by_cases e : j = k
          · subst e; rw [← hx, ← hy]; exact hxy
          · exact HAL.out j (by omega)
        rw [← hxy] at cb
        clear hx hy hxy
        have HWR : Hid (wr = w2.drewN q) := hwr
        clear hwr
        go_wp2
        go_quiet (fail)
        go_wp2
        go_roundw
        case rel => exact ⟨k + 1, q + nq, by omega, by go_num, by rw [HWR.out]; simp [World.drewN, Nat.add_assoc], HN.out⟩
        case measure => simp [intOf]; omega
      · have HV : Hid (cmpV a b = cmpI x y) := by show _ = _; rw [hx, hy]; exact cmpV_at hlt HAL.out (by rw [← hx, ← hy]; exact hxy)
        have hxb : (x == y) = false := by simpa using hxy
        have HXY : Hid (signI (decide (x < y)) true = cmpI x y) := by
          show _ = _
          unfold signI cmpI
          by_cases h : x < y
          · simp [h]
          · have : y < x := by omega
            simp [h, this]
        clear hx hy
        have HWR : Hid (wr = w2.drewN q) := hwr
        clear hwr
        go_wp2
        go_quiet (fail)
        obtain ⟨wz, hwz⟩ : ∃ z, z = wr.drewN nq := ⟨_, rfl⟩
        rw [← hwz]
        have ca2 : wz.cell? ⟨w.heap.size, k, none⟩ = some (.int .i64 x) := by rw [hwz]; exact ca
        have cb2 : wz.cell? ⟨w.heap.size + 1, k, none⟩ = some (.int .i64 y) := by rw [hwz]; exact cb
        have HBz : Hid (∀ q, Below w.heap.size w (wz.drewN q)) := fun q' => by
          rw [hwz, HWR.out]
          exact (HBE.out q).trans ⟨rfl, rfl, rfl, Nat.le_refl _, fun _ _ => rfl⟩
        have HS2 : Hid (∀ wx, Calls Tryz.prog 98 #[.bool (decide (x < y)), .bool true] wx fun e w' => e = .returned (.int .i64 (cmpI x y)) ∧ w' = wx) := fun wx => by rw [← HXY.out]; exact HSI.out _ _ wx
        clear hwz ca cb
        generalize cmpI x y = r at *
        go_wp2
        go_quiet (first | (go_at_call 98; exact Calls.quiet_of ((HS2.out _).mono fun e w' h => ⟨h.1, 0, h.2⟩)))
        go_wp2
        go_ret
        exact ⟨by rw [HV.out]; rfl, HBz.out _⟩
    · have hlt' : ¬ (k : Int) < 4 := by omega
      obtain rfl : k = 4 := by omega
      have HV := cmpV_tail HAL.out
      obtain ⟨c4, c5, d4, d5⟩ := HC4.out q
      rw [← hwr] at c4 c5 d4 d5
      have HBr : Hid (Below w.heap.size w wr) := by rw [hwr]; exact HBE.out q
      clear hwr
      by_cases htt : a.tag = b.tag
      · have HV2 : Hid (cmpV a b = cmpI a.cnt b.cnt) := by show _ = _; rw [HV, if_pos ((cmpT_zero _ _).2 (by rw [htt]))]
        have hsg := HSI.out (decide (a.cnt < b.cnt)) (decide (b.cnt < a.cnt)) wr
        rw [sign_int] at hsg
        rw [htt] at c5
        generalize cmpI a.cnt b.cnt = r at *
        clear HV htt
        go_wp2_with (go_at_call 98; refine hsg.mono ?_; rintro e w9 ⟨rfl, hw9⟩; rw [hw9]; clear hw9)
        go_ret
        exact ⟨by rw [HV2.out]; rfl, HBr.out⟩
      · have hvb : vb a.tag ≠ vb b.tag := fun e => htt (vb_inj e)
        have HV2 : Hid (cmpV a b = cmpT (vb a.tag) (vb b.tag)) := by show _ = _; rw [HV, if_neg (fun h => hvb ((cmpT_zero _ _).1 h))]
        have hne1 : ¬ a.tag.toList = b.tag.toList := fun e => htt (by
          rw [ByteArray.toList_eq, ByteArray.toList_eq] at e
          exact vb_inj e)
        have hne2 : (a.tag.toList == b.tag.toList) = false := by simpa using hne1
        clear HV
        by_cases ha : vb a.tag = []
        · have hb : vb b.tag ≠ [] := fun e => hvb (by rw [ha, e])
          have e1 : a.tag.toList = [] := by rw [ByteArray.toList_eq]; exact ha
          have e2 : a.tag.toList.isEmpty = true := by rw [e1]; rfl
          have f1 := vEq_nil' hb
          have f2 := vEq_nil hb
          have HR : Hid (cmpT (vb a.tag) (vb b.tag) = signI false true) := by
            show _ = _
            unfold cmpT
            rw [ha, if_pos (Or.inl rfl), cmpB_nil' hb]
            rfl
          have hsg := HSI.out false true wr
          rw [← HR.out, ← HV2.out] at hsg
          clear ha hb hvb htt
          go_wp2_with (go_at_call 98; refine hsg.mono ?_; rintro e w9 ⟨rfl, hw9⟩; rw [hw9]; clear hw9)
          go_ret
          exact ⟨rfl, HBr.out⟩
        · have e1 := vEq_nil' ha
          have e2 := vEq_nil ha
          by_cases hb : vb b.tag = []
          · have f1 : b.tag.toList = [] := by rw [ByteArray.toList_eq]; exact hb
            have f2 : b.tag.toList.isEmpty = true := by rw [f1]; rfl
            have HR : Hid (cmpT (vb a.tag) (vb b.tag) = signI true true) := by
              show _ = _
              unfold cmpT
              rw [hb, if_pos (Or.inr rfl), cmpB_nil ha]
              rfl
            have hsg := HSI.out true true wr
            rw [← HR.out, ← HV2.out] at hsg
            clear ha hb hvb htt
            go_wp2_with (go_at_call 98; refine hsg.mono ?_; rintro e w9 ⟨rfl, hw9⟩; rw [hw9]; clear hw9)
            go_ret
            exact ⟨rfl, HBr.out⟩
          · have f1 := vEq_nil' hb
            have f2 := vEq_nil hb
            have hl := vLess a.tag b.tag
            have HR : Hid (cmpT (vb a.tag) (vb b.tag) = signI (decide (vb a.tag < vb b.tag)) true) := by
              show _ = _
              unfold cmpT cmpB signI
              rw [if_neg (by simp [ha, hb])]
              by_cases h : vb a.tag < vb b.tag
              · rw [if_pos h, decide_eq_true h]; rfl
              · have h2 : vb b.tag < vb a.tag := by
                  by_cases k2 : vb b.tag < vb a.tag
                  · exact k2
                  · exact absurd (lt_or h k2) hvb
                rw [if_neg h, if_pos h2, decide_eq_false h]
                rfl
            have hsg := HSI.out (decide (vb a.tag < vb b.tag)) true wr
            rw [← HR.out, ← HV2.out] at hsg
            generalize decide (vb a.tag < vb b.tag) = bl at *
            clear ha hb hvb htt
            go_wp2_with (go_at_call 98; refine hsg.mono ?_; rintro e w9 ⟨rfl, hw9⟩; rw [hw9]; clear hw9)
            go_ret
            exact ⟨rfl, HBr.out⟩
end Go.Proofs.YtkbhckjpmgkgjaaGreatDoor
