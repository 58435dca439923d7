/- My own work: the law of two paths by walk. -/
import Derived.Test.YtdgilhclhnchbaaDoorLawK9
import Derived.BigFrame
namespace Go.Proofs.YtdgilhclhnchbaaDoor.S2
open Go.RowKit Math

/-- The two digests of sixty-four bytes. -/
def dg (h : Nat → Int) (o i : Nat) : Int := if i < 32 then h (o + i) else 0
theorem dg_past (h : Nat → Int) (o i : Nat) (hi : 32 ≤ i) : dg h o i = 0 := if_neg (by omega)
theorem dg_bd {h : Nat → Int} (hh : ∀ i, 0 ≤ h i ∧ h i < 256) (o i : Nat) : 0 ≤ dg h o i ∧ dg h o i < 256 := by
  unfold dg
  split
  · exact hh _
  · decide
theorem dg_range {w : World} {g : Nat} {h : Nat → Int} {t : TypeId} (hr : Row w g (arr h 64) t) (o : Nat) (ho : o + 32 ≤ 64) : w.rangeAt g o (arr (dg h o) 32).toList := fun j v hv => by
  have hj : j < 32 := by
    have := (List.getElem?_eq_some_iff.1 hv).1
    rw [Array.length_toList, arr_size] at this
    exact this
  rw [hr.cell, arr_at _ _ _ (by omega)]
  rw [Array.getElem?_toList, arr_at _ _ _ hj] at hv
  rw [← Option.some.inj hv]
  unfold dg
  rw [if_pos hj]
theorem same_dg {h : Nat → Int} (hs : same 32 (dg h 0) (dg h 32) = true) : dg h 0 = dg h 32 := by
  funext i
  by_cases hi : i < 32
  · exact (same_iff_all 32 _ _).1 hs i hi
  · rw [dg_past _ _ _ (by omega), dg_past _ _ _ (by omega)]
theorem beq_of {a b : ByteArray} (h : (a.toList == b.toList) = true) : a = b := by
  have e := beq_iff_eq.1 h
  rw [ByteArray.toList_eq, ByteArray.toList_eq] at e
  exact bl_inj e
theorem wpList_load_want {P : Program} {ops : Array Oper} {rest : List Oper} {op : Oper} {a : Act} {w : World} {Q : Exit → Act → World → Prop} (hw : Region.wanted op (yielded ops a.tmps) = true) (ty : TypeId) (x : Operand) (ho : op.op = .load ty x)
    (b o : Nat) (hx : a.eval x = .pointer (some ⟨b, o, none⟩)) (C : Array Value) (hl : (Instr.loadAt ty (.pointer (some ⟨b, o, none⟩))).run P w = .ok (.agg C) w)
    (h : wpList P ops Q rest (a.put op.dst (.agg C)) w) : wpList P ops Q (op :: rest) a w :=
  BigFrame.wpList_want hw fun K hK => by
    unfold Oper.wp execOp
    simp only [ho, hx, hl, Sem.run_bind, Sem.run_pure, Result.andThen_ok]
    exact hK _ _ h
theorem beq_self (a : ByteArray) : (a.toList == a.toList) = true := beq_iff_eq.2 rfl
set_option maxRecDepth 20000 in
set_option maxHeartbeats 4000000 in
theorem law_apart (a0 a1 n0 n1 : ByteArray) (h : Nat → Int) (w : World) (hT : Tab w) (hF : FTab w) (hK : KTab w) (hN : NTab w) (hh : ∀ i, 0 ≤ h i ∧ h i < 256) :
    Calls Tryd.prog 6 #[.agg #[.string a0, .string a1], .agg (arr h 64), .agg #[.string n0, .string n1]] w fun e w' => e = .returned (.bool true) ∧ Below w.heap.size w w' := by
  obtain ⟨D, hD⟩ : ∃ D, D = arr h 64 := ⟨_, rfl⟩
  obtain ⟨A0, hA0⟩ : ∃ A0, A0 = arr (dg h 0) 32 := ⟨_, rfl⟩
  obtain ⟨A1, hA1⟩ : ∃ A1, A1 = arr (dg h 32) 32 := ⟨_, rfl⟩
  obtain ⟨wB, hwB⟩ : ∃ wB, wB = ((w.alloc (.cells #[.string a0, .string a1] 36)).alloc (.cells D 37)).alloc (.cells #[.string n0, .string n1] 36) := ⟨_, rfl⟩
  have hi0 : (Tryd.prog.info? 22).map (·.size) = some A0.toList.length := by rw [Array.length_toList, hA0, arr_size]; kernel_rfl
  have hi1 : (Tryd.prog.info? 22).map (·.size) = some A1.toList.length := by rw [Array.length_toList, hA1, arr_size]; kernel_rfl
  have bB : Below w.heap.size w wB := by
    rw [hwB]
    exact (((Below.refl _ _).alloc (Nat.le_refl _) _).alloc (by simp) _).alloc (by simp; omega) _
  have hsB : w.heap.size + 2 < wB.heap.size := by rw [hwB]; simp
  have rA : Row wB w.heap.size #[.string a0, .string a1] 36 := by rw [hwB]; exact ((Row.new w _ _).alloc _).alloc _
  have rD : Row wB (w.heap.size + 1) D 37 := by
    rw [hwB]
    have e := Row.new (w.alloc (.cells #[.string a0, .string a1] 36)) D 37
    rw [World.size_alloc] at e
    exact e.alloc _
  have rN : Row wB (w.heap.size + 2) #[.string n0, .string n1] 36 := by
    rw [hwB]
    have e := Row.new ((w.alloc (.cells #[.string a0, .string a1] 36)).alloc (.cells D 37)) #[.string n0, .string n1] 36
    rw [World.size_alloc, World.size_alloc] at e
    exact e
  -- what every later world has
  have HS : Hid (∀ wx, Below wB.heap.size wB wx → (wx.cell? ⟨w.heap.size, 0, none⟩ = some (.string a0) ∧ wx.cell? ⟨w.heap.size, 1, none⟩ = some (.string a1) ∧ wx.cell? ⟨w.heap.size + 2, 0, none⟩ = some (.string n0) ∧ wx.cell? ⟨w.heap.size + 2, 1, none⟩ = some (.string n1)) ∧
      (Instr.loadAt 22 (.pointer (some ⟨w.heap.size + 1, 0, none⟩))).run Tryd.prog wx = .ok (.agg A0) wx ∧ (Instr.loadAt 22 (.pointer (some ⟨w.heap.size + 1, 32, none⟩))).run Tryd.prog wx = .ok (.agg A1) wx) := fun wx hb => by
    have xA := rA.below hb rA.lt
    have xN := rN.below hb rN.lt
    have xD := rD.below hb rD.lt
    rw [hD] at xD
    refine ⟨⟨xA.cell 0, xA.cell 1, xN.cell 0, xN.cell 1⟩, ?_, ?_⟩
    · have e := run_loadAt_mid (P := Tryd.prog) wx (w.heap.size + 1) 0 22 A0.toList _ (by rw [hA0]; exact dg_range xD 0 (by omega)) Tryd.underlying22 rfl hi0
      rw [Array.toArray_toList] at e
      exact e
    · have e := run_loadAt_mid (P := Tryd.prog) wx (w.heap.size + 1) 32 22 A1.toList _ (by rw [hA1]; exact dg_range xD 32 (by omega)) Tryd.underlying22 rfl hi1
      rw [Array.toArray_toList] at e
      exact e
  have HM0 : Hid (∀ wx, Below w.heap.size w wx → Calls Tryd.prog 7 #[.string a0, .agg A0, .string n0] wx fun e w' => e = .returned (makeV a0 (dg h 0) n0) ∧ Below wx.heap.size wx w') := fun wx hb => by
    rw [hA0]
    exact make_ok a0 (dg h 0) n0 wx (hT.keep hb) (hF.keep hb) (hK.keep hb) (hN.keep hb) (dg_bd hh 0) (dg_past h 0)
  have HM1 : Hid (∀ wx, Below w.heap.size w wx → Calls Tryd.prog 7 #[.string a1, .agg A1, .string n1] wx fun e w' => e = .returned (makeV a1 (dg h 32) n1) ∧ Below wx.heap.size wx w') := fun wx hb => by
    rw [hA1]
    exact make_ok a1 (dg h 32) n1 wx (hT.keep hb) (hF.keep hb) (hK.keep hb) (hN.keep hb) (dg_bd hh 32) (dg_past h 32)
  have heq : ∀ wx, (Op.equalIn 10000 22 (.agg A0) (.agg A1)).run Tryd.prog wx = .ok (same 32 (dg h 0) (dg h 32)) wx := fun wx => by
    rw [hA0, hA1]
    exact eq_arr (dg h 0) (dg h 32) 22 Tryd.underlying22 wx
  have HT : Hid (Tab w) := hT
  have HN : Hid (NTab w) := hN
  have HwB : Hid _ := hwB
  rw [← hD]
  clear hT hF hK hN hD hA0 hA1 rA rD rN hwB
  obtain ⟨⟨c0, c1, c2, c3⟩, l0, l1⟩ := HS.out wB (Below.refl _ _)
  obtain ⟨x0, y0, e0⟩ := makeV_pair a0 (dg h 0) n0
  obtain ⟨x1, y1, e1⟩ := makeV_pair a1 (dg h 32) n1
  have hM0 := HM0.out wB bB
  cases m0 : mayB a0 n0 with
  | false =>
    rw [makeV_no (dg h 0) m0] at hM0
    cases m1 : mayB a1 n1 with
    | false =>
      have E1 : Hid _ := makeV_no (dg h 32) m1
      clear m0 m1
      go_enter Tryd.func6, Tryd.ntmps6
      have l0x := l0
      have l1x := l1
      rw [HwB.out] at l0x l1x
      go_wp2_with (first | refine wpList_load_want (by rfl) 22 _ rfl (w.heap.size + 1) 0 rfl A0 l0x ?_ | refine wpList_load_want (by rfl) 22 _ rfl (w.heap.size + 1) 32 rfl A1 l1x ?_)
      clear l0x l1x
      rw [← HwB.out]
      refine hM0.mono ?_
      rintro e w1 ⟨rfl, hb1⟩
      have hbB1 := bB.trans (hb1.mono bB.size)
      clear hM0 c0 c1 c2 c3 l0 l1
      obtain ⟨⟨c0, c1, c2, c3⟩, l0, l1⟩ := HS.out w1 hb1
      have hM1 := HM1.out w1 hbB1
      rw [E1.out] at hM1
      go_wp2_with (first | refine wpList_load_want (by rfl) 22 _ rfl (w.heap.size + 1) 0 rfl A0 l0 ?_ | refine wpList_load_want (by rfl) 22 _ rfl (w.heap.size + 1) 32 rfl A1 l1 ?_)
      refine hM1.mono ?_
      rintro e w2 ⟨rfl, hb2⟩
      have hbB2 := hbB1.trans (hb2.mono hbB1.size)
      have hb02 := hb1.trans (hb2.mono hb1.size)
      clear hM1 c0 c1 c2 c3 l0 l1 hb1 hb2 hbB1
      go_wp2
      go_ret
      exact ⟨rfl, hbB2⟩
    | true =>
      have E1 : Hid _ := makeV_yes (dg h 32) m1
      clear m0 m1
      go_enter Tryd.func6, Tryd.ntmps6
      have l0x := l0
      have l1x := l1
      rw [HwB.out] at l0x l1x
      go_wp2_with (first | refine wpList_load_want (by rfl) 22 _ rfl (w.heap.size + 1) 0 rfl A0 l0x ?_ | refine wpList_load_want (by rfl) 22 _ rfl (w.heap.size + 1) 32 rfl A1 l1x ?_)
      clear l0x l1x
      rw [← HwB.out]
      refine hM0.mono ?_
      rintro e w1 ⟨rfl, hb1⟩
      have hbB1 := bB.trans (hb1.mono bB.size)
      clear hM0 c0 c1 c2 c3 l0 l1
      obtain ⟨⟨c0, c1, c2, c3⟩, l0, l1⟩ := HS.out w1 hb1
      have hM1 := HM1.out w1 hbB1
      rw [E1.out] at hM1
      go_wp2_with (first | refine wpList_load_want (by rfl) 22 _ rfl (w.heap.size + 1) 0 rfl A0 l0 ?_ | refine wpList_load_want (by rfl) 22 _ rfl (w.heap.size + 1) 32 rfl A1 l1 ?_)
      refine hM1.mono ?_
      rintro e w2 ⟨rfl, hb2⟩
      have hbB2 := hbB1.trans (hb2.mono hbB1.size)
      have hb02 := hb1.trans (hb2.mono hb1.size)
      clear hM1 c0 c1 c2 c3 l0 l1 hb1 hb2 hbB1
      go_wp2
      go_ret
      exact ⟨rfl, hbB2⟩
  | true =>
    rw [makeV_yes (dg h 0) m0] at hM0
    cases m1 : mayB a1 n1 with
    | false =>
      have E1 : Hid _ := makeV_no (dg h 32) m1
      clear m0 m1
      go_enter Tryd.func6, Tryd.ntmps6
      have l0x := l0
      have l1x := l1
      rw [HwB.out] at l0x l1x
      go_wp2_with (first | refine wpList_load_want (by rfl) 22 _ rfl (w.heap.size + 1) 0 rfl A0 l0x ?_ | refine wpList_load_want (by rfl) 22 _ rfl (w.heap.size + 1) 32 rfl A1 l1x ?_)
      clear l0x l1x
      rw [← HwB.out]
      refine hM0.mono ?_
      rintro e w1 ⟨rfl, hb1⟩
      have hbB1 := bB.trans (hb1.mono bB.size)
      clear hM0 c0 c1 c2 c3 l0 l1
      obtain ⟨⟨c0, c1, c2, c3⟩, l0, l1⟩ := HS.out w1 hb1
      have hM1 := HM1.out w1 hbB1
      rw [E1.out] at hM1
      go_wp2_with (first | refine wpList_load_want (by rfl) 22 _ rfl (w.heap.size + 1) 0 rfl A0 l0 ?_ | refine wpList_load_want (by rfl) 22 _ rfl (w.heap.size + 1) 32 rfl A1 l1 ?_)
      refine hM1.mono ?_
      rintro e w2 ⟨rfl, hb2⟩
      have hbB2 := hbB1.trans (hb2.mono hbB1.size)
      have hb02 := hb1.trans (hb2.mono hb1.size)
      clear hM1 c0 c1 c2 c3 l0 l1 hb1 hb2 hbB1
      go_wp2
      go_ret
      exact ⟨rfl, hbB2⟩
    | true =>
      obtain ⟨P0, hP0⟩ : ∃ P, P = pathE a0 (dg h 0) n0 := ⟨_, rfl⟩
      obtain ⟨P1, hP1⟩ : ∃ P, P = pathE a1 (dg h 32) n1 := ⟨_, rfl⟩
      obtain ⟨G0, hG0⟩ : ∃ S, S = signE' a0 (dg h 0) n0 := ⟨_, rfl⟩
      obtain ⟨G1, hG1⟩ : ∃ S, S = signE' a1 (dg h 32) n1 := ⟨_, rfl⟩
      have f0 := may_facts m0
      have f1 := may_facts m1
      have E1 : Hid (makeV a1 (dg h 32) n1 = .tuple #[.string P1, .int .i64 0]) := by show _ = _; rw [hP1]; exact makeV_yes (dg h 32) m1
      have HV0 : Hid (splitV P0 = .tuple #[.string G0, .string n0, .int .i64 0]) := by show _ = _; rw [hP0, splitV_yes (path_split _ m0), path_signs, path_name, hG0]
      have HV1 : Hid (splitV P1 = .tuple #[.string G1, .string n1, .int .i64 0]) := by show _ = _; rw [hP1, splitV_yes (path_split _ m1), path_signs, path_name, hG1]
      have HP0 : Hid (P0.size ≤ 140737488355328) := by show _ ≤ _; rw [hP0, path_size]; omega
      have HP1 : Hid (P1.size ≤ 140737488355328) := by show _ ≤ _; rw [hP1, path_size]; omega
      have hgs : G0.size = 32 := by rw [hG0, signE_size]
      have HG : Hid (P0 = P1 → G0 = G1) := fun e => by rw [hG0, hG1, ← path_signs, ← path_signs, ← hP0, ← hP1, e]
      have HE : Hid (a0 = a1 → same 32 (dg h 0) (dg h 32) = true → n0 = n1 → P0 = P1) := fun e1 e2 e3 => by rw [hP0, hP1, e1, e3, same_dg e2]
      rw [← hP0] at hM0
      clear m0 m1 hP0 hP1 hG0 hG1 f0 f1
      cases ha : (a0.toList == a1.toList) with
      | false =>
        cases hp : (P0.toList == P1.toList) with
        | false =>
          go_enter Tryd.func6, Tryd.ntmps6
          have l0x := l0
          have l1x := l1
          rw [HwB.out] at l0x l1x
          go_wp2_with (first | refine wpList_load_want (by rfl) 22 _ rfl (w.heap.size + 1) 0 rfl A0 l0x ?_ | refine wpList_load_want (by rfl) 22 _ rfl (w.heap.size + 1) 32 rfl A1 l1x ?_)
          clear l0x l1x
          rw [← HwB.out]
          refine hM0.mono ?_
          rintro e w1 ⟨rfl, hb1⟩
          have hbB1 := bB.trans (hb1.mono bB.size)
          clear hM0 c0 c1 c2 c3 l0 l1
          obtain ⟨⟨c0, c1, c2, c3⟩, l0, l1⟩ := HS.out w1 hb1
          have hM1 := HM1.out w1 hbB1
          rw [E1.out] at hM1
          go_wp2_with (first | refine wpList_load_want (by rfl) 22 _ rfl (w.heap.size + 1) 0 rfl A0 l0 ?_ | refine wpList_load_want (by rfl) 22 _ rfl (w.heap.size + 1) 32 rfl A1 l1 ?_)
          refine hM1.mono ?_
          rintro e w2 ⟨rfl, hb2⟩
          have hbB2 := hbB1.trans (hb2.mono hbB1.size)
          have hb02 := hb1.trans (hb2.mono hb1.size)
          clear hM1 c0 c1 c2 c3 l0 l1 hb1 hb2 hbB1
          have hSp := split_ok P0 w2 HP0.out (Tab.keep HT.out hbB2) (NTab.keep HN.out hbB2)
          rw [HV0.out] at hSp
          go_wp2_with fail
          refine hSp.mono ?_
          rintro e w3 ⟨rfl, hb3⟩
          have hbB3 := hbB2.trans (hb3.mono hbB2.size)
          have hb03 := hb02.trans (hb3.mono hb02.size)
          clear hSp hb3 hb02 hbB2
          have hSp := split_ok P1 w3 HP1.out (Tab.keep HT.out hbB3) (NTab.keep HN.out hbB3)
          rw [HV1.out] at hSp
          go_wp2_with fail
          refine hSp.mono ?_
          rintro e w4 ⟨rfl, hb4⟩
          have hbB4 := hbB3.trans (hb4.mono hbB3.size)
          have hb04 := hb03.trans (hb4.mono hb03.size)
          clear hSp hb4 hb03 hbB3
          obtain ⟨⟨c0, c1, c2, c3⟩, l0, l1⟩ := HS.out w4 hb04
          go_wp2_with (first | refine wpList_load_want (by rfl) 22 _ rfl (w.heap.size + 1) 0 rfl A0 l0 ?_ | refine wpList_load_want (by rfl) 22 _ rfl (w.heap.size + 1) 32 rfl A1 l1 ?_)
          go_ret
          exact ⟨rfl, hbB4⟩
        | true =>
          have hg : (G0.toList == G1.toList) = true := by rw [HG.out (beq_of hp)]; exact beq_self _
          go_enter Tryd.func6, Tryd.ntmps6
          have l0x := l0
          have l1x := l1
          rw [HwB.out] at l0x l1x
          go_wp2_with (first | refine wpList_load_want (by rfl) 22 _ rfl (w.heap.size + 1) 0 rfl A0 l0x ?_ | refine wpList_load_want (by rfl) 22 _ rfl (w.heap.size + 1) 32 rfl A1 l1x ?_)
          clear l0x l1x
          rw [← HwB.out]
          refine hM0.mono ?_
          rintro e w1 ⟨rfl, hb1⟩
          have hbB1 := bB.trans (hb1.mono bB.size)
          clear hM0 c0 c1 c2 c3 l0 l1
          obtain ⟨⟨c0, c1, c2, c3⟩, l0, l1⟩ := HS.out w1 hb1
          have hM1 := HM1.out w1 hbB1
          rw [E1.out] at hM1
          go_wp2_with (first | refine wpList_load_want (by rfl) 22 _ rfl (w.heap.size + 1) 0 rfl A0 l0 ?_ | refine wpList_load_want (by rfl) 22 _ rfl (w.heap.size + 1) 32 rfl A1 l1 ?_)
          refine hM1.mono ?_
          rintro e w2 ⟨rfl, hb2⟩
          have hbB2 := hbB1.trans (hb2.mono hbB1.size)
          have hb02 := hb1.trans (hb2.mono hb1.size)
          clear hM1 c0 c1 c2 c3 l0 l1 hb1 hb2 hbB1
          have hSp := split_ok P0 w2 HP0.out (Tab.keep HT.out hbB2) (NTab.keep HN.out hbB2)
          rw [HV0.out] at hSp
          go_wp2_with fail
          refine hSp.mono ?_
          rintro e w3 ⟨rfl, hb3⟩
          have hbB3 := hbB2.trans (hb3.mono hbB2.size)
          have hb03 := hb02.trans (hb3.mono hb02.size)
          clear hSp hb3 hb02 hbB2
          have hSp := split_ok P1 w3 HP1.out (Tab.keep HT.out hbB3) (NTab.keep HN.out hbB3)
          rw [HV1.out] at hSp
          go_wp2_with fail
          refine hSp.mono ?_
          rintro e w4 ⟨rfl, hb4⟩
          have hbB4 := hbB3.trans (hb4.mono hbB3.size)
          have hb04 := hb03.trans (hb4.mono hb03.size)
          clear hSp hb4 hb03 hbB3
          obtain ⟨⟨c0, c1, c2, c3⟩, l0, l1⟩ := HS.out w4 hb04
          go_wp2_with (first | refine wpList_load_want (by rfl) 22 _ rfl (w.heap.size + 1) 0 rfl A0 l0 ?_ | refine wpList_load_want (by rfl) 22 _ rfl (w.heap.size + 1) 32 rfl A1 l1 ?_)
          go_ret
          exact ⟨rfl, hbB4⟩
      | true =>
        cases hs : same 32 (dg h 0) (dg h 32) with
        | false =>
          simp only [hs] at heq
          cases hp : (P0.toList == P1.toList) with
          | false =>
            go_enter Tryd.func6, Tryd.ntmps6
            have l0x := l0
            have l1x := l1
            rw [HwB.out] at l0x l1x
            go_wp2_with (first | refine wpList_load_want (by rfl) 22 _ rfl (w.heap.size + 1) 0 rfl A0 l0x ?_ | refine wpList_load_want (by rfl) 22 _ rfl (w.heap.size + 1) 32 rfl A1 l1x ?_)
            clear l0x l1x
            rw [← HwB.out]
            refine hM0.mono ?_
            rintro e w1 ⟨rfl, hb1⟩
            have hbB1 := bB.trans (hb1.mono bB.size)
            clear hM0 c0 c1 c2 c3 l0 l1
            obtain ⟨⟨c0, c1, c2, c3⟩, l0, l1⟩ := HS.out w1 hb1
            have hM1 := HM1.out w1 hbB1
            rw [E1.out] at hM1
            go_wp2_with (first | refine wpList_load_want (by rfl) 22 _ rfl (w.heap.size + 1) 0 rfl A0 l0 ?_ | refine wpList_load_want (by rfl) 22 _ rfl (w.heap.size + 1) 32 rfl A1 l1 ?_)
            refine hM1.mono ?_
            rintro e w2 ⟨rfl, hb2⟩
            have hbB2 := hbB1.trans (hb2.mono hbB1.size)
            have hb02 := hb1.trans (hb2.mono hb1.size)
            clear hM1 c0 c1 c2 c3 l0 l1 hb1 hb2 hbB1
            have hSp := split_ok P0 w2 HP0.out (Tab.keep HT.out hbB2) (NTab.keep HN.out hbB2)
            rw [HV0.out] at hSp
            go_wp2_with fail
            refine hSp.mono ?_
            rintro e w3 ⟨rfl, hb3⟩
            have hbB3 := hbB2.trans (hb3.mono hbB2.size)
            have hb03 := hb02.trans (hb3.mono hb02.size)
            clear hSp hb3 hb02 hbB2
            have hSp := split_ok P1 w3 HP1.out (Tab.keep HT.out hbB3) (NTab.keep HN.out hbB3)
            rw [HV1.out] at hSp
            go_wp2_with fail
            refine hSp.mono ?_
            rintro e w4 ⟨rfl, hb4⟩
            have hbB4 := hbB3.trans (hb4.mono hbB3.size)
            have hb04 := hb03.trans (hb4.mono hb03.size)
            clear hSp hb4 hb03 hbB3
            obtain ⟨⟨c0, c1, c2, c3⟩, l0, l1⟩ := HS.out w4 hb04
            go_wp2_with (first | refine wpList_load_want (by rfl) 22 _ rfl (w.heap.size + 1) 0 rfl A0 l0 ?_ | refine wpList_load_want (by rfl) 22 _ rfl (w.heap.size + 1) 32 rfl A1 l1 ?_)
            go_ret
            exact ⟨rfl, hbB4⟩
          | true =>
            have hg : (G0.toList == G1.toList) = true := by rw [HG.out (beq_of hp)]; exact beq_self _
            go_enter Tryd.func6, Tryd.ntmps6
            have l0x := l0
            have l1x := l1
            rw [HwB.out] at l0x l1x
            go_wp2_with (first | refine wpList_load_want (by rfl) 22 _ rfl (w.heap.size + 1) 0 rfl A0 l0x ?_ | refine wpList_load_want (by rfl) 22 _ rfl (w.heap.size + 1) 32 rfl A1 l1x ?_)
            clear l0x l1x
            rw [← HwB.out]
            refine hM0.mono ?_
            rintro e w1 ⟨rfl, hb1⟩
            have hbB1 := bB.trans (hb1.mono bB.size)
            clear hM0 c0 c1 c2 c3 l0 l1
            obtain ⟨⟨c0, c1, c2, c3⟩, l0, l1⟩ := HS.out w1 hb1
            have hM1 := HM1.out w1 hbB1
            rw [E1.out] at hM1
            go_wp2_with (first | refine wpList_load_want (by rfl) 22 _ rfl (w.heap.size + 1) 0 rfl A0 l0 ?_ | refine wpList_load_want (by rfl) 22 _ rfl (w.heap.size + 1) 32 rfl A1 l1 ?_)
            refine hM1.mono ?_
            rintro e w2 ⟨rfl, hb2⟩
            have hbB2 := hbB1.trans (hb2.mono hbB1.size)
            have hb02 := hb1.trans (hb2.mono hb1.size)
            clear hM1 c0 c1 c2 c3 l0 l1 hb1 hb2 hbB1
            have hSp := split_ok P0 w2 HP0.out (Tab.keep HT.out hbB2) (NTab.keep HN.out hbB2)
            rw [HV0.out] at hSp
            go_wp2_with fail
            refine hSp.mono ?_
            rintro e w3 ⟨rfl, hb3⟩
            have hbB3 := hbB2.trans (hb3.mono hbB2.size)
            have hb03 := hb02.trans (hb3.mono hb02.size)
            clear hSp hb3 hb02 hbB2
            have hSp := split_ok P1 w3 HP1.out (Tab.keep HT.out hbB3) (NTab.keep HN.out hbB3)
            rw [HV1.out] at hSp
            go_wp2_with fail
            refine hSp.mono ?_
            rintro e w4 ⟨rfl, hb4⟩
            have hbB4 := hbB3.trans (hb4.mono hbB3.size)
            have hb04 := hb03.trans (hb4.mono hb03.size)
            clear hSp hb4 hb03 hbB3
            obtain ⟨⟨c0, c1, c2, c3⟩, l0, l1⟩ := HS.out w4 hb04
            go_wp2_with (first | refine wpList_load_want (by rfl) 22 _ rfl (w.heap.size + 1) 0 rfl A0 l0 ?_ | refine wpList_load_want (by rfl) 22 _ rfl (w.heap.size + 1) 32 rfl A1 l1 ?_)
            go_ret
            exact ⟨rfl, hbB4⟩
        | true =>
          cases hn : (n0.toList == n1.toList) with
          | false =>
            simp only [hs] at heq
            cases hp : (P0.toList == P1.toList) with
            | false =>
              go_enter Tryd.func6, Tryd.ntmps6
              have l0x := l0
              have l1x := l1
              rw [HwB.out] at l0x l1x
              go_wp2_with (first | refine wpList_load_want (by rfl) 22 _ rfl (w.heap.size + 1) 0 rfl A0 l0x ?_ | refine wpList_load_want (by rfl) 22 _ rfl (w.heap.size + 1) 32 rfl A1 l1x ?_)
              clear l0x l1x
              rw [← HwB.out]
              refine hM0.mono ?_
              rintro e w1 ⟨rfl, hb1⟩
              have hbB1 := bB.trans (hb1.mono bB.size)
              clear hM0 c0 c1 c2 c3 l0 l1
              obtain ⟨⟨c0, c1, c2, c3⟩, l0, l1⟩ := HS.out w1 hb1
              have hM1 := HM1.out w1 hbB1
              rw [E1.out] at hM1
              go_wp2_with (first | refine wpList_load_want (by rfl) 22 _ rfl (w.heap.size + 1) 0 rfl A0 l0 ?_ | refine wpList_load_want (by rfl) 22 _ rfl (w.heap.size + 1) 32 rfl A1 l1 ?_)
              refine hM1.mono ?_
              rintro e w2 ⟨rfl, hb2⟩
              have hbB2 := hbB1.trans (hb2.mono hbB1.size)
              have hb02 := hb1.trans (hb2.mono hb1.size)
              clear hM1 c0 c1 c2 c3 l0 l1 hb1 hb2 hbB1
              have hSp := split_ok P0 w2 HP0.out (Tab.keep HT.out hbB2) (NTab.keep HN.out hbB2)
              rw [HV0.out] at hSp
              go_wp2_with fail
              refine hSp.mono ?_
              rintro e w3 ⟨rfl, hb3⟩
              have hbB3 := hbB2.trans (hb3.mono hbB2.size)
              have hb03 := hb02.trans (hb3.mono hb02.size)
              clear hSp hb3 hb02 hbB2
              have hSp := split_ok P1 w3 HP1.out (Tab.keep HT.out hbB3) (NTab.keep HN.out hbB3)
              rw [HV1.out] at hSp
              go_wp2_with fail
              refine hSp.mono ?_
              rintro e w4 ⟨rfl, hb4⟩
              have hbB4 := hbB3.trans (hb4.mono hbB3.size)
              have hb04 := hb03.trans (hb4.mono hb03.size)
              clear hSp hb4 hb03 hbB3
              obtain ⟨⟨c0, c1, c2, c3⟩, l0, l1⟩ := HS.out w4 hb04
              go_wp2_with (first | refine wpList_load_want (by rfl) 22 _ rfl (w.heap.size + 1) 0 rfl A0 l0 ?_ | refine wpList_load_want (by rfl) 22 _ rfl (w.heap.size + 1) 32 rfl A1 l1 ?_)
              go_ret
              exact ⟨rfl, hbB4⟩
            | true =>
              have hg : (G0.toList == G1.toList) = true := by rw [HG.out (beq_of hp)]; exact beq_self _
              go_enter Tryd.func6, Tryd.ntmps6
              have l0x := l0
              have l1x := l1
              rw [HwB.out] at l0x l1x
              go_wp2_with (first | refine wpList_load_want (by rfl) 22 _ rfl (w.heap.size + 1) 0 rfl A0 l0x ?_ | refine wpList_load_want (by rfl) 22 _ rfl (w.heap.size + 1) 32 rfl A1 l1x ?_)
              clear l0x l1x
              rw [← HwB.out]
              refine hM0.mono ?_
              rintro e w1 ⟨rfl, hb1⟩
              have hbB1 := bB.trans (hb1.mono bB.size)
              clear hM0 c0 c1 c2 c3 l0 l1
              obtain ⟨⟨c0, c1, c2, c3⟩, l0, l1⟩ := HS.out w1 hb1
              have hM1 := HM1.out w1 hbB1
              rw [E1.out] at hM1
              go_wp2_with (first | refine wpList_load_want (by rfl) 22 _ rfl (w.heap.size + 1) 0 rfl A0 l0 ?_ | refine wpList_load_want (by rfl) 22 _ rfl (w.heap.size + 1) 32 rfl A1 l1 ?_)
              refine hM1.mono ?_
              rintro e w2 ⟨rfl, hb2⟩
              have hbB2 := hbB1.trans (hb2.mono hbB1.size)
              have hb02 := hb1.trans (hb2.mono hb1.size)
              clear hM1 c0 c1 c2 c3 l0 l1 hb1 hb2 hbB1
              have hSp := split_ok P0 w2 HP0.out (Tab.keep HT.out hbB2) (NTab.keep HN.out hbB2)
              rw [HV0.out] at hSp
              go_wp2_with fail
              refine hSp.mono ?_
              rintro e w3 ⟨rfl, hb3⟩
              have hbB3 := hbB2.trans (hb3.mono hbB2.size)
              have hb03 := hb02.trans (hb3.mono hb02.size)
              clear hSp hb3 hb02 hbB2
              have hSp := split_ok P1 w3 HP1.out (Tab.keep HT.out hbB3) (NTab.keep HN.out hbB3)
              rw [HV1.out] at hSp
              go_wp2_with fail
              refine hSp.mono ?_
              rintro e w4 ⟨rfl, hb4⟩
              have hbB4 := hbB3.trans (hb4.mono hbB3.size)
              have hb04 := hb03.trans (hb4.mono hb03.size)
              clear hSp hb4 hb03 hbB3
              obtain ⟨⟨c0, c1, c2, c3⟩, l0, l1⟩ := HS.out w4 hb04
              go_wp2_with (first | refine wpList_load_want (by rfl) 22 _ rfl (w.heap.size + 1) 0 rfl A0 l0 ?_ | refine wpList_load_want (by rfl) 22 _ rfl (w.heap.size + 1) 32 rfl A1 l1 ?_)
              go_ret
              exact ⟨rfl, hbB4⟩
          | true =>
            have hp : (P0.toList == P1.toList) = true := by rw [HE.out (beq_of ha) hs (beq_of hn)]; exact beq_self _
            simp only [hs] at heq
            go_enter Tryd.func6, Tryd.ntmps6
            have l0x := l0
            have l1x := l1
            rw [HwB.out] at l0x l1x
            go_wp2_with (first | refine wpList_load_want (by rfl) 22 _ rfl (w.heap.size + 1) 0 rfl A0 l0x ?_ | refine wpList_load_want (by rfl) 22 _ rfl (w.heap.size + 1) 32 rfl A1 l1x ?_)
            clear l0x l1x
            rw [← HwB.out]
            refine hM0.mono ?_
            rintro e w1 ⟨rfl, hb1⟩
            have hbB1 := bB.trans (hb1.mono bB.size)
            clear hM0 c0 c1 c2 c3 l0 l1
            obtain ⟨⟨c0, c1, c2, c3⟩, l0, l1⟩ := HS.out w1 hb1
            have hM1 := HM1.out w1 hbB1
            rw [E1.out] at hM1
            go_wp2_with (first | refine wpList_load_want (by rfl) 22 _ rfl (w.heap.size + 1) 0 rfl A0 l0 ?_ | refine wpList_load_want (by rfl) 22 _ rfl (w.heap.size + 1) 32 rfl A1 l1 ?_)
            refine hM1.mono ?_
            rintro e w2 ⟨rfl, hb2⟩
            have hbB2 := hbB1.trans (hb2.mono hbB1.size)
            have hb02 := hb1.trans (hb2.mono hb1.size)
            clear hM1 c0 c1 c2 c3 l0 l1 hb1 hb2 hbB1
            have hSp := split_ok P0 w2 HP0.out (Tab.keep HT.out hbB2) (NTab.keep HN.out hbB2)
            rw [HV0.out] at hSp
            go_wp2_with fail
            refine hSp.mono ?_
            rintro e w3 ⟨rfl, hb3⟩
            have hbB3 := hbB2.trans (hb3.mono hbB2.size)
            have hb03 := hb02.trans (hb3.mono hb02.size)
            clear hSp hb3 hb02 hbB2
            have hSp := split_ok P1 w3 HP1.out (Tab.keep HT.out hbB3) (NTab.keep HN.out hbB3)
            rw [HV1.out] at hSp
            go_wp2_with fail
            refine hSp.mono ?_
            rintro e w4 ⟨rfl, hb4⟩
            have hbB4 := hbB3.trans (hb4.mono hbB3.size)
            have hb04 := hb03.trans (hb4.mono hb03.size)
            clear hSp hb4 hb03 hbB3
            obtain ⟨⟨c0, c1, c2, c3⟩, l0, l1⟩ := HS.out w4 hb04
            go_wp2_with (first | refine wpList_load_want (by rfl) 22 _ rfl (w.heap.size + 1) 0 rfl A0 l0 ?_ | refine wpList_load_want (by rfl) 22 _ rfl (w.heap.size + 1) 32 rfl A1 l1 ?_)
            go_ret
            exact ⟨rfl, hbB4⟩
end Go.Proofs.YtdgilhclhnchbaaDoor.S2
