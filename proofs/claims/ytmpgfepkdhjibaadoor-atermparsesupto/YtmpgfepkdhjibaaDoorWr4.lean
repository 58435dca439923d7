/- My own work: the walks of putParted and putList, for pairs. -/
import Derived.Test.YtmpgfepkdhjibaaDoorWr2
namespace Go.Proofs.YtmpgfepkdhjibaaDoor
open Go.RowKit

set_option maxRecDepth 20000 in
set_option maxHeartbeats 2000000 in
theorem pairParted_ok (l : List (ByteArray × ByteArray)) (g : Nat) (T : List UInt8) (v : Value) (w : World) (h : Wr w g T) (HSl : ∀ w', Fr g w w' → SlAt w' v l.length (pairV l))
    (HF : ∀ i (hi : i < l.length) T' wx, Fr g w wx → Wr wx g T' → Calls Tryd.prog 40 #[.pointer (some ⟨g, 0, none⟩), .agg #[Value.string l[i].1, Value.string l[i].2]] wx fun e w' => (∃ v, e = .returned v) ∧ Wr w' g (T' ++ pairE l[i]) ∧ Fr g wx w') :
    Calls Tryd.prog 58 #[.pointer (some ⟨g, 0, none⟩), v, .func (.func 40) #[.pointer (some ⟨g, 0, none⟩)] #[]] w fun e w' => (∃ v, e = .returned v) ∧ Wr w' g (T ++ sepU (l.map pairE)) ∧ Fr g w w' := by
  obtain ⟨a, c, b, off, rfl, hc1, hc2, hat, hcell⟩ := (HSl w (Fr.refl _ _)).ex
  have HFN : Hid _ := HF
  have HW : Hid (Wr w g T) := h
  by_cases hl : l = []
  · subst hl
    have HT : Hid (T ++ sepU (List.map pairE []) = T) := by show _ = _; simp [sepU]
    clear hcell hat HSl HF h
    go_enter Tryd.func58, Tryd.ntmps58
    go_wp2
    refine wp_loop_rounds 1 ?_
    rw [rounds_succ]
    go_wp2
    go_end0
    exact ⟨⟨_, rfl⟩, by rw [HT.out]; exact HW.out, Fr.refl _ _⟩
  have hpos : 0 < l.length := List.length_pos_iff.2 hl
  obtain rfl := hat (by intro e; have := pairV_len l; rw [e] at this; simp at this; omega)
  have HCell : Hid (∀ wx, Fr g w wx → ∀ i (hi : i < l.length), wx.cell? ⟨b, off + i * 2, none⟩ = some (Value.string l[i].1) ∧ wx.cell? ⟨b, off + i * 2 + 1, none⟩ = some (Value.string l[i].2)) := fun wx hb i hi => by
    have h3 := pairV_at l i hi
    obtain ⟨a', c', b', off', e1, _, _, hat', hcell'⟩ := (HSl wx hb).ex
    simp only [Value.slice.injEq] at e1
    have hne : (pairV l) ≠ [] := by intro e; have := pairV_len l; rw [e] at this; simp at this; omega
    have e2 := e1.1.trans (hat' hne)
    simp only [Option.some.injEq, Addr.mk.injEq, and_true] at e2
    obtain ⟨rfl, rfl⟩ := e2
    have kk : ∀ j x, (pairV l)[j]? = some x → wx.cell? ⟨b, off + j, none⟩ = some x := hcell'
    simp only [Nat.mul_comm i 2, Nat.add_assoc]
    exact ⟨kk _ _ h3.1, kk _ _ h3.2⟩
  clear hcell hat HSl HF h
  go_enter Tryd.func58, Tryd.ntmps58
  go_wp2
  go_loopw [10] (fun iv wx => ∃ (i : Nat), iv = .int .i64 i ∧ i ≤ l.length ∧ Hid (Wr wx g (T ++ sepU ((l.map pairE).take i))) ∧ Hid (Fr g w wx)) (fun iv _ => l.length - (intOf iv).toNat)
  case atStart => exact ⟨0, rfl, by omega, by show Wr _ _ _; simpa [sepU] using HW.out, Fr.refl _ _⟩
  case round =>
    obtain ⟨i, rfl, hi1, HWr, HFr⟩ := hrel
    by_cases hlt : i < l.length
    · have hlt' : (i : Int) < (l.length : Int) := by omega
      obtain ⟨e0, e1⟩ := HCell.out _ HFr.out i hlt
      have HFi : Hid _ := HFN.out i hlt
      have hbA : Below wr.heap.size wr (wr.alloc (.cells #[Value.string l[i].1, Value.string l[i].2] 60)) := below_new (Below.refl _ _) _
      have hWA : Wr (wr.alloc (.cells #[Value.string l[i].1, Value.string l[i].2] 60)) g (T ++ sepU ((l.map pairE).take i)) := HWr.out.keep hbA
      have hgl := Nat.le_of_lt HWr.out.lt
      have HFA : Hid (Fr g w (wr.alloc (.cells #[Value.string l[i].1, Value.string l[i].2] 60))) := HFr.out.trans (Fr.of hbA hgl)
      have hRA : Row (wr.alloc (.cells #[Value.string l[i].1, Value.string l[i].2] 60)) wr.heap.size #[Value.string l[i].1, Value.string l[i].2] 60 := Row.new wr _ _
      have HS : Hid (sepU ((l.map pairE).take (i + 1)) = sepU ((l.map pairE).take i) ++ (if i = 0 then [] else [44]) ++ pairE l[i]) := by
        show _ = _
        rw [sepU_take _ i (by simpa using hlt), List.getElem_map]
      have HWA : Hid _ := hWA
      have HRA : Hid _ := hRA
      clear hWA hRA hbA HWr
      by_cases h0 : i = 0
      · have h0' : ¬ ((0 : Int) < (i : Int)) := by omega
        have HC := HFi.out _ _ HFA.out HWA.out
        have hs0 : (if i = 0 then ([] : List UInt8) else [44]) = [] := if_pos h0
        rw [hs0, List.append_nil] at HS
        clear h0 hs0
        go_wp2_with fail
        refine Calls.mono HC ?_
        rintro e w3 ⟨⟨v3, rfl⟩, hw3, hf3⟩
        have HW3 : Hid (Wr w3 g (T ++ sepU ((l.map pairE).take (i + 1)))) := by show Wr _ _ _; rw [HS.out, ← List.append_assoc]; exact hw3
        have HF3 : Hid (Fr g w w3) := HFA.out.trans hf3
        clear hw3 hf3 HC HWA HRA HFA
        go_wp2
        go_roundw
        case rel => exact ⟨i + 1, by go_num, by omega, HW3, HF3⟩
        case measure => simp [intOf]; omega
      · have h0' : ((0 : Int) < (i : Int)) := by omega
        have HPC := put_ok g _ ⟨#[44]⟩ _ HWA.out
        have hs0 : (if i = 0 then ([] : List UInt8) else [44]) = [44] := if_neg h0
        rw [hs0] at HS
        clear h0 hs0
        go_wp2_with fail
        refine Calls.mono HPC ?_
        rintro e w2 ⟨⟨v2, rfl⟩, hw2, hf2⟩
        have hR2 : Row w2 wr.heap.size #[Value.string l[i].1, Value.string l[i].2] 60 := hf2.rows _ _ _ HRA.out (by decide) (by decide)
        have f0 := (hR2.cell 0).trans (rfl : _ = some (Value.string l[i].1))
        have f1 := (hR2.cell 1).trans (rfl : _ = some (Value.string l[i].2))
        have HF2 : Hid (Fr g w w2) := HFA.out.trans hf2
        have HC := HFi.out _ _ HF2.out hw2
        clear hw2 hf2 HPC HWA HRA HFA hR2
        go_wp2_with fail
        refine Calls.mono HC ?_
        rintro e w3 ⟨⟨v3, rfl⟩, hw3, hf3⟩
        have HW3 : Hid (Wr w3 g (T ++ sepU ((l.map pairE).take (i + 1)))) := by
          show Wr _ _ _
          rw [HS.out, ← List.append_assoc, ← List.append_assoc]
          exact hw3
        have HF3 : Hid (Fr g w w3) := HF2.out.trans hf3
        clear hw3 hf3 HC HF2
        go_wp2
        go_roundw
        case rel => exact ⟨i + 1, by go_num, by omega, HW3, HF3⟩
        case measure => simp [intOf]; omega
    · have hlt' : ¬ (i : Int) < (l.length : Int) := by omega
      have HW3 : Hid (Wr wr g (T ++ sepU (l.map pairE))) := by
        show Wr _ _ _
        have := HWr.out
        rwa [List.take_of_length_le (by simp; omega)] at this
      clear HWr
      go_wp2
      go_end0
      exact ⟨⟨_, rfl⟩, HW3.out, HFr.out⟩
set_option maxRecDepth 20000 in
set_option maxHeartbeats 2000000 in
theorem pairList_ok (l : List (ByteArray × ByteArray)) (g : Nat) (T : List UInt8) (v : Value) (w : World) (h : Wr w g T) (HSl : ∀ w', Fr g w w' → SlAt w' v l.length (pairV l))
    (HF : ∀ i (hi : i < l.length) T' wx, Fr g w wx → Wr wx g T' → Calls Tryd.prog 40 #[.pointer (some ⟨g, 0, none⟩), .agg #[Value.string l[i].1, Value.string l[i].2]] wx fun e w' => (∃ v, e = .returned v) ∧ Wr w' g (T' ++ pairE l[i]) ∧ Fr g wx w') :
    Calls Tryd.prog 39 #[.pointer (some ⟨g, 0, none⟩), v, .func (.func 40) #[.pointer (some ⟨g, 0, none⟩)] #[]] w fun e w' => (∃ v, e = .returned v) ∧ Wr w' g (T ++ listU (l.map pairE)) ∧ Fr g w w' := by
  obtain ⟨a, c, rfl, _⟩ := (HSl w (Fr.refl _ _)).shape
  have HS : Hid _ := HSl
  have HFN : Hid _ := HF
  have HP := put_ok g T ⟨#[91]⟩ w h
  clear HSl HF h
  go_enter Tryd.func39, Tryd.ntmps39
  go_wp2_with fail
  refine Calls.mono HP ?_
  rintro e w1 ⟨⟨v1, rfl⟩, hw1, hf1⟩
  have HC := pairParted_ok l g _ _ w1 hw1 (fun w' hf => HS.out w' (hf1.trans hf)) (fun i hi T' wx hf hw => HFN.out i hi T' wx (hf1.trans hf) hw)
  have HF1 : Hid (Fr g w w1) := hf1
  clear hw1 hf1 HP
  go_wp2_with fail
  refine Calls.mono HC ?_
  rintro e w2 ⟨⟨v2, rfl⟩, hw2, hf2⟩
  have HP2 := put_ok g _ ⟨#[93]⟩ w2 hw2
  have HF2 : Hid (Fr g w w2) := HF1.out.trans hf2
  clear hw2 hf2 HC
  go_wp2_with fail
  refine Calls.mono HP2 ?_
  rintro e w3 ⟨⟨v3, rfl⟩, hw3, hf3⟩
  have HW3 : Hid (Wr w3 g (T ++ listU (l.map pairE))) := by
    show Wr _ _ _
    unfold listU
    simp only [bl, List.append_assoc, List.cons_append, List.nil_append] at hw3 ⊢
    exact hw3
  have HF3 : Hid (Fr g w w3) := HF2.out.trans hf3
  clear hw3 hf3 HP2
  go_wp2
  go_end0
  exact ⟨⟨_, rfl⟩, HW3.out, HF3.out⟩
end Go.Proofs.YtmpgfepkdhjibaaDoor
