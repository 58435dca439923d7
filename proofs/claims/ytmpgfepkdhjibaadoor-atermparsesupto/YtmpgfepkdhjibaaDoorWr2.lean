/- My own work: the walks of putParted and putList, for texts. -/
import Derived.Test.YtmpgfepkdhjibaaDoorWr
namespace Go.Proofs.YtmpgfepkdhjibaaDoor
open Go.RowKit

/-- Pieces with commas between. -/
def sepU : List (List UInt8) → List UInt8
  | [] => []
  | x :: xs => x ++ xs.flatMap (fun y => 44 :: y)
/-- A list. -/
def listU (l : List (List UInt8)) : List UInt8 := 91 :: sepU l ++ [93]
theorem sepU_take (l : List (List UInt8)) (i : Nat) (h : i < l.length) : sepU (l.take (i + 1)) = sepU (l.take i) ++ (if i = 0 then [] else [44]) ++ l[i] := by
  match l, i, h with
  | x :: xs, 0, _ => simp [sepU]
  | x :: xs, i + 1, h =>
    have h' : i < xs.length := by simpa using h
    rw [List.take_succ_cons, List.take_succ_cons, if_neg (by omega)]
    simp only [sepU, List.getElem_cons_succ]
    rw [List.take_succ_eq_append_getElem h', List.flatMap_append]
    simp only [List.flatMap_cons, List.flatMap_nil, List.append_nil, List.append_assoc, List.cons_append, List.nil_append]
/-- What is written of a text, an output, an input, a pair. -/
def strE (s : ByteArray) : List UInt8 := quoteU (bl s)
def outE (o : ByteArray × ByteArray × ByteArray) : List UInt8 := 40 :: sepU [strE o.1, strE o.2.1, strE o.2.2] ++ [41]
def pairE (o : ByteArray × ByteArray) : List UInt8 := 40 :: sepU [strE o.1, strE o.2] ++ [41]
def inE (o : ByteArray × List ByteArray) : List UInt8 := 40 :: strE o.1 ++ [44] ++ listU (o.2.map strE) ++ [41]
set_option maxRecDepth 20000 in
set_option maxHeartbeats 2000000 in
theorem strParted_ok (l : List ByteArray) (g : Nat) (T : List UInt8) (v : Value) (w : World) (h : Wr w g T) (HSl : ∀ w', Fr g w w' → SlAt w' v l.length (strV l))
    (HF : ∀ i (hi : i < l.length) T' wx, Fr g w wx → Wr wx g T' → Calls Tryd.prog 38 #[.pointer (some ⟨g, 0, none⟩), Value.string l[i]] wx fun e w' => (∃ v, e = .returned v) ∧ Wr w' g (T' ++ strE l[i]) ∧ Fr g wx w') :
    Calls Tryd.prog 56 #[.pointer (some ⟨g, 0, none⟩), v, .func (.func 38) #[.pointer (some ⟨g, 0, none⟩)] #[]] w fun e w' => (∃ v, e = .returned v) ∧ Wr w' g (T ++ sepU (l.map strE)) ∧ Fr g w w' := by
  obtain ⟨a, c, b, off, rfl, hc1, hc2, hat, hcell⟩ := (HSl w (Fr.refl _ _)).ex
  have HFN : Hid _ := HF
  have HW : Hid (Wr w g T) := h
  by_cases hl : l = []
  · subst hl
    have HT : Hid (T ++ sepU (List.map strE []) = T) := by show _ = _; simp [sepU]
    clear hcell hat HSl HF h
    go_enter Tryd.func56, Tryd.ntmps56
    go_wp2
    refine wp_loop_rounds 1 ?_
    rw [rounds_succ]
    go_wp2
    go_end0
    exact ⟨⟨_, rfl⟩, by rw [HT.out]; exact HW.out, Fr.refl _ _⟩
  have hpos : 0 < l.length := List.length_pos_iff.2 hl
  obtain rfl := hat (by intro e; have := strV_len l; rw [e] at this; simp at this; omega)
  have HCell : Hid (∀ wx, Fr g w wx → ∀ i (hi : i < l.length), wx.cell? ⟨b, off + i, none⟩ = some (Value.string l[i])) := fun wx hb i hi => by
    have h3 := strV_at l i hi
    obtain ⟨a', c', b', off', e1, _, _, hat', hcell'⟩ := (HSl wx hb).ex
    simp only [Value.slice.injEq] at e1
    have hne : (strV l) ≠ [] := by intro e; have := strV_len l; rw [e] at this; simp at this; omega
    have e2 := e1.1.trans (hat' hne)
    simp only [Option.some.injEq, Addr.mk.injEq, and_true] at e2
    obtain ⟨rfl, rfl⟩ := e2
    have kk : ∀ j x, (strV l)[j]? = some x → wx.cell? ⟨b, off + j, none⟩ = some x := hcell'
    exact kk _ _ h3
  clear hcell hat HSl HF h
  go_enter Tryd.func56, Tryd.ntmps56
  go_wp2
  go_loopw [10] (fun iv wx => ∃ (i : Nat), iv = .int .i64 i ∧ i ≤ l.length ∧ Hid (Wr wx g (T ++ sepU ((l.map strE).take i))) ∧ Hid (Fr g w wx)) (fun iv _ => l.length - (intOf iv).toNat)
  case atStart => exact ⟨0, rfl, by omega, by show Wr _ _ _; simpa [sepU] using HW.out, Fr.refl _ _⟩
  case round =>
    obtain ⟨i, rfl, hi1, HWr, HFr⟩ := hrel
    by_cases hlt : i < l.length
    · have hlt' : (i : Int) < (l.length : Int) := by omega
      obtain e0 := HCell.out _ HFr.out i hlt
      have HFi : Hid _ := HFN.out i hlt
      have HFA : Hid (Fr g w wr) := HFr
      have HWA : Hid (Wr wr g (T ++ sepU ((l.map strE).take i))) := HWr
      have HS : Hid (sepU ((l.map strE).take (i + 1)) = sepU ((l.map strE).take i) ++ (if i = 0 then [] else [44]) ++ strE l[i]) := by
        show _ = _
        rw [sepU_take _ i (by simpa using hlt), List.getElem_map]
      clear HWr
      by_cases h0 : i = 0
      · have h0' : ¬ ((0 : Int) < (i : Int)) := by omega
        have HC := HFi.out _ _ HFA.out HWA.out
        have hs0 : (if i = 0 then ([] : List UInt8) else [44]) = [] := if_pos h0
        rw [hs0, List.append_nil] at HS
        clear h0 hs0
        go_wp2_with fail
        refine Calls.mono HC ?_
        rintro e w3 ⟨⟨v3, rfl⟩, hw3, hf3⟩
        have HW3 : Hid (Wr w3 g (T ++ sepU ((l.map strE).take (i + 1)))) := by show Wr _ _ _; rw [HS.out, ← List.append_assoc]; exact hw3
        have HF3 : Hid (Fr g w w3) := HFA.out.trans hf3
        clear hw3 hf3 HC HWA HFA
        go_wp2
        go_roundw
        case rel => exact ⟨i + 1, by go_num, by omega, HW3, HF3⟩
        case measure => simp [intOf]; omega
      · have h0' : ((0 : Int) < (i : Int)) := by omega
        have HPC := put_ok g _ ⟨#[44]⟩ _ HWA.out
        have hs0 : (if i = 0 then ([] : List UInt8) else [44]) = [44] := if_neg h0
        rw [hs0] at HS
        clear h0 hs0
        go_wp2_with fail
        refine Calls.mono HPC ?_
        rintro e w2 ⟨⟨v2, rfl⟩, hw2, hf2⟩
        have HF2 : Hid (Fr g w w2) := HFA.out.trans hf2
        have HC := HFi.out _ _ HF2.out hw2
        clear hw2 hf2 HPC HWA HFA
        go_wp2_with fail
        refine Calls.mono HC ?_
        rintro e w3 ⟨⟨v3, rfl⟩, hw3, hf3⟩
        have HW3 : Hid (Wr w3 g (T ++ sepU ((l.map strE).take (i + 1)))) := by
          show Wr _ _ _
          rw [HS.out, ← List.append_assoc, ← List.append_assoc]
          exact hw3
        have HF3 : Hid (Fr g w w3) := HF2.out.trans hf3
        clear hw3 hf3 HC HF2
        go_wp2
        go_roundw
        case rel => exact ⟨i + 1, by go_num, by omega, HW3, HF3⟩
        case measure => simp [intOf]; omega
    · have hlt' : ¬ (i : Int) < (l.length : Int) := by omega
      have HW3 : Hid (Wr wr g (T ++ sepU (l.map strE))) := by
        show Wr _ _ _
        have := HWr.out
        rwa [List.take_of_length_le (by simp; omega)] at this
      clear HWr
      go_wp2
      go_end0
      exact ⟨⟨_, rfl⟩, HW3.out, HFr.out⟩
set_option maxRecDepth 20000 in
set_option maxHeartbeats 2000000 in
theorem strList_ok (l : List ByteArray) (g : Nat) (T : List UInt8) (v : Value) (w : World) (h : Wr w g T) (HSl : ∀ w', Fr g w w' → SlAt w' v l.length (strV l))
    (HF : ∀ i (hi : i < l.length) T' wx, Fr g w wx → Wr wx g T' → Calls Tryd.prog 38 #[.pointer (some ⟨g, 0, none⟩), Value.string l[i]] wx fun e w' => (∃ v, e = .returned v) ∧ Wr w' g (T' ++ strE l[i]) ∧ Fr g wx w') :
    Calls Tryd.prog 37 #[.pointer (some ⟨g, 0, none⟩), v, .func (.func 38) #[.pointer (some ⟨g, 0, none⟩)] #[]] w fun e w' => (∃ v, e = .returned v) ∧ Wr w' g (T ++ listU (l.map strE)) ∧ Fr g w w' := by
  obtain ⟨a, c, rfl, _⟩ := (HSl w (Fr.refl _ _)).shape
  have HS : Hid _ := HSl
  have HFN : Hid _ := HF
  have HP := put_ok g T ⟨#[91]⟩ w h
  clear HSl HF h
  go_enter Tryd.func37, Tryd.ntmps37
  go_wp2_with fail
  refine Calls.mono HP ?_
  rintro e w1 ⟨⟨v1, rfl⟩, hw1, hf1⟩
  have HC := strParted_ok l g _ _ w1 hw1 (fun w' hf => HS.out w' (hf1.trans hf)) (fun i hi T' wx hf hw => HFN.out i hi T' wx (hf1.trans hf) hw)
  have HF1 : Hid (Fr g w w1) := hf1
  clear hw1 hf1 HP
  go_wp2_with fail
  refine Calls.mono HC ?_
  rintro e w2 ⟨⟨v2, rfl⟩, hw2, hf2⟩
  have HP2 := put_ok g _ ⟨#[93]⟩ w2 hw2
  have HF2 : Hid (Fr g w w2) := HF1.out.trans hf2
  clear hw2 hf2 HC
  go_wp2_with fail
  refine Calls.mono HP2 ?_
  rintro e w3 ⟨⟨v3, rfl⟩, hw3, hf3⟩
  have HW3 : Hid (Wr w3 g (T ++ listU (l.map strE))) := by
    show Wr _ _ _
    unfold listU
    simp only [bl, List.append_assoc, List.cons_append, List.nil_append] at hw3 ⊢
    exact hw3
  have HF3 : Hid (Fr g w w3) := HF2.out.trans hf3
  clear hw3 hf3 HP2
  go_wp2
  go_end0
  exact ⟨⟨_, rfl⟩, HW3.out, HF3.out⟩
end Go.Proofs.YtmpgfepkdhjibaaDoor
