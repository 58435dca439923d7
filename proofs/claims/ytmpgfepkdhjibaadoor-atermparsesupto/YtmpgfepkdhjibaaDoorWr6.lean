/- My own work: the walks of output, pair and input. -/
import Derived.Test.YtmpgfepkdhjibaaDoorWr2
import Derived.Test.YtmpgfepkdhjibaaDoorOwnA
namespace Go.Proofs.YtmpgfepkdhjibaaDoor
open Go.RowKit

theorem run_texts3 (w : World) (a b c : ByteArray) : (Instr.buildSlice 24 3 #[(0, .string a), (1, .string b), (2, .string c)]).run Tryd.prog w = .ok (.slice (some ⟨w.heap.size, 0, none⟩) 3 3) (w.alloc (.cells #[.string a, .string b, .string c] 9)) := by
  obtain ⟨i0, hi, hz0, hz1, hz2⟩ := info_parts info_str
  refine run_buildSlice w 24 9 3 _ _ i0 _ Tryd.underlying24 hi hz0 (by rw [hz1]; decide) (by rw [hz1]; decide) ?_
  rw [hz1]
  exact Great.fill_flat [.string a, .string b, .string c] _ (fun v hv => by simp at hv; rcases hv with rfl | rfl | rfl <;> rfl) (by simp)
theorem run_texts2 (w : World) (a b : ByteArray) : (Instr.buildSlice 24 2 #[(0, .string a), (1, .string b)]).run Tryd.prog w = .ok (.slice (some ⟨w.heap.size, 0, none⟩) 2 2) (w.alloc (.cells #[.string a, .string b] 9)) := by
  obtain ⟨i0, hi, hz0, hz1, hz2⟩ := info_parts info_str
  refine run_buildSlice w 24 9 2 _ _ i0 _ Tryd.underlying24 hi hz0 (by rw [hz1]; decide) (by rw [hz1]; decide) ?_
  rw [hz1]
  exact Great.fill_flat [.string a, .string b] _ (fun v hv => by simp at hv; rcases hv with rfl | rfl <;> rfl) (by simp)
theorem slat_row {w : World} {k n : Nat} {C : Array Value} {t : TypeId} {D : List Value} (h : Row w k C t) (hC : C.toList = D ∧ n ≤ 9223372036854775807) : SlAt w (.slice (some ⟨k, 0, none⟩) n n) n D := by
  refine ⟨⟨_, n, k, 0, rfl, Nat.le_refl _, hC.2, fun _ => rfl, fun i x hx => ?_⟩, fun n' c' e => by simp at e⟩
  rw [Nat.zero_add, h.cell i, ← hx, ← hC.1]
  simp
set_option maxRecDepth 20000 in
set_option maxHeartbeats 2000000 in
theorem output_ok (o : ByteArray × ByteArray × ByteArray) (g : Nat) (T : List UInt8) (w : World) (h : Wr w g T) (hT : ETab w) (hg : 0 < g) : Calls Tryd.prog 34 #[.pointer (some ⟨g, 0, none⟩), .agg #[.string o.1, .string o.2.1, .string o.2.2]] w fun e w' => (∃ v, e = .returned v) ∧ Wr w' g (T ++ outE o) ∧ Fr g w w' := by
  have hmf : ∀ (fn : Fn) (first cap : Array Value) (w : World), (Instr.makeFunc fn first cap).run Tryd.prog w = .ok (.func fn first cap) w := fun _ _ _ _ => rfl
  have hb0 : Below w.heap.size w (w.alloc (.cells #[.string o.1, .string o.2.1, .string o.2.2] 46)) := below_new (Below.refl _ _) _
  have hw0 : Wr (w.alloc (.cells #[.string o.1, .string o.2.1, .string o.2.2] 46)) g T := h.keep hb0
  have HF00 : Hid (Fr g w (w.alloc (.cells #[.string o.1, .string o.2.1, .string o.2.2] 46))) := Fr.of hb0 (Nat.le_of_lt h.lt)
  have hT0 : ETab (w.alloc (.cells #[.string o.1, .string o.2.1, .string o.2.2] 46)) := HF00.out.tab hg hT
  have R0 : Hid (Row (w.alloc (.cells #[.string o.1, .string o.2.1, .string o.2.2] 46)) w.heap.size #[.string o.1, .string o.2.1, .string o.2.2] 46) := Row.new w _ _
  have HC1 := put_ok g T ⟨#[40]⟩ _ hw0
  clear h hb0 hw0
  go_enter Tryd.func34, Tryd.ntmps34
  go_wp2_with fail
  generalize w.alloc (.cells #[.string o.1, .string o.2.1, .string o.2.2] 46) = w0 at *
  refine Calls.mono HC1 ?_
  rintro e w1 ⟨⟨v1, rfl⟩, hw1, hf1⟩
  have HF1 : Hid (Fr g w0 w1) := hf1
  have R1 : Hid (Row w1 w.heap.size #[.string o.1, .string o.2.1, .string o.2.2] 46) := hf1.rows _ _ _ R0.out (by decide) (by decide)
  clear hf1 HC1
  have c0 := (R1.out.cell 0).trans (rfl : _ = some (Value.string o.1))
  have c1 := (R1.out.cell 1).trans (rfl : _ = some (Value.string o.2.1))
  have c2 := (R1.out.cell 2).trans (rfl : _ = some (Value.string o.2.2))
  have hbs := run_texts3 w1 (o.1) (o.2.1) (o.2.2)
  have hbB : Below w1.heap.size w1 (w1.alloc (.cells #[.string o.1, .string o.2.1, .string o.2.2] 9)) := below_new (Below.refl _ _) _
  have hwB := hw1.keep hbB
  have hfB : Fr g w1 (w1.alloc (.cells #[.string o.1, .string o.2.1, .string o.2.2] 9)) := Fr.of hbB (Nat.le_of_lt hw1.lt)
  have HRS : Hid (Row (w1.alloc (.cells #[.string o.1, .string o.2.1, .string o.2.2] 9)) w1.heap.size #[.string o.1, .string o.2.1, .string o.2.2] 9) := Row.new w1 _ _
  have HFB : Hid (Fr g w0 (w1.alloc (.cells #[.string o.1, .string o.2.1, .string o.2.2] 9))) := HF1.out.trans hfB
  have HC2 := strParted_ok [o.1, o.2.1, o.2.2] g _ (.slice (some ⟨w1.heap.size, 0, none⟩) 3 3) _ hwB (fun w' hf => slat_row (hf.rows _ _ _ HRS.out (by decide) (by decide)) (by simp [strV])) (fun i hi T' wx hf hw => quoted_ok g T' _ wx hw (hf.tab hg (HFB.out.tab hg hT0)) hg)
  clear hw1 hwB hbB hfB
  go_wp2_with fail
  generalize w1.alloc (.cells #[.string o.1, .string o.2.1, .string o.2.2] 9) = wB at *
  refine Calls.mono HC2 ?_
  rintro e w2 ⟨⟨v2, rfl⟩, hw2, hf2⟩
  have HF2 : Hid (Fr g w0 w2) := HFB.out.trans hf2
  have HC3 := put_ok g _ ⟨#[41]⟩ w2 hw2
  clear hw2 hf2 HC2 HFB HRS
  go_wp2_with fail
  refine Calls.mono HC3 ?_
  rintro e w3 ⟨⟨v3, rfl⟩, hw3, hf3⟩
  have HE : Hid (Wr w3 g (T ++ outE o) ∧ Fr g w w3) := by
    refine ⟨?_, HF00.out.trans (HF2.out.trans hf3)⟩
    unfold outE
    simp only [bl, List.append_assoc, List.cons_append, List.nil_append, List.map_cons, List.map_nil] at hw3 ⊢
    exact hw3
  clear hw3 hf3 HC3
  go_wp2
  go_end0
  exact ⟨⟨_, rfl⟩, HE.out⟩
set_option maxRecDepth 20000 in
set_option maxHeartbeats 2000000 in
theorem pair_ok (o : ByteArray × ByteArray) (g : Nat) (T : List UInt8) (w : World) (h : Wr w g T) (hT : ETab w) (hg : 0 < g) : Calls Tryd.prog 40 #[.pointer (some ⟨g, 0, none⟩), .agg #[.string o.1, .string o.2]] w fun e w' => (∃ v, e = .returned v) ∧ Wr w' g (T ++ pairE o) ∧ Fr g w w' := by
  have hmf : ∀ (fn : Fn) (first cap : Array Value) (w : World), (Instr.makeFunc fn first cap).run Tryd.prog w = .ok (.func fn first cap) w := fun _ _ _ _ => rfl
  have hb0 : Below w.heap.size w (w.alloc (.cells #[.string o.1, .string o.2] 60)) := below_new (Below.refl _ _) _
  have hw0 : Wr (w.alloc (.cells #[.string o.1, .string o.2] 60)) g T := h.keep hb0
  have HF00 : Hid (Fr g w (w.alloc (.cells #[.string o.1, .string o.2] 60))) := Fr.of hb0 (Nat.le_of_lt h.lt)
  have hT0 : ETab (w.alloc (.cells #[.string o.1, .string o.2] 60)) := HF00.out.tab hg hT
  have R0 : Hid (Row (w.alloc (.cells #[.string o.1, .string o.2] 60)) w.heap.size #[.string o.1, .string o.2] 60) := Row.new w _ _
  have HC1 := put_ok g T ⟨#[40]⟩ _ hw0
  clear h hb0 hw0
  go_enter Tryd.func40, Tryd.ntmps40
  go_wp2_with fail
  generalize w.alloc (.cells #[.string o.1, .string o.2] 60) = w0 at *
  refine Calls.mono HC1 ?_
  rintro e w1 ⟨⟨v1, rfl⟩, hw1, hf1⟩
  have HF1 : Hid (Fr g w0 w1) := hf1
  have R1 : Hid (Row w1 w.heap.size #[.string o.1, .string o.2] 60) := hf1.rows _ _ _ R0.out (by decide) (by decide)
  clear hf1 HC1
  have c0 := (R1.out.cell 0).trans (rfl : _ = some (Value.string o.1))
  have c1 := (R1.out.cell 1).trans (rfl : _ = some (Value.string o.2))
  have hbs := run_texts2 w1 (o.1) (o.2)
  have hbB : Below w1.heap.size w1 (w1.alloc (.cells #[.string o.1, .string o.2] 9)) := below_new (Below.refl _ _) _
  have hwB := hw1.keep hbB
  have hfB : Fr g w1 (w1.alloc (.cells #[.string o.1, .string o.2] 9)) := Fr.of hbB (Nat.le_of_lt hw1.lt)
  have HRS : Hid (Row (w1.alloc (.cells #[.string o.1, .string o.2] 9)) w1.heap.size #[.string o.1, .string o.2] 9) := Row.new w1 _ _
  have HFB : Hid (Fr g w0 (w1.alloc (.cells #[.string o.1, .string o.2] 9))) := HF1.out.trans hfB
  have HC2 := strParted_ok [o.1, o.2] g _ (.slice (some ⟨w1.heap.size, 0, none⟩) 2 2) _ hwB (fun w' hf => slat_row (hf.rows _ _ _ HRS.out (by decide) (by decide)) (by simp [strV])) (fun i hi T' wx hf hw => quoted_ok g T' _ wx hw (hf.tab hg (HFB.out.tab hg hT0)) hg)
  clear hw1 hwB hbB hfB
  go_wp2_with fail
  generalize w1.alloc (.cells #[.string o.1, .string o.2] 9) = wB at *
  refine Calls.mono HC2 ?_
  rintro e w2 ⟨⟨v2, rfl⟩, hw2, hf2⟩
  have HF2 : Hid (Fr g w0 w2) := HFB.out.trans hf2
  have HC3 := put_ok g _ ⟨#[41]⟩ w2 hw2
  clear hw2 hf2 HC2 HFB HRS
  go_wp2_with fail
  refine Calls.mono HC3 ?_
  rintro e w3 ⟨⟨v3, rfl⟩, hw3, hf3⟩
  have HE : Hid (Wr w3 g (T ++ pairE o) ∧ Fr g w w3) := by
    refine ⟨?_, HF00.out.trans (HF2.out.trans hf3)⟩
    unfold pairE
    simp only [bl, List.append_assoc, List.cons_append, List.nil_append, List.map_cons, List.map_nil] at hw3 ⊢
    exact hw3
  clear hw3 hf3 HC3
  go_wp2
  go_end0
  exact ⟨⟨_, rfl⟩, HE.out⟩
set_option maxRecDepth 20000 in
set_option maxHeartbeats 2000000 in
theorem input_ok (o : ByteArray × List ByteArray) (na : Option Addr) (nn nc : Nat) (g : Nat) (T : List UInt8) (w : World) (h : Wr w g T) (hT : ETab w) (hg : 0 < g) (HN : ∀ w', Fr g w w' → SlAt w' (.slice na nn nc) o.2.length (strV o.2)) : Calls Tryd.prog 36 #[.pointer (some ⟨g, 0, none⟩), .agg #[.string o.1, .slice na nn nc]] w fun e w' => (∃ v, e = .returned v) ∧ Wr w' g (T ++ inE o) ∧ Fr g w w' := by
  have hmf : ∀ (fn : Fn) (first cap : Array Value) (w : World), (Instr.makeFunc fn first cap).run Tryd.prog w = .ok (.func fn first cap) w := fun _ _ _ _ => rfl
  have hb0 : Below w.heap.size w (w.alloc (.cells #[.string o.1, .slice na nn nc] 52)) := below_new (Below.refl _ _) _
  have hw0 : Wr (w.alloc (.cells #[.string o.1, .slice na nn nc] 52)) g T := h.keep hb0
  have HF00 : Hid (Fr g w (w.alloc (.cells #[.string o.1, .slice na nn nc] 52))) := Fr.of hb0 (Nat.le_of_lt h.lt)
  have hT0 : ETab (w.alloc (.cells #[.string o.1, .slice na nn nc] 52)) := HF00.out.tab hg hT
  have R0 : Hid (Row (w.alloc (.cells #[.string o.1, .slice na nn nc] 52)) w.heap.size #[.string o.1, .slice na nn nc] 52) := Row.new w _ _
  have HNN : Hid _ := HN
  have HC1 := put_ok g T ⟨#[40]⟩ _ hw0
  clear h hb0 hw0 HN
  go_enter Tryd.func36, Tryd.ntmps36
  go_wp2_with fail
  generalize w.alloc (.cells #[.string o.1, .slice na nn nc] 52) = w0 at *
  refine Calls.mono HC1 ?_
  rintro e w1 ⟨⟨v1, rfl⟩, hw1, hf1⟩
  have HF1 : Hid (Fr g w0 w1) := hf1
  have R1 : Hid (Row w1 w.heap.size #[.string o.1, .slice na nn nc] 52) := hf1.rows _ _ _ R0.out (by decide) (by decide)
  have c0 := (R1.out.cell 0).trans (rfl : _ = some (Value.string o.1))
  have HC2 := quoted_ok g _ o.1 w1 hw1 (HF1.out.tab hg hT0) hg
  clear hw1 hf1 HC1
  go_wp2_with fail
  refine Calls.mono HC2 ?_
  rintro e w2 ⟨⟨v2, rfl⟩, hw2, hf2⟩
  have HF2 : Hid (Fr g w0 w2) := HF1.out.trans hf2
  have R2 : Hid (Row w2 w.heap.size #[.string o.1, .slice na nn nc] 52) := hf2.rows _ _ _ R1.out (by decide) (by decide)
  have HC3 := put_ok g _ ⟨#[44]⟩ w2 hw2
  clear hw2 hf2 HC2 c0
  go_wp2_with fail
  refine Calls.mono HC3 ?_
  rintro e w3 ⟨⟨v3, rfl⟩, hw3, hf3⟩
  have HF3 : Hid (Fr g w0 w3) := HF2.out.trans hf3
  have R3 : Hid (Row w3 w.heap.size #[.string o.1, .slice na nn nc] 52) := hf3.rows _ _ _ R2.out (by decide) (by decide)
  have c1 := (R3.out.cell 1).trans (rfl : _ = some (Value.slice na nn nc))
  have HC4 := strList_ok o.2 g _ (.slice na nn nc) w3 hw3 (fun w' hf => HNN.out w' (HF00.out.trans (HF3.out.trans hf))) (fun i hi T' wx hf hw => quoted_ok g T' _ wx hw (hf.tab hg (HF3.out.tab hg hT0)) hg)
  clear hw3 hf3 HC3
  go_wp2_with fail
  refine Calls.mono HC4 ?_
  rintro e w4 ⟨⟨v4, rfl⟩, hw4, hf4⟩
  have HF4 : Hid (Fr g w0 w4) := HF3.out.trans hf4
  have HC5 := put_ok g _ ⟨#[41]⟩ w4 hw4
  clear hw4 hf4 HC4 c1
  go_wp2_with fail
  refine Calls.mono HC5 ?_
  rintro e w5 ⟨⟨v5, rfl⟩, hw5, hf5⟩
  have HE : Hid (Wr w5 g (T ++ inE o) ∧ Fr g w w5) := by
    refine ⟨?_, HF00.out.trans (HF4.out.trans hf5)⟩
    unfold inE strE
    simp only [bl, List.append_assoc, List.cons_append, List.nil_append] at hw5 ⊢
    exact hw5
  clear hw5 hf5 HC5
  go_wp2
  go_end0
  exact ⟨⟨_, rfl⟩, HE.out⟩
end Go.Proofs.YtmpgfepkdhjibaaDoor
