/- The walk of the document's own Short. -/
import Derived.Test.YtppgidmeeaodkaaGreatDoorS2Quiet
import Derived.Test.YtppgidmeeaodkaaGreatDoorS2RefEncode
namespace Go.Proofs.YtppgidmeeaodkaaGreatDoor.S2
set_option maxRecDepth 20000
open Go.RowKit Math

theorem Row.setCell {w : World} {g i : Nat} {C : Array Value} {t : TypeId} (h : Row w g C t) (v : Value) : Row (w.setCell ⟨g, i, none⟩ v) g (C.setIfInBounds i v) t := by
  rw [setCell_eq_setRow w g i C t (0, 0) v h]
  exact h.setRow
theorem Row.setCell_other {w : World} {g k i : Nat} {C : Array Value} {t : TypeId} (h : Row w g C t) (hk : g ≠ k) (v : Value) : Row (w.setCell ⟨k, i, none⟩ v) g C t := (heap_setCell_other w ⟨k, i, none⟩ g v hk).trans h
theorem Row.cell {w : World} {g : Nat} {C : Array Value} {t : TypeId} (h : Row w g C t) (i : Nat) : w.cell? ⟨g, i, none⟩ = C[i]? := cell_of_row w g i C t (0, 0) h
theorem Row.frozen {w : World} {g : Nat} {C : Array Value} {t : TypeId} (h : Row w g C t) (i : Nat) : w.frozen? ⟨g, i, none⟩ = false := frozen_of_row w g i C t h

theorem Row.drew {w : World} {g : Nat} {C : Array Value} {t : TypeId} (h : Row w g C t) : Row w.drew g C t := h
theorem made20 (f : Nat → Int) : madeCells #[.int .u8 0] 20 = arr (fold f 0) 20 := by kernel_rfl

set_option maxHeartbeats 1000000 in
theorem refShort_any (f : Nat → Int) (w : World) :
    Calls Tryz.prog 93 #[.agg (arr f 32)] w fun e w' => e = .returned (.string (strOfNums (enc (bitAt 8 (short f)) 32))) ∧ Below w.heap.size w w' := by
  obtain ⟨A, hA⟩ : ∃ A, A = arr f 32 := ⟨_, rfl⟩
  rw [← hA]
  have hAi : Hid (∀ i, i < 32 → A[i]? = some (.int .u8 (f i))) := by rw [hA]; exact fun i hi => arr_at f 32 i hi
  clear hA
  have hmk := run_make_row' (P := Tryz.prog) 36 5 (.int .u8 0) 1 Tryz.underlying36 Tryz.info5 rfl .i64 .i64 20 (by omega) (by omega)
  simp only [show ((20 : Nat) : Int) = 20 from rfl] at hmk
  go_enter Tryz.func93, Tryz.ntmps93
  go_wp2
  clear hmk
  go_loopw [4] (fun i wr => ∃ k : Nat, k ≤ 32 ∧ i = .int .i64 k ∧ Row wr w.heap.size A 76 ∧ Row wr (w.heap.size + 1) (arr (fold f k) 20) 5 ∧ Below w.heap.size w wr) (fun i _ => 32 - (intOf i).toNat)
  case atStart =>
    refine ⟨0, Nat.zero_le _, rfl, (Row.new w A 76).alloc _, ?_, ((Below.refl _ _).alloc (Nat.le_refl _) _).alloc (by simp) _⟩
    rw [made20 f]
    have h := Row.new (w.alloc (.cells A 76)) (arr (fold f 0) 20) 5
    simpa using h
  case round =>
    obtain ⟨k, hk, rfl, hr0, hr1, hb⟩ := hrel
    by_cases hlt : k < 32
    · have c0 := hr0.cell k
      rw [hAi.out k hlt] at c0
      have c1 := hr1.cell (k % 20)
      rw [arr_at _ _ _ (by omega)] at c1
      have z1 := hr1.frozen (k % 20)
      go_wp2
      go_region
      go_wp2
      go_roundw
      case rel =>
        refine ⟨k + 1, by omega, by go_num, (hr0.setCell_other (by omega) _).drew, ?_, (hb.setCell (by simp) _).drew⟩
        have h := (hr1.setCell (i := k % 20) (.int .u8 (bits .xor .u8 (fold f k (k % 20)) (f k)))).drew
        rw [arr_set (fold f k) (fold f (k + 1)) 20 (k % 20) _ (fun i hi => by
          simp only [fold]
          by_cases e : i = k % 20
          · rw [if_pos e, if_pos e, e]
          · rw [if_neg e, if_neg e])] at h
        exact h
      case measure => simp [intOf]; omega
    · obtain rfl : k = 32 := by omega
      have HE := refEncode_core (some ⟨w.heap.size + 1, 0, none⟩) (w.heap.size + 1) 0 20 20 32 (short f) wr (by decide) (by decide) (by decide) (fun _ => rfl)
        (fun i hi => by rw [Nat.zero_add, hr1.cell i, arr_at _ _ _ hi, short, if_pos hi])
        (fun i => by unfold short; split; exact fold_bd f 32 i; decide) (fun i hi => by unfold short; rw [if_neg (by omega)])
      go_wp2_with fail
      refine HE.mono ?_
      rintro e w1 ⟨rfl, hb1⟩
      go_wp2
      go_ret
      exact ⟨rfl, hb.trans (hb1.mono hb.size)⟩
end Go.Proofs.YtppgidmeeaodkaaGreatDoor.S2
