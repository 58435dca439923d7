/- The small calls of a set: bit, made, knows, in. -/
import Derived.Test.YthjmmlgcaigdfaaSet
namespace Go.Proofs.Ythjmmlgcaigdfaa
open Go.RowKit
variable {w : World} {g n : Nat} {S : Nat → Bool}

theorem bit_any (k : Nat) (hk : k < 2048) (w : World) : Calls Try.prog 28 #[.int .i64 k] w fun e w' => e = .returned (.int .u8 (2 ^ (k % 8))) ∧ w' = w := by
  have e : (2 : Int) ^ (k % 8) % 256 = 2 ^ (k % 8) := by
    have h : k % 8 < 8 := Nat.mod_lt _ (by decide)
    generalize k % 8 = r at h
    revert r
    decide
  go_enter Try.func28, Try.ntmps28
  go_wp2
  go_ret
  exact ⟨by simp, rfl⟩

/-- No set: nil, or zeros. -/
def NoSet (w : World) (d : Value) : Prop := d = .pointer none ∨ ∃ g C, d = .pointer (some ⟨g, 0, none⟩) ∧ Row w g C 53 ∧ C[0]? = some (.int .i64 0)
theorem made_no (d : Value) (w : World) (h : NoSet w d) : Calls Try.prog 24 #[d] w fun e w' => e = .returned (.bool false) ∧ w' = w := by
  rcases h with rfl | ⟨g, C, rfl, hR, h0⟩
  · go_enter Try.func24, Try.ntmps24
    go_wp2
    go_ret
    exact ⟨rfl, rfl⟩
  · have hc := (hR.cell 0).trans h0
    clear hR h0
    go_enter Try.func24, Try.ntmps24
    go_wp2
    go_ret
    exact ⟨rfl, rfl⟩
theorem made_yes (h : SetAt w g n S) : Calls Try.prog 24 #[.pointer (some ⟨g, 0, none⟩)] w fun e w' => e = .returned (.bool true) ∧ w' = w := by
  have hc := h.cn
  have h1 : 0 < n := h.lo
  clear h
  go_enter Try.func24, Try.ntmps24
  go_wp2
  go_ret
  exact ⟨rfl, rfl⟩
theorem knows_any (h : SetAt w g n S) (k : Int) : Calls Try.prog 27 #[.pointer (some ⟨g, 0, none⟩), .int .i64 k] w fun e w' => e = .returned (.bool (decide (0 ≤ k ∧ k < n))) ∧ w' = w := by
  have hc := h.cn
  clear h
  by_cases hn : 0 ≤ k
  · have hd : decide (0 ≤ k ∧ k < n) = decide (k < n) := by simp [hn]
    rw [hd]
    clear hd
    go_enter Try.func27, Try.ntmps27
    go_wp2
    go_ret
    exact ⟨rfl, rfl⟩
  · have hd : decide (0 ≤ k ∧ k < n) = false := by simp; omega
    rw [hd]
    clear hd
    go_enter Try.func27, Try.ntmps27
    go_wp2
    go_ret
    exact ⟨rfl, rfl⟩

/-- The memory is the same; an order may have been drawn. -/
structure Still (w w' : World) : Prop where
  os : w'.os = w.os
  tape : w'.tape = w.tape
  output : w'.output = w.output
  heap : w'.heap = w.heap
theorem Still.refl (w : World) : Still w w := ⟨rfl, rfl, rfl, rfl⟩
theorem Still.drew {a w : World} (h : Still a w) : Still a w.drew := ⟨h.os, h.tape, h.output, h.heap⟩
theorem Still.trans {a b c : World} (h : Still a b) (k : Still b c) : Still a c := ⟨k.os.trans h.os, k.tape.trans h.tape, k.output.trans h.output, k.heap.trans h.heap⟩
theorem Still.below {a b : World} (h : Still a b) (B : Nat) : Below B a b := ⟨h.os, h.tape, h.output, by rw [h.heap]; exact Nat.le_refl _, fun k _ => by rw [h.heap]⟩
theorem Row.still {w w' : World} {g : Nat} {C : Array Value} {t : TypeId} (h : Row w g C t) (hs : Still w w') : Row w' g C t := by
  unfold Row at *
  rw [hs.heap]
  exact h
theorem SetAt.still {w' : World} (h : SetAt w g n S) (hs : Still w w') : SetAt w' g n S := ⟨h.row.still hs, h.lo, h.hi, h.top⟩

/-- Of the blocks that were there only g has changed. -/
structure Chg (g : Nat) (w w' : World) : Prop where
  os : w'.os = w.os
  tape : w'.tape = w.tape
  output : w'.output = w.output
  size : w.heap.size ≤ w'.heap.size
  block : ∀ k, k < w.heap.size → k ≠ g → w'.heap[k]? = w.heap[k]?
theorem Chg.refl (g : Nat) (w : World) : Chg g w w := ⟨rfl, rfl, rfl, Nat.le_refl _, fun _ _ _ => rfl⟩
theorem Chg.trans {g : Nat} {a b c : World} (h : Chg g a b) (k : Chg g b c) : Chg g a c :=
  ⟨k.os.trans h.os, k.tape.trans h.tape, k.output.trans h.output, Nat.le_trans h.size k.size, fun i hi h1 => (k.block i (Nat.lt_of_lt_of_le hi h.size) h1).trans (h.block i hi h1)⟩
theorem Chg.of_below {g : Nat} {w w' : World} (h : Below w.heap.size w w') : Chg g w w' := ⟨h.os, h.tape, h.output, h.size, fun k hk _ => h.block k hk⟩
theorem Chg.of_still {g : Nat} {w w' : World} (h : Still w w') : Chg g w w' := Chg.of_below (h.below _)
theorem Chg.of_setCell {g : Nat} (w : World) (i : Nat) (v : Value) : Chg g w (w.setCell ⟨g, i, none⟩ v) := ⟨rfl, rfl, rfl, by simp [World.setCell], fun k _ h1 => Below.heap_setCell _ _ _ _ h1⟩
theorem Chg.of_setRow {g : Nat} (w : World) (C : Array Value) : Chg g w (w.setRow g C) := ⟨rfl, rfl, rfl, by simp [World.setRow], fun k _ h2 => setRow_other w g k C h2⟩
theorem Chg.to_below {g base : Nat} {w w' : World} (h : Chg g w w') (h1 : base ≤ g) (hB : base ≤ w.heap.size) : Below base w w' :=
  ⟨h.os, h.tape, h.output, h.size, fun k hk => h.block k (by omega) (by omega)⟩
theorem Row.chg {w w' : World} {g k : Nat} {C : Array Value} {t : TypeId} (h : Row w k C t) (hc : Chg g w w') (hk : k ≠ g) : Row w' k C t := (hc.block k h.lt hk).trans h
theorem SetAt.chg {w w' : World} {g k n : Nat} {S : Nat → Bool} (h : SetAt w k n S) (hc : Chg g w w') (hk : k ≠ g) : SetAt w' k n S := ⟨h.row.chg hc hk, h.lo, h.hi, h.top⟩
theorem SetAt.below {w w' : World} {k n : Nat} {S : Nat → Bool} (h : SetAt w k n S) (hc : Below w.heap.size w w') : SetAt w' k n S := ⟨h.row.below hc h.row.lt, h.lo, h.hi, h.top⟩
end Go.Proofs.Ythjmmlgcaigdfaa
