/- My own work: the table of the signs that stand for bytes; signOf and meantBy. -/
import Derived.Test.YtmpgfepkdhjibaaDoorBufs
namespace Go.Proofs.YtmpgfepkdhjibaaDoor
open Go.RowKit

/-- The table's cells. -/
def escCells : Array Value := #[.int .u8 34, .int .u8 34, .int .u8 92, .int .u8 92, .int .u8 10, .int .u8 110, .int .u8 13, .int .u8 114, .int .u8 9, .int .u8 116]
/-- The table stands. -/
def ETab (w : World) : Prop := ∃ t fr, w.heap[0]? = some (.cells escCells t fr)
theorem ETab.pos {w : World} (h : ETab w) : 0 < w.heap.size := by
  obtain ⟨t, fr, h⟩ := h
  exact (Array.getElem?_eq_some_iff.1 h).1
theorem ETab.below {w w' : World} {B : Nat} (h : ETab w) (hb : Below B w w') (hB : 0 < B) : ETab w' := by
  obtain ⟨t, fr, h⟩ := h
  exact ⟨t, fr, (hb.block 0 hB).trans h⟩
theorem ETab.keep {w w' : World} (h : ETab w) (hb : Below w.heap.size w w') : ETab w' := h.below hb h.pos
theorem ETab.cell {w : World} (h : ETab w) (i : Nat) : w.cell? ⟨0, i, none⟩ = escCells[i]? := by
  obtain ⟨t, fr, h⟩ := h
  exact cell_of_row w 0 i escCells t fr h
/-- The sign for a byte. -/
def signN (c : UInt8) : Option UInt8 := if c = 34 then some 34 else if c = 92 then some 92 else if c = 10 then some 110 else if c = 13 then some 114 else if c = 9 then some 116 else none
/-- The byte for a sign. -/
def meantN (c : UInt8) : Option UInt8 := if c = 34 then some 34 else if c = 92 then some 92 else if c = 110 then some 10 else if c = 114 then some 13 else if c = 116 then some 9 else none
def pairOf (o : Option UInt8) : Value := .tuple #[.int .u8 (o.getD 0).toNat, .bool o.isSome]

theorem esc_at0 (w : World) : (Instr.index 105 (.agg #[.int .u8 34, .int .u8 34, .int .u8 92, .int .u8 92, .int .u8 10, .int .u8 110, .int .u8 13, .int .u8 114, .int .u8 9, .int .u8 116]) (.int .i64 0)).run Tryd.prog w = .ok (.agg #[.int .u8 34, .int .u8 34]) w := by kernel_rfl
theorem esc_at1 (w : World) : (Instr.index 105 (.agg #[.int .u8 34, .int .u8 34, .int .u8 92, .int .u8 92, .int .u8 10, .int .u8 110, .int .u8 13, .int .u8 114, .int .u8 9, .int .u8 116]) (.int .i64 1)).run Tryd.prog w = .ok (.agg #[.int .u8 92, .int .u8 92]) w := by kernel_rfl
theorem esc_at2 (w : World) : (Instr.index 105 (.agg #[.int .u8 34, .int .u8 34, .int .u8 92, .int .u8 92, .int .u8 10, .int .u8 110, .int .u8 13, .int .u8 114, .int .u8 9, .int .u8 116]) (.int .i64 2)).run Tryd.prog w = .ok (.agg #[.int .u8 10, .int .u8 110]) w := by kernel_rfl
theorem esc_at3 (w : World) : (Instr.index 105 (.agg #[.int .u8 34, .int .u8 34, .int .u8 92, .int .u8 92, .int .u8 10, .int .u8 110, .int .u8 13, .int .u8 114, .int .u8 9, .int .u8 116]) (.int .i64 3)).run Tryd.prog w = .ok (.agg #[.int .u8 13, .int .u8 114]) w := by kernel_rfl
theorem esc_at4 (w : World) : (Instr.index 105 (.agg #[.int .u8 34, .int .u8 34, .int .u8 92, .int .u8 92, .int .u8 10, .int .u8 110, .int .u8 13, .int .u8 114, .int .u8 9, .int .u8 116]) (.int .i64 4)).run Tryd.prog w = .ok (.agg #[.int .u8 9, .int .u8 116]) w := by kernel_rfl
theorem u8_ne {a c : UInt8} (h : ¬ c = a) : ¬ ((a.toNat : Int) = (c.toNat : Int)) := fun e => h (UInt8.toNat_inj.1 (by omega))
set_option maxRecDepth 20000 in
set_option maxHeartbeats 2000000 in
theorem signOf_ok (c : UInt8) (w : World) (hT : ETab w) : Calls Tryd.prog 31 #[.int .u8 c.toNat] w fun e w' => e = .returned (pairOf (signN c)) ∧ Below w.heap.size w w' := by
  have c0 : w.cell? ⟨0, 0, none⟩ = some (.int .u8 34) := hT.cell 0
  have c1 : w.cell? ⟨0, 1, none⟩ = some (.int .u8 34) := hT.cell 1
  have c2 : w.cell? ⟨0, 2, none⟩ = some (.int .u8 92) := hT.cell 2
  have c3 : w.cell? ⟨0, 3, none⟩ = some (.int .u8 92) := hT.cell 3
  have c4 : w.cell? ⟨0, 4, none⟩ = some (.int .u8 10) := hT.cell 4
  have c5 : w.cell? ⟨0, 5, none⟩ = some (.int .u8 110) := hT.cell 5
  have c6 : w.cell? ⟨0, 6, none⟩ = some (.int .u8 13) := hT.cell 6
  have c7 : w.cell? ⟨0, 7, none⟩ = some (.int .u8 114) := hT.cell 7
  have c8 : w.cell? ⟨0, 8, none⟩ = some (.int .u8 9) := hT.cell 8
  have c9 : w.cell? ⟨0, 9, none⟩ = some (.int .u8 116) := hT.cell 9
  clear hT
  have i0 := esc_at0
  have i1 := esc_at1
  have i2 := esc_at2
  have i3 := esc_at3
  have i4 := esc_at4
  by_cases h0 : c = 34
  · subst h0
    go_enter Tryd.func31, Tryd.ntmps31
    go_wp2
    refine wp_loop_rounds 1 ?_
    rw [rounds_succ]
    go_wp2
    go_ret2
    exact ⟨rfl, by repeat (first | exact Below.refl _ _ | refine below_new ?_ _)⟩
  by_cases h1 : c = 92
  · subst h1
    go_enter Tryd.func31, Tryd.ntmps31
    go_wp2
    refine wp_loop_rounds 2 ?_
    rw [rounds_succ]
    go_wp2
    rw [rounds_succ]
    go_wp2
    go_ret2
    exact ⟨rfl, by repeat (first | exact Below.refl _ _ | refine below_new ?_ _)⟩
  by_cases h2 : c = 10
  · subst h2
    go_enter Tryd.func31, Tryd.ntmps31
    go_wp2
    refine wp_loop_rounds 3 ?_
    rw [rounds_succ]
    go_wp2
    rw [rounds_succ]
    go_wp2
    rw [rounds_succ]
    go_wp2
    go_ret2
    exact ⟨rfl, by repeat (first | exact Below.refl _ _ | refine below_new ?_ _)⟩
  by_cases h3 : c = 13
  · subst h3
    go_enter Tryd.func31, Tryd.ntmps31
    go_wp2
    refine wp_loop_rounds 4 ?_
    rw [rounds_succ]
    go_wp2
    rw [rounds_succ]
    go_wp2
    rw [rounds_succ]
    go_wp2
    rw [rounds_succ]
    go_wp2
    go_ret2
    exact ⟨rfl, by repeat (first | exact Below.refl _ _ | refine below_new ?_ _)⟩
  by_cases h4 : c = 9
  · subst h4
    go_enter Tryd.func31, Tryd.ntmps31
    go_wp2
    refine wp_loop_rounds 5 ?_
    rw [rounds_succ]
    go_wp2
    rw [rounds_succ]
    go_wp2
    rw [rounds_succ]
    go_wp2
    rw [rounds_succ]
    go_wp2
    rw [rounds_succ]
    go_wp2
    go_ret2
    exact ⟨rfl, by repeat (first | exact Below.refl _ _ | refine below_new ?_ _)⟩
  have hn : signN c = none := by unfold signN; simp [h0, h1, h2, h3, h4]
  rw [hn]
  clear hn
  have g0 : ¬ ((34 : Int) = (c.toNat : Int)) := u8_ne (a := 34) h0
  have g1 : ¬ ((92 : Int) = (c.toNat : Int)) := u8_ne (a := 92) h1
  have g2 : ¬ ((10 : Int) = (c.toNat : Int)) := u8_ne (a := 10) h2
  have g3 : ¬ ((13 : Int) = (c.toNat : Int)) := u8_ne (a := 13) h3
  have g4 : ¬ ((9 : Int) = (c.toNat : Int)) := u8_ne (a := 9) h4
  clear h0 h1 h2 h3 h4
  go_enter Tryd.func31, Tryd.ntmps31
  go_wp2
  refine wp_loop_rounds 6 ?_
  rw [rounds_succ]
  go_wp2
  rw [rounds_succ]
  go_wp2
  rw [rounds_succ]
  go_wp2
  rw [rounds_succ]
  go_wp2
  rw [rounds_succ]
  go_wp2
  rw [rounds_succ]
  go_wp2
  go_ret2
  exact ⟨rfl, by repeat (first | exact Below.refl _ _ | refine below_new ?_ _)⟩
set_option maxRecDepth 20000 in
set_option maxHeartbeats 2000000 in
theorem meantBy_ok (c : UInt8) (w : World) (hT : ETab w) : Calls Tryd.prog 78 #[.int .u8 c.toNat] w fun e w' => e = .returned (pairOf (meantN c)) ∧ Below w.heap.size w w' := by
  have c0 : w.cell? ⟨0, 0, none⟩ = some (.int .u8 34) := hT.cell 0
  have c1 : w.cell? ⟨0, 1, none⟩ = some (.int .u8 34) := hT.cell 1
  have c2 : w.cell? ⟨0, 2, none⟩ = some (.int .u8 92) := hT.cell 2
  have c3 : w.cell? ⟨0, 3, none⟩ = some (.int .u8 92) := hT.cell 3
  have c4 : w.cell? ⟨0, 4, none⟩ = some (.int .u8 10) := hT.cell 4
  have c5 : w.cell? ⟨0, 5, none⟩ = some (.int .u8 110) := hT.cell 5
  have c6 : w.cell? ⟨0, 6, none⟩ = some (.int .u8 13) := hT.cell 6
  have c7 : w.cell? ⟨0, 7, none⟩ = some (.int .u8 114) := hT.cell 7
  have c8 : w.cell? ⟨0, 8, none⟩ = some (.int .u8 9) := hT.cell 8
  have c9 : w.cell? ⟨0, 9, none⟩ = some (.int .u8 116) := hT.cell 9
  clear hT
  have i0 := esc_at0
  have i1 := esc_at1
  have i2 := esc_at2
  have i3 := esc_at3
  have i4 := esc_at4
  by_cases h0 : c = 34
  · subst h0
    go_enter Tryd.func78, Tryd.ntmps78
    go_wp2
    refine wp_loop_rounds 1 ?_
    rw [rounds_succ]
    go_wp2
    go_ret2
    exact ⟨rfl, by repeat (first | exact Below.refl _ _ | refine below_new ?_ _)⟩
  by_cases h1 : c = 92
  · subst h1
    go_enter Tryd.func78, Tryd.ntmps78
    go_wp2
    refine wp_loop_rounds 2 ?_
    rw [rounds_succ]
    go_wp2
    rw [rounds_succ]
    go_wp2
    go_ret2
    exact ⟨rfl, by repeat (first | exact Below.refl _ _ | refine below_new ?_ _)⟩
  by_cases h2 : c = 110
  · subst h2
    go_enter Tryd.func78, Tryd.ntmps78
    go_wp2
    refine wp_loop_rounds 3 ?_
    rw [rounds_succ]
    go_wp2
    rw [rounds_succ]
    go_wp2
    rw [rounds_succ]
    go_wp2
    go_ret2
    exact ⟨rfl, by repeat (first | exact Below.refl _ _ | refine below_new ?_ _)⟩
  by_cases h3 : c = 114
  · subst h3
    go_enter Tryd.func78, Tryd.ntmps78
    go_wp2
    refine wp_loop_rounds 4 ?_
    rw [rounds_succ]
    go_wp2
    rw [rounds_succ]
    go_wp2
    rw [rounds_succ]
    go_wp2
    rw [rounds_succ]
    go_wp2
    go_ret2
    exact ⟨rfl, by repeat (first | exact Below.refl _ _ | refine below_new ?_ _)⟩
  by_cases h4 : c = 116
  · subst h4
    go_enter Tryd.func78, Tryd.ntmps78
    go_wp2
    refine wp_loop_rounds 5 ?_
    rw [rounds_succ]
    go_wp2
    rw [rounds_succ]
    go_wp2
    rw [rounds_succ]
    go_wp2
    rw [rounds_succ]
    go_wp2
    rw [rounds_succ]
    go_wp2
    go_ret2
    exact ⟨rfl, by repeat (first | exact Below.refl _ _ | refine below_new ?_ _)⟩
  have hn : meantN c = none := by unfold meantN; simp [h0, h1, h2, h3, h4]
  rw [hn]
  clear hn
  have g0 : ¬ ((34 : Int) = (c.toNat : Int)) := u8_ne (a := 34) h0
  have g1 : ¬ ((92 : Int) = (c.toNat : Int)) := u8_ne (a := 92) h1
  have g2 : ¬ ((110 : Int) = (c.toNat : Int)) := u8_ne (a := 110) h2
  have g3 : ¬ ((114 : Int) = (c.toNat : Int)) := u8_ne (a := 114) h3
  have g4 : ¬ ((116 : Int) = (c.toNat : Int)) := u8_ne (a := 116) h4
  clear h0 h1 h2 h3 h4
  go_enter Tryd.func78, Tryd.ntmps78
  go_wp2
  refine wp_loop_rounds 6 ?_
  rw [rounds_succ]
  go_wp2
  rw [rounds_succ]
  go_wp2
  rw [rounds_succ]
  go_wp2
  rw [rounds_succ]
  go_wp2
  rw [rounds_succ]
  go_wp2
  rw [rounds_succ]
  go_wp2
  go_ret2
  exact ⟨rfl, by repeat (first | exact Below.refl _ _ | refine below_new ?_ _)⟩
end Go.Proofs.YtmpgfepkdhjibaaDoor
