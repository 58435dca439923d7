/- My own work: cuts as values; two of them compared; sets as they lie in memory; isMade, None, All, piece, compare. -/
import Derived.Test.YtkbhckjpmgkgjaaGreatDoorSP0
import Derived.Test.YtkbhckjpmgkgjaaGreatDoorVQ
import Derived.Deep.MidRow
import Derived.BigQuiet
namespace Go.Proofs.YtkbhckjpmgkgjaaGreatDoor
open Go.RowKit

/-- A cut's cells. -/
abbrev cutC (c : Cut) : Array Value := #[.int .i64 c.side, .int .i64 c.v.n0, .int .i64 c.v.n1, .int .i64 c.v.n2, .int .i64 c.v.n3, .int .i64 c.v.cnt, .string c.v.tag]
abbrev encC (c : Cut) : List Value := [.int .i64 c.side, .int .i64 c.v.n0, .int .i64 c.v.n1, .int .i64 c.v.n2, .int .i64 c.v.n3, .int .i64 c.v.cnt, .string c.v.tag]
abbrev cutV (c : Cut) : Value := .agg (cutC c)
theorem fieldsC : Tryz.prog.fieldsOf 216 = #[{ name := "side", type := 214, offset := 0, embedded := false, tag := "", pkgPath := "stillroom/span", byteOffset := 0 }, { name := "at", type := 112, offset := 1, embedded := false, tag := "", pkgPath := "stillroom/span", byteOffset := 8 }] := by kernel_rfl
theorem part_side (c : Cut) (w : World) : (part 214 (cutC c) 0).run Tryz.prog w = .ok (.int .i64 c.side) w := by kernel_rfl
theorem part_ver (c : Cut) (w : World) : (part 112 (cutC c) 1).run Tryz.prog w = .ok (verV c.v) w := by kernel_rfl
theorem eq_fieldsK (k : Nat) (a b : Ver) (w : World) : (Op.eqFields (k + 1 + 1 + 1) (verC a) (verC b) [{ name := "Nums", type := 102, offset := 0, embedded := false, tag := "", pkgPath := "", byteOffset := 0 }, { name := "Count", type := 3, offset := 4, embedded := false, tag := "", pkgPath := "", byteOffset := 32 }, { name := "Tag", type := 9, offset := 5, embedded := false, tag := "", pkgPath := "", byteOffset := 40 }]).run Tryz.prog w = .ok (decide (a = b)) w := by
  have p0 := part_nums a w
  have p1 := part_cnt a w
  have p2 := part_tag a w
  have q0 := part_nums b w
  have q1 := part_cnt b w
  have q2 := part_tag b w
  have e0 := eq_nums (k + 1) a.n0 a.n1 a.n2 a.n3 b.n0 b.n1 b.n2 b.n3 w
  have e1 := run_equalIn_int (P := Tryz.prog) w (k + 1 + 1) 3 .i64 .i64 a.cnt b.cnt Tryz.underlying3
  have e2 := run_equalIn_string (P := Tryz.prog) w (k + 1 + 1) 9 a.tag b.tag Tryz.underlying9
  have he := ver_eq a b
  simp only [Op.eqFields, Sem.run_bind, Sem.run_ite, p0, p1, p2, q0, q1, q2, e0, e1, e2, Result.andThen_ok, Sem.run_pure]
  by_cases h0 : a.n0 = b.n0 ∧ a.n1 = b.n1 ∧ a.n2 = b.n2 ∧ a.n3 = b.n3
  · by_cases h1 : a.cnt = b.cnt
    · by_cases h2 : a.tag.toList = b.tag.toList
      · have h := he.2 ⟨h0, h1, h2⟩
        simp [h]
      · have h : ¬ a = b := fun e => h2 (he.1 e).2.2
        simp [h0, h1, h2, h]
    · have h : ¬ a = b := fun e => h1 (he.1 e).2.1
      simp [h0, h1, h]
  · have h : ¬ a = b := fun e => h0 (he.1 e).1
    rw [decide_eq_false h0, decide_eq_false h]
    simp
theorem eq_verK (k : Nat) (a b : Ver) (w : World) : (Op.equalIn (k + 1 + 1 + 1 + 1) 112 (verV a) (verV b)).run Tryz.prog w = .ok (decide (a = b)) w := by
  have h := run_equalIn_struct (P := Tryz.prog) w (k + 1 + 1 + 1) 112 (verC a) (verC b) (by rw [fieldsP]; exact Tryz.underlying112) (by kernel_rfl)
  refine h.trans ?_
  rw [fieldsP]
  exact eq_fieldsK k a b w
theorem eq_cut (a b : Cut) (w : World) : (Op.equalIn 10000 216 (cutV a) (cutV b)).run Tryz.prog w = .ok (decide (a = b)) w := by
  have h := run_equalIn_struct (P := Tryz.prog) w 9999 216 (cutC a) (cutC b) (by rw [fieldsC]; exact Tryz.underlying216) (by kernel_rfl)
  refine h.trans ?_
  rw [fieldsC]
  have p0 := part_side a w
  have p1 := part_ver a w
  have q0 := part_side b w
  have q1 := part_ver b w
  have e0 := run_equalIn_int (P := Tryz.prog) w 9998 214 .i64 .i64 a.side b.side Tryz.underlying214
  have e1 := eq_verK 9995 a.v b.v w
  have he := cut_eq a b
  simp only [Op.eqFields, Sem.run_bind, Sem.run_ite, p0, p1, q0, q1, e0, e1, Result.andThen_ok, Sem.run_pure]
  by_cases h0 : a.side = b.side
  · by_cases h1 : a.v = b.v
    · have h := he.2 ⟨h0, h1⟩
      simp [h]
    · have h : ¬ a = b := fun e => h1 (he.1 e).2
      simp [h0, h1, h]
  · have h : ¬ a = b := fun e => h0 (he.1 e).1
    rw [decide_eq_false h]
    simp [h0]
theorem guardC : Tryz.prog.eqGuardType Tryz.prog.depth 216 = false := by kernel_rfl
theorem infoC : (Tryz.prog.info? 216).map (·.size) = some 7 := by kernel_rfl
abbrev zeroCut : Array Value := #[.int .i64 0, .int .i64 0, .int .i64 0, .int .i64 0, .int .i64 0, .int .i64 0, .string ⟨#[]⟩]
theorem infoCz : (Tryz.prog.info? 216).map (fun i => (i.zero, i.size, i.bytes)) = some (some (.agg zeroCut), 7, 64) := by kernel_rfl
theorem infoSp : (Tryz.prog.info? 213).map (·.size) = some 2 := by kernel_rfl
theorem cutC_one (c : Cut) : (cutC c).all (·.oneCell') = true := by kernel_rfl
section
variable {w : World} {ops : Array Oper} {rest : List Oper} {o : Oper} {act : Act} {Q : Exit → Act → World → Prop}
theorem exec_eqc (a b : Cut) (x y : Operand) (ho : o.op = .binOp .eql 216 x y 216) (hx : act.eval x = cutV a) (hy : act.eval y = cutV b) (w : World) :
    (execOp act.eval o).run Tryz.prog w = .ok (.value (.bool (decide (a = b)))) w := by
  unfold execOp
  simp only [ho, hx, hy]
  have h1 := run_eqGuard_agg (P := Tryz.prog) w .eql 216 x y (cutC a) (cutC b) guardC
  have h2 := run_eql_struct (P := Tryz.prog) w 216 (cutC a) (cutC b)
  rw [eq_cut] at h2
  simp only [Sem.run_bind, Sem.run_pure, Result.andThen_ok, h1, h2]
theorem wp_eqc (a b : Cut) (hgd : o.guard = none) (x y : Operand) (ho : o.op = .binOp .eql 216 x y 216) (hx : act.eval x = cutV a) (hy : act.eval y = cutV b)
    (k : wpList Tryz.prog ops Q rest (act.put o.dst (.bool (decide (a = b)))) w) : wpList Tryz.prog ops Q (o :: rest) act w :=
  wpList_plain hgd fun _ hK => by
    unfold Oper.wp
    rw [exec_eqc a b x y ho hx hy w]
    exact hK _ _ k
theorem exec_neqK (a b : Ver) (x y : Operand) (ho : o.op = .binOp .neq 112 x y 112) (hx : act.eval x = verV a) (hy : act.eval y = verV b) (w : World) :
    (execOp act.eval o).run Tryz.prog w = .ok (.value (.bool (!decide (a = b)))) w := by
  unfold execOp
  simp only [ho, hx, hy]
  have h1 := run_eqGuard_agg (P := Tryz.prog) w .neq 112 x y (verC a) (verC b) guardP
  have h2 := run_neq_struct (P := Tryz.prog) w 112 (verC a) (verC b)
  rw [eq_ver] at h2
  simp only [Sem.run_bind, Sem.run_pure, Result.andThen_ok, h1, h2]
theorem wp_neqK (a b : Ver) (hgd : o.guard = none) (x y : Operand) (ho : o.op = .binOp .neq 112 x y 112) (hx : act.eval x = verV a) (hy : act.eval y = verV b)
    (k : wpList Tryz.prog ops Q rest (act.put o.dst (.bool (!decide (a = b)))) w) : wpList Tryz.prog ops Q (o :: rest) act w :=
  wpList_plain hgd fun _ hK => by
    unfold Oper.wp
    rw [exec_neqK a b x y ho hx hy w]
    exact hK _ _ k
end
/-- Cuts that lie in a block, from a place on. -/
structure CutsAt (w : World) (v : Value) (L : List Cut) (B : Nat) : Prop where
  ex : ∃ (a : Option Addr) (g off cap : Nat), v = .slice a L.length cap ∧ (0 < L.length → a = some ⟨g, off, none⟩ ∧ g < B) ∧ L.length ≤ cap ∧ (a = none → cap = 0) ∧ ∀ i (h : i < L.length), w.rangeAt g (off + i * 7) (encC L[i])
theorem CutsAt.keep {w w' : World} {v : Value} {L : List Cut} {B : Nat} (h : CutsAt w v L B) (hb : Below B w w') : CutsAt w' v L B := by
  obtain ⟨a, g, off, cap, h1, h2, h3, h5, h4⟩ := h.ex
  exact ⟨a, g, off, cap, h1, h2, h3, h5, fun i hi j u hj => (hb.cell (p := ⟨g, off + i * 7 + j, none⟩) (h2 (by omega)).2).trans (h4 i hi j u hj)⟩
theorem CutsAt.mono {w : World} {v : Value} {L : List Cut} {B B' : Nat} (h : CutsAt w v L B) (hB : B ≤ B') : CutsAt w v L B' := by
  obtain ⟨a, g, off, cap, h1, h2, h3, h5, h4⟩ := h.ex
  exact ⟨a, g, off, cap, h1, fun h => ⟨(h2 h).1, Nat.lt_of_lt_of_le (h2 h).2 hB⟩, h3, h5, h4⟩
/-- A set in memory. -/
structure SetAt (w : World) (p : Value) (L : List Cut) (B : Nat) : Prop where
  ex : ∃ (g : Nat) (v : Value), p = .pointer (some ⟨g, 0, none⟩) ∧ g < B ∧ Row w g #[.bool true, v] 213 ∧ CutsAt w v L B
theorem SetAt.keep {w w' : World} {p : Value} {L : List Cut} {B : Nat} (h : SetAt w p L B) (hb : Below B w w') : SetAt w' p L B := by
  obtain ⟨g, v, h1, h2, h3, h4⟩ := h.ex
  exact ⟨g, v, h1, h2, h3.below hb h2, h4.keep hb⟩
theorem SetAt.mono {w : World} {p : Value} {L : List Cut} {B B' : Nat} (h : SetAt w p L B) (hB : B ≤ B') : SetAt w p L B' := by
  obtain ⟨g, v, h1, h2, h3, h4⟩ := h.ex
  exact ⟨g, v, h1, Nat.lt_of_lt_of_le h2 hB, h3, h4.mono hB⟩
set_option maxHeartbeats 400000 in
theorem isMade_nil (w : World) : Calls Tryz.prog 130 #[.pointer none] w fun e w' => e = .returned (.bool false) ∧ w' = w := by
  go_enter Tryz.func130, Tryz.ntmps130
  go_wp2
  go_ret
  exact ⟨rfl, rfl⟩
set_option maxHeartbeats 400000 in
theorem isMade_at (w : World) (g : Nat) (m : Bool) (v : Value) (h : Row w g #[.bool m, v] 213) : Calls Tryz.prog 130 #[.pointer (some ⟨g, 0, none⟩)] w fun e w' => e = .returned (.bool m) ∧ w' = w := by
  have h0 : w.cell? ⟨g, 0, none⟩ = some (.bool m) := (h.cell 0).trans rfl
  go_enter Tryz.func130, Tryz.ntmps130
  go_wp2
  go_ret
  exact ⟨rfl, rfl⟩
theorem isMade_sp {w : World} {p : Value} {L : List Cut} {B : Nat} (h : SetAt w p L B) : Calls Tryz.prog 130 #[p] w fun e w' => e = .returned (.bool true) ∧ w' = w := by
  obtain ⟨g, v, rfl, _, h3, _⟩ := h.ex
  exact isMade_at w g true v h3
set_option maxHeartbeats 400000 in
theorem none_call (w : World) : Calls Tryz.prog 147 #[] w fun e w' => e = .returned (.pointer (some ⟨w.heap.size, 0, none⟩)) ∧ w' = w.alloc (.cells #[.bool true, .slice none 0 0] 213) := by
  go_enter Tryz.func147, Tryz.ntmps147
  go_wp2
  go_ret
  exact ⟨rfl, rfl⟩
end Go.Proofs.YtkbhckjpmgkgjaaGreatDoor
