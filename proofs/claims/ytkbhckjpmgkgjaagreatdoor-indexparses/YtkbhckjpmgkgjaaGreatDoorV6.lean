/- My own work: versions as values, and two of them compared by ==. -/
import Derived.Test.YtkbhckjpmgkgjaaGreatDoorV5
import Derived.Laws.StructEq
import Derived.DeepKeys
namespace Go.Proofs.YtkbhckjpmgkgjaaGreatDoor
open Go.RowKit

/-- A version's cells. -/
abbrev verC (v : Ver) : Array Value := #[.int .i64 v.n0, .int .i64 v.n1, .int .i64 v.n2, .int .i64 v.n3, .int .i64 v.cnt, .string v.tag]
abbrev verV (v : Ver) : Value := .agg (verC v)
def zeroV : Ver := ⟨0, 0, 0, 0, 0, ⟨#[]⟩⟩
theorem fieldsP : Tryz.prog.fieldsOf 112 = #[{ name := "Nums", type := 102, offset := 0, embedded := false, tag := "", pkgPath := "", byteOffset := 0 }, { name := "Count", type := 3, offset := 4, embedded := false, tag := "", pkgPath := "", byteOffset := 32 }, { name := "Tag", type := 9, offset := 5, embedded := false, tag := "", pkgPath := "", byteOffset := 40 }] := by kernel_rfl
theorem fieldsR : Tryz.prog.fieldsOf 104 = #[{ name := "Nums", type := 102, offset := 0, embedded := false, tag := "", pkgPath := "", byteOffset := 0 }, { name := "Count", type := 3, offset := 4, embedded := false, tag := "", pkgPath := "", byteOffset := 32 }, { name := "Tag", type := 9, offset := 5, embedded := false, tag := "", pkgPath := "", byteOffset := 40 }] := by kernel_rfl
theorem part_nums (v : Ver) (w : World) : (part 102 (verC v) 0).run Tryz.prog w = .ok (.agg #[.int .i64 v.n0, .int .i64 v.n1, .int .i64 v.n2, .int .i64 v.n3]) w := by kernel_rfl
theorem part_cnt (v : Ver) (w : World) : (part 3 (verC v) 4).run Tryz.prog w = .ok (.int .i64 v.cnt) w := by kernel_rfl
theorem part_tag (v : Ver) (w : World) : (part 9 (verC v) 5).run Tryz.prog w = .ok (.string v.tag) w := by kernel_rfl
theorem part_n4 (a b c d : Int) (w : World) : (part 3 #[.int .i64 a, .int .i64 b, .int .i64 c, .int .i64 d] (0 * 1)).run Tryz.prog w = .ok (.int .i64 a) w ∧ (part 3 #[.int .i64 a, .int .i64 b, .int .i64 c, .int .i64 d] (1 * 1)).run Tryz.prog w = .ok (.int .i64 b) w ∧
    (part 3 #[.int .i64 a, .int .i64 b, .int .i64 c, .int .i64 d] (2 * 1)).run Tryz.prog w = .ok (.int .i64 c) w ∧ (part 3 #[.int .i64 a, .int .i64 b, .int .i64 c, .int .i64 d] (3 * 1)).run Tryz.prog w = .ok (.int .i64 d) w := ⟨by kernel_rfl, by kernel_rfl, by kernel_rfl, by kernel_rfl⟩
theorem info3z : (Tryz.prog.info? 3).map (fun i => (i.zero, i.size, i.bytes)) = some (some (.int .i64 0), 1, 8) := by kernel_rfl
theorem eq_nums (k : Nat) (a b c d x y z u : Int) (w : World) : (Op.equalIn (k + 1 + 1) 102 (.agg #[.int .i64 a, .int .i64 b, .int .i64 c, .int .i64 d]) (.agg #[.int .i64 x, .int .i64 y, .int .i64 z, .int .i64 u])).run Tryz.prog w = .ok (decide (a = x ∧ b = y ∧ c = z ∧ d = u)) w := by
  obtain ⟨i0, hi, _, _, _⟩ := info_parts info3z
  rw [run_equalIn_array w (k + 1) _ _ Tryz.underlying102 hi]
  obtain ⟨p0, p1, p2, p3⟩ := part_n4 a b c d w
  obtain ⟨q0, q1, q2, q3⟩ := part_n4 x y z u w
  have e0 := run_equalIn_int (P := Tryz.prog) w k 3 .i64 .i64 a x Tryz.underlying3
  have e1 := run_equalIn_int (P := Tryz.prog) w k 3 .i64 .i64 b y Tryz.underlying3
  have e2 := run_equalIn_int (P := Tryz.prog) w k 3 .i64 .i64 c z Tryz.underlying3
  have e3 := run_equalIn_int (P := Tryz.prog) w k 3 .i64 .i64 d u Tryz.underlying3
  rw [show Tryz.prog.cellsOf 3 = 1 by kernel_rfl]
  show (Op.eqItems (k + 1) 3 1 _ _ [0, 1, 2, 3]).run Tryz.prog w = _
  simp only [Op.eqItems, Sem.run_bind, Sem.run_ite, p0, p1, p2, p3, q0, q1, q2, q3, e0, e1, e2, e3, Result.andThen_ok, Sem.run_pure]
  by_cases h0 : a = x
  · by_cases h1 : b = y
    · by_cases h2 : c = z
      · by_cases h3 : d = u
        · simp [h0, h1, h2, h3]
        · simp [h0, h1, h2, h3]
      · simp [h0, h1, h2]
    · simp [h0, h1]
  · simp [h0]
instance : DecidableEq Ver := fun a b => decidable_of_iff (cmpV a b = 0) (cmpV_zero a b)
theorem ver_eq (a b : Ver) : a = b ↔ (a.n0 = b.n0 ∧ a.n1 = b.n1 ∧ a.n2 = b.n2 ∧ a.n3 = b.n3) ∧ a.cnt = b.cnt ∧ a.tag.toList = b.tag.toList := by
  constructor
  · rintro rfl
    exact ⟨⟨rfl, rfl, rfl, rfl⟩, rfl, rfl⟩
  · rintro ⟨⟨h0, h1, h2, h3⟩, h4, h5⟩
    obtain ⟨a0, a1, a2, a3, ac, at'⟩ := a
    obtain ⟨b0, b1, b2, b3, bc, bt⟩ := b
    simp only at h0 h1 h2 h3 h4 h5
    rw [ByteArray.toList_eq, ByteArray.toList_eq] at h5
    rw [h0, h1, h2, h3, h4, vb_inj h5]
theorem eq_fieldsV (a b : Ver) (w : World) : (Op.eqFields 9999 (verC a) (verC b) [{ name := "Nums", type := 102, offset := 0, embedded := false, tag := "", pkgPath := "", byteOffset := 0 }, { name := "Count", type := 3, offset := 4, embedded := false, tag := "", pkgPath := "", byteOffset := 32 }, { name := "Tag", type := 9, offset := 5, embedded := false, tag := "", pkgPath := "", byteOffset := 40 }]).run Tryz.prog w = .ok (decide (a = b)) w := by
  have p0 := part_nums a w
  have p1 := part_cnt a w
  have p2 := part_tag a w
  have q0 := part_nums b w
  have q1 := part_cnt b w
  have q2 := part_tag b w
  have e0 := eq_nums 9997 a.n0 a.n1 a.n2 a.n3 b.n0 b.n1 b.n2 b.n3 w
  have e1 := run_equalIn_int (P := Tryz.prog) w 9998 3 .i64 .i64 a.cnt b.cnt Tryz.underlying3
  have e2 := run_equalIn_string (P := Tryz.prog) w 9998 9 a.tag b.tag Tryz.underlying9
  have he := ver_eq a b
  simp only [Op.eqFields, Sem.run_bind, Sem.run_ite, p0, p1, p2, q0, q1, q2, e0, e1, e2, Result.andThen_ok, Sem.run_pure]
  by_cases h0 : a.n0 = b.n0 ∧ a.n1 = b.n1 ∧ a.n2 = b.n2 ∧ a.n3 = b.n3
  · by_cases h1 : a.cnt = b.cnt
    · by_cases h2 : a.tag.toList = b.tag.toList
      · have h := he.2 ⟨h0, h1, h2⟩
        simp [h]
      · have h : ¬ a = b := fun e => h2 (he.1 e).2.2
        simp [h0, h1, h2, h]
    · have h : ¬ a = b := fun e => h1 (he.1 e).2.1
      simp [h0, h1, h]
  · have h : ¬ a = b := fun e => h0 (he.1 e).1
    rw [decide_eq_false h0, decide_eq_false h]
    simp
/-- Two versions compared by ==. -/
theorem eq_ver (a b : Ver) (w : World) : (Op.equalIn 10000 112 (verV a) (verV b)).run Tryz.prog w = .ok (decide (a = b)) w := by
  have h := run_equalIn_struct (P := Tryz.prog) w 9999 112 (verC a) (verC b) (by rw [fieldsP]; exact Tryz.underlying112) (by kernel_rfl)
  refine h.trans ?_
  rw [fieldsP]
  exact eq_fieldsV a b w
theorem eq_verR (a b : Ver) (w : World) : (Op.equalIn 10000 104 (verV a) (verV b)).run Tryz.prog w = .ok (decide (a = b)) w := by
  have h := run_equalIn_struct (P := Tryz.prog) w 9999 104 (verC a) (verC b) (by rw [fieldsR]; exact Tryz.underlying104) (by kernel_rfl)
  refine h.trans ?_
  rw [fieldsR]
  exact eq_fieldsV a b w
section
variable {w : World} {ops : Array Oper} {rest : List Oper} {o : Oper} {act : Act} {Q : Exit → Act → World → Prop}
theorem guardP : Tryz.prog.eqGuardType Tryz.prog.depth 112 = false := by kernel_rfl
theorem guardR : Tryz.prog.eqGuardType Tryz.prog.depth 104 = false := by kernel_rfl
theorem exec_eqv (t : TypeId) (hg : Tryz.prog.eqGuardType Tryz.prog.depth t = false) (a b : Ver) (he : (Op.equalIn 10000 t (verV a) (verV b)).run Tryz.prog w = .ok (decide (a = b)) w) (x y : Operand) (ho : o.op = .binOp .eql t x y t) (hx : act.eval x = verV a) (hy : act.eval y = verV b) :
    (execOp act.eval o).run Tryz.prog w = .ok (.value (.bool (decide (a = b)))) w := by
  unfold execOp
  simp only [ho, hx, hy]
  have h1 := run_eqGuard_agg (P := Tryz.prog) w .eql t x y (verC a) (verC b) hg
  have h2 := run_eql_struct (P := Tryz.prog) w t (verC a) (verC b)
  rw [he] at h2
  simp only [Sem.run_bind, Sem.run_pure, Result.andThen_ok, h1, h2]
theorem wp_eqv (t : TypeId) (hg : Tryz.prog.eqGuardType Tryz.prog.depth t = false) (a b : Ver) (he : ∀ w, (Op.equalIn 10000 t (verV a) (verV b)).run Tryz.prog w = .ok (decide (a = b)) w) (hgd : o.guard = none) (x y : Operand) (ho : o.op = .binOp .eql t x y t) (hx : act.eval x = verV a) (hy : act.eval y = verV b)
    (k : wpList Tryz.prog ops Q rest (act.put o.dst (.bool (decide (a = b)))) w) : wpList Tryz.prog ops Q (o :: rest) act w :=
  wpList_plain hgd fun _ hK => by
    unfold Oper.wp
    rw [exec_eqv t hg a b (he w) x y ho hx hy]
    exact hK _ _ k
end
end Go.Proofs.YtkbhckjpmgkgjaaGreatDoor
