/- My own work: the table of a name's bytes out of the row's list; the lists of the rows. -/
import Derived.Test.YthidlckipiamkaaDoorPName
import Derived.Test.YthidlckipiamkaaDoorS2Kit
import Derived.ProofKit
import Derived.OpenShut
import Derived.Deep.DeepHandedRow
import Derived.Lib.LaidTab
import Derived.Stop.LaidErr
namespace Go.Proofs.YthidlckipiamkaaDoor.S2
open Go.ChangeShapes Go.WideShapes Go.ChangeAt Go.RowKit

theorem table_signs {W : World} {rest : List (String × DataW Unit)} (h : laidMet Tryd.prog (("stillroom/bits.signs", Rows.laid_stillroom_bits_signs) :: rest) W) : Tab W := by
  have h1 : Lib.TabIs Tryd.prog W "stillroom/bits.signs" .u8 sgs := Lib.tabIs_of_head (rest := rest) gTab gTabType Tryd.underlying51 Tryd.underlying5 cells5 cells23 h
  unfold Lib.TabIs World.var? at h1
  rw [gTab] at h1
  simp only [Option.bind_some] at h1
  split at h1
  · rename_i cs t fr hh
    exact ⟨t, fr, by rw [hh]; congr 1; congr 1; exact Option.some.inj h1⟩
  · cases h1
theorem gN : Tryd.prog.globalNamed "stillroom/path.nameBytes" = some 2 := by kernel_rfl
theorem gNType : (Tryd.prog.globals[2]?).map (·.type) = some 91 := by kernel_rfl
theorem cellsN7 : Tryd.prog.cellsOf 91 = 14 := by kernel_rfl
theorem cellsSpan : Tryd.prog.cellsOf 90 = 2 := by kernel_rfl
theorem list2 {l : List Value} (h : l.length = 2) : ∃ a b, l = [a, b] := by
  match l, h with
  | [a, b], _ => exact ⟨a, b, rfl⟩
theorem list14 {l : List Value} (h : l.length = 14) : ∃ a0 a1 a2 a3 a4 a5 a6 a7 a8 a9 a10 a11 a12 a13, l = [a0, a1, a2, a3, a4, a5, a6, a7, a8, a9, a10, a11, a12, a13] := by
  match l, h with
  | [a0, a1, a2, a3, a4, a5, a6, a7, a8, a9, a10, a11, a12, a13], _ => exact ⟨_, _, _, _, _, _, _, _, _, _, _, _, _, _, rfl⟩
theorem pair_cells {W : World} {fuel : Nat} {cs : List Value} {m s : Int} {p : List MemPlace} (h : DataW.trod (fun _ => ()) Tryd.prog W 0 (fun _ => true) false fuel 90 cs = some (.agg [.lit (.int .u8 m), .lit (.int .u8 s)], p)) : cs = [.int .u8 m, .int .u8 s] := by
  obtain ⟨y0, y1, n, hx, hl, h0, h1⟩ := trod_struct2 Tryd.underlying90 h
  rw [cellsSpan] at hl
  obtain ⟨z0, e0, rfl, _⟩ := DataW.trod_int Tryd.underlying5 h0
  obtain ⟨z1, e1, rfl, _⟩ := DataW.trod_int Tryd.underlying5 h1
  simp only [Prod.mk.injEq, DataW.agg.injEq, List.cons.injEq, DataW.lit.injEq, Lit.int.injEq, true_and, and_true] at hx
  obtain ⟨⟨rfl, rfl⟩, _⟩ := hx
  obtain ⟨a, b, rfl⟩ := list2 hl
  simp only [cells5, List.drop_zero, List.drop_succ_cons, List.take_succ_cons, List.take_zero, List.cons.injEq, and_true] at e0 e1
  rw [e0, e1]
theorem span_cells {W : World} {fuel : Nat} {cs : List Value} {p : List MemPlace} (h : DataW.trod (fun _ => ()) Tryd.prog W 0 (fun _ => true) false fuel 91 cs = some (Rows.laid_stillroom_path_nameBytes, p)) : cs.toArray = spanArr := by
  obtain ⟨xs, m, _, hx, hl, hn, hf⟩ := DataW.trod_array Tryd.underlying91 h
  rw [cellsN7] at hl
  match xs, hn with
  | [x0, x1, x2, x3, x4, x5, x6], _ =>
    have h0 := hf 0 (by omega)
    have h1 := hf 1 (by omega)
    have h2 := hf 2 (by omega)
    have h3 := hf 3 (by omega)
    have h4 := hf 4 (by omega)
    have h5 := hf 5 (by omega)
    have h6 := hf 6 (by omega)
    unfold Rows.laid_stillroom_path_nameBytes at hx
    simp only [Prod.mk.injEq, DataW.agg.injEq, List.map_cons, List.map_nil, List.cons.injEq, and_true] at hx
    obtain ⟨⟨e0, e1, e2, e3, e4, e5, e6⟩, _⟩ := hx
    obtain ⟨x0, q0⟩ := x0
    obtain ⟨x1, q1⟩ := x1
    obtain ⟨x2, q2⟩ := x2
    obtain ⟨x3, q3⟩ := x3
    obtain ⟨x4, q4⟩ := x4
    obtain ⟨x5, q5⟩ := x5
    obtain ⟨x6, q6⟩ := x6
    simp only at e0 e1 e2 e3 e4 e5 e6
    subst e0 e1 e2 e3 e4 e5 e6
    have k0 := pair_cells h0
    have k1 := pair_cells h1
    have k2 := pair_cells h2
    have k3 := pair_cells h3
    have k4 := pair_cells h4
    have k5 := pair_cells h5
    have k6 := pair_cells h6
    clear hf h0 h1 h2 h3 h4 h5 h6 h
    obtain ⟨a0, a1, a2, a3, a4, a5, a6, a7, a8, a9, a10, a11, a12, a13, rfl⟩ := list14 hl
    simp [cellsSpan] at k0 k1 k2 k3 k4 k5 k6
    simp [k0, k1, k2, k3, k4, k5, k6, spanArr]
theorem nTab_of_head {W : World} {rest : List (String × DataW Unit)} (h : laidMet Tryd.prog (("stillroom/path.nameBytes", Rows.laid_stillroom_path_nameBytes) :: rest) W) : NTab W := by
  obtain ⟨ps, ⟨g', t', cs, fuel, p, q, hg', ht', hvar, hd, _, _⟩, _⟩ := h
  obtain rfl := Option.some.inj (gN.symm.trans hg')
  obtain rfl := Option.some.inj (gNType.symm.trans ht')
  have hc := span_cells hd
  simp only [Array.toArray_toList] at hc
  subst hc
  unfold World.var? at hvar
  rw [gN] at hvar
  simp only [Option.bind_some] at hvar
  split at hvar
  · rename_i cs t fr hh
    exact ⟨t, fr, by rw [hh]; congr 1; congr 1; exact Option.some.inj hvar⟩
  · cases hvar
/-- What the list of two gives. -/
theorem tablesP {W : World} (h : laidMetH Tryd.prog [("stillroom/bits.signs", Rows.laid_stillroom_bits_signs), ("stillroom/path.nameBytes", Rows.laid_stillroom_path_nameBytes)] W) : Tab W ∧ NTab W := by
  have h' : laidMet Tryd.prog [("stillroom/bits.signs", Rows.laid_stillroom_bits_signs), ("stillroom/path.nameBytes", Rows.laid_stillroom_path_nameBytes)] W := h
  exact ⟨table_signs h', nTab_of_head h'.tail⟩
end Go.Proofs.YthidlckipiamkaaDoor.S2
