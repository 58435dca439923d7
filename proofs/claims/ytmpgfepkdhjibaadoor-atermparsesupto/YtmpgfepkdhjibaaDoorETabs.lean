/- My own work: the table of signs out of the row's list. -/
import Derived.Test.YtmpgfepkdhjibaaDoorEsc
import Derived.ProofKit
import Derived.OpenShut
import Derived.Deep.DeepHandedRow
import Derived.Lib.LaidTab
namespace Go.Proofs.YtmpgfepkdhjibaaDoor
open Go.ChangeShapes Go.WideShapes Go.ChangeAt Go.RowKit

theorem own : ownKnob Tryd.prog.godebug = none := by kernel_rfl
theorem gE : Tryd.prog.globalNamed "stillroom/aterm.escapes" = some 0 := by kernel_rfl
theorem gEType : (Tryd.prog.globals[0]?).map (·.type) = some 105 := by kernel_rfl
theorem cellsE5 : Tryd.prog.cellsOf 105 = 10 := by kernel_rfl
theorem cellsE : Tryd.prog.cellsOf 104 = 2 := by kernel_rfl
theorem cellsU8 : Tryd.prog.cellsOf 5 = 1 := by kernel_rfl
theorem list2 {l : List Value} (h : l.length = 2) : ∃ a b, l = [a, b] := by
  match l, h with
  | [a, b], _ => exact ⟨a, b, rfl⟩
theorem list10 {l : List Value} (h : l.length = 10) : ∃ a0 a1 a2 a3 a4 a5 a6 a7 a8 a9, l = [a0, a1, a2, a3, a4, a5, a6, a7, a8, a9] := by
  match l, h with
  | [a0, a1, a2, a3, a4, a5, a6, a7, a8, a9], _ => exact ⟨_, _, _, _, _, _, _, _, _, _, rfl⟩
theorem pair_cells {W : World} {fuel : Nat} {cs : List Value} {m s : Int} {p : List MemPlace} (h : DataW.trod (fun _ => ()) Tryd.prog W 0 (fun _ => true) false fuel 104 cs = some (.agg [.lit (.int .u8 m), .lit (.int .u8 s)], p)) : cs = [.int .u8 m, .int .u8 s] := by
  obtain ⟨y0, y1, n, hx, hl, h0, h1⟩ := trod_struct2 Tryd.underlying104 h
  rw [cellsE] at hl
  obtain ⟨z0, e0, rfl, _⟩ := DataW.trod_int Tryd.underlying5 h0
  obtain ⟨z1, e1, rfl, _⟩ := DataW.trod_int Tryd.underlying5 h1
  simp only [Prod.mk.injEq, DataW.agg.injEq, List.cons.injEq, DataW.lit.injEq, Lit.int.injEq, true_and, and_true] at hx
  obtain ⟨⟨rfl, rfl⟩, _⟩ := hx
  obtain ⟨a, b, rfl⟩ := list2 hl
  simp only [cellsU8, List.drop_zero, List.drop_succ_cons, List.take_succ_cons, List.take_zero, List.cons.injEq, and_true] at e0 e1
  rw [e0, e1]
theorem esc_cells {W : World} {fuel : Nat} {cs : List Value} {p : List MemPlace} (h : DataW.trod (fun _ => ()) Tryd.prog W 0 (fun _ => true) false fuel 105 cs = some (Rows.laid_stillroom_aterm_escapes, p)) : cs.toArray = escCells := by
  obtain ⟨xs, m, _, hx, hl, hn, hf⟩ := DataW.trod_array Tryd.underlying105 h
  rw [cellsE5] at hl
  match xs, hn with
  | [x0, x1, x2, x3, x4], _ =>
    have h0 := hf 0 (by omega)
    have h1 := hf 1 (by omega)
    have h2 := hf 2 (by omega)
    have h3 := hf 3 (by omega)
    have h4 := hf 4 (by omega)
    unfold Rows.laid_stillroom_aterm_escapes at hx
    simp only [Prod.mk.injEq, DataW.agg.injEq, List.map_cons, List.map_nil, List.cons.injEq, and_true] at hx
    obtain ⟨⟨e0, e1, e2, e3, e4⟩, _⟩ := hx
    obtain ⟨x0, q0⟩ := x0
    obtain ⟨x1, q1⟩ := x1
    obtain ⟨x2, q2⟩ := x2
    obtain ⟨x3, q3⟩ := x3
    obtain ⟨x4, q4⟩ := x4
    simp only at e0 e1 e2 e3 e4
    subst e0 e1 e2 e3 e4
    have k0 := pair_cells h0
    have k1 := pair_cells h1
    have k2 := pair_cells h2
    have k3 := pair_cells h3
    have k4 := pair_cells h4
    clear hf h0 h1 h2 h3 h4 h
    obtain ⟨a0, a1, a2, a3, a4, a5, a6, a7, a8, a9, rfl⟩ := list10 hl
    simp [cellsE] at k0 k1 k2 k3 k4
    simp [k0, k1, k2, k3, k4, escCells]
theorem eTab_of_head {W : World} {rest : List (String × DataW Unit)} (h : laidMet Tryd.prog (("stillroom/aterm.escapes", Rows.laid_stillroom_aterm_escapes) :: rest) W) : ETab W := by
  obtain ⟨ps, ⟨g', t', cs, fuel, p, q, hg', ht', hvar, hd, _, _⟩, _⟩ := h
  obtain rfl := Option.some.inj (gE.symm.trans hg')
  obtain rfl := Option.some.inj (gEType.symm.trans ht')
  have hc := esc_cells hd
  simp only [Array.toArray_toList] at hc
  subst hc
  unfold World.var? at hvar
  rw [gE] at hvar
  simp only [Option.bind_some] at hvar
  split at hvar
  · rename_i cs t fr hh
    exact ⟨t, fr, by rw [hh]; congr 1; congr 1; exact Option.some.inj hvar⟩
  · cases hvar
theorem eTab_one {W : World} (h : laidMetH Tryd.prog [("stillroom/aterm.escapes", Rows.laid_stillroom_aterm_escapes)] W) : ETab W := eTab_of_head (rest := []) h
/-- What the bound gives of a list's members. -/
theorem bulk_part {H : Type} {d : DataW H} {l : List (DataW H)} (h : d ∈ l) : Rows.uptoBulk d ≤ Rows.uptoBulkAll l := by
  induction l with
  | nil => cases h
  | cons x r ih =>
    simp only [Rows.uptoBulkAll]
    cases List.mem_cons.1 h with
    | inl e => subst e; omega
    | inr e => have := ih e; omega
theorem bulk_str {H : Type} (b : List UInt8) : Rows.uptoBulk (DataW.lit (H := H) (.string b)) = b.length + 1 := by simp [Rows.uptoBulk]
theorem bulk_bound {H : Type} {l : List (DataW H)} (hk : Rows.uptoSmall H l = true) : Rows.uptoBulkAll l ≤ 1048576 := of_decide_eq_true hk
end Go.Proofs.YtmpgfepkdhjibaaDoor
