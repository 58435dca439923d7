/- My own work: two texts, and two digests, that came in. -/
import Derived.Test.YtdgilhclhnchbaaDoorS2Kit
import Derived.Test.YtdgilhclhnchbaaDoorS2Arr
namespace Go.Proofs.YtdgilhclhnchbaaDoor.S2
open Go.ChangeShapes Go.WideShapes Go.ChangeAt Go.RowKit

theorem cells36 : Tryd.prog.cellsOf 36 = 2 := by kernel_rfl
theorem cells37 : Tryd.prog.cellsOf 37 = 64 := by kernel_rfl
theorem cells9 : Tryd.prog.cellsOf 9 = 1 := by kernel_rfl
/-- Sixty-four bytes. -/
theorem open_two {H : Type} {enc : TypeId × Value → H} {W : World} {base : Nat} {v : Value} {d : DataW H} {p : List MemPlace} (hv : Value.okWide Tryd.prog W .any base 37 v)
    (h : DataW.Trod enc Tryd.prog W 0 (fun _ => true) true 37 v d p) : ∃ f, v = .agg (arr f 64) ∧ (∀ i, 0 ≤ f i ∧ f i < 256) := by
  simp only [Value.okWide, Tryd.underlying37] at hv
  obtain ⟨cs, rfl, hcs, _⟩ := hv
  rw [cells37] at hcs
  obtain ⟨fuel, hf⟩ := h
  obtain ⟨xs, m, _, _, _, hxl, hall⟩ := DataW.trod_array Tryd.underlying37 hf
  have hz : ∀ i, i < 64 → ∃ z : Int, cs[i]? = some (.int .u8 z) ∧ 0 ≤ z ∧ z < 256 := fun i hi => by
    have h1 := hall (i / 32) (by omega)
    rw [cells23] at h1
    have hlt : i / 32 < xs.length := by omega
    rw [List.getElem?_eq_getElem hlt] at h1
    obtain ⟨ys, m', _, _, _, hyl, hally⟩ := DataW.trod_array Tryd.underlying22 h1
    have h2 := hally (i % 32) (by omega)
    rw [cells5, Nat.mul_one] at h2
    have hlt2 : i % 32 < ys.length := by omega
    rw [List.getElem?_eq_getElem hlt2] at h2
    obtain ⟨z, hcz, _, hwf⟩ := DataW.trod_int Tryd.underlying5 h2
    have h3 : cs[i]? = some (.int .u8 z) := by
      have e := congrArg (·[0]?) hcz
      have hi2 : i / 32 * 32 + i % 32 = i := by omega
      have hm := Nat.mod_lt i (by omega : 0 < 32)
      simpa [Value.cells, List.getElem?_take, List.getElem?_drop, hm, hi2] using e
    simp only [Lit.wf, IntKind.min, IntKind.max, IntKind.signed, IntKind.bits, Bool.and_eq_true] at hwf
    simp at hwf
    exact ⟨z, h3, by omega, by omega⟩
  refine ⟨fun i => if i < 64 then (match cs[i]? with | some (.int _ z) => z | _ => 0) else 0, ?_, fun i => ?_⟩
  · congr 1
    apply Array.ext_getElem?
    intro i
    by_cases hi : i < 64
    · obtain ⟨z, h2, _⟩ := hz i hi
      rw [arr_at _ 64 i hi]
      simp only [if_pos hi, h2]
    · have e : (arr (fun i => if i < 64 then (match cs[i]? with | some (.int _ z) => z | _ => 0) else 0) 64)[i]? = none := by simp [arr, Nat.not_lt.1 hi]
      rw [e, Array.getElem?_eq_none (by omega)]
  · by_cases hi : i < 64
    · obtain ⟨z, h2, h3, h4⟩ := hz i hi
      simp only [if_pos hi, h2]
      exact ⟨h3, h4⟩
    · simp only [if_neg hi]
      decide
/-- Two texts. -/
theorem open_texts {H : Type} {enc : TypeId × Value → H} {W : World} {base : Nat} {v : Value} {d : DataW H} {p : List MemPlace} (hv : Value.okWide Tryd.prog W .any base 36 v)
    (h : DataW.Trod enc Tryd.prog W 0 (fun _ => true) true 36 v d p) : ∃ a b, v = .agg #[.string a, .string b] := by
  simp only [Value.okWide, Tryd.underlying36] at hv
  obtain ⟨cs, rfl, hcs, _⟩ := hv
  rw [cells36] at hcs
  obtain ⟨fuel, hf⟩ := h
  obtain ⟨xs, m, _, _, _, hxl, hall⟩ := DataW.trod_array Tryd.underlying36 hf
  have hz : ∀ i, i < 2 → ∃ s, cs[i]? = some (.string s) := fun i hi => by
    have h1 := hall i hi
    rw [cells9, Nat.mul_one] at h1
    have hlt : i < xs.length := by omega
    rw [List.getElem?_eq_getElem hlt] at h1
    obtain ⟨s, hcz, _⟩ := DataW.trod_string Tryd.underlying9 h1
    have e := congrArg (·[0]?) hcz
    exact ⟨s, by simpa [Value.cells, List.getElem?_take, List.getElem?_drop] using e⟩
  obtain ⟨a, ha⟩ := hz 0 (by omega)
  obtain ⟨b, hb⟩ := hz 1 (by omega)
  refine ⟨a, b, ?_⟩
  congr 1
  apply Array.ext_getElem?
  intro i
  match i with
  | 0 => exact ha
  | 1 => exact hb
  | n + 2 => rw [Array.getElem?_eq_none (by omega)]; rfl
end Go.Proofs.YtdgilhclhnchbaaDoor.S2
