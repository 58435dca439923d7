/- My own work: what the bound gives of a derivation's lists and texts. -/
import Derived.Test.YtmpgfepkdhjibaaDoorETabs
import Derived.Test.YtmpgfepkdhjibaaDoorOpenD
import Derived.Test.YtmpgfepkdhjibaaDoorRefT
namespace Go.Proofs.YtmpgfepkdhjibaaDoor
open Go.ChangeShapes Go.WideShapes Go.ChangeAt Go.RowKit

section
variable {H : Type}
theorem bulk_one (d : DataW H) : 1 ≤ Rows.uptoBulk d := by
  cases d with
  | lit l => cases l <;> simp [Rows.uptoBulk]
  | nil => simp [Rows.uptoBulk]
  | ptr d => simp [Rows.uptoBulk]
  | slice elems spare => simp [Rows.uptoBulk]
  | agg parts => simp [Rows.uptoBulk]
  | iface t d => simp [Rows.uptoBulk]
  | map entries => simp [Rows.uptoBulk]
  | held h => simp [Rows.uptoBulk]
theorem bulk_len (l : List (DataW H)) : l.length ≤ Rows.uptoBulkAll l := by
  induction l with
  | nil => simp [Rows.uptoBulkAll]
  | cons x r ih => have := bulk_one x; simp only [Rows.uptoBulkAll, List.length_cons]; omega
/-- A list's length and its elements' data. -/
theorem listD_bulk {α : Type} {R : α → DataW H → Prop} {l : List α} {x : DataW H} (h : ListD R l x) : l.length ≤ Rows.uptoBulk x ∧ ∀ a ∈ l, ∃ d, R a d ∧ Rows.uptoBulk d ≤ Rows.uptoBulk x := by
  rcases h with ⟨rfl, rfl⟩ | ⟨ds, sp, rfl, h1, h2⟩
  · exact ⟨by simp, fun a ha => by cases ha⟩
  · have h3 := bulk_len ds
    simp only [Rows.uptoBulk]
    refine ⟨by omega, fun a ha => ?_⟩
    obtain ⟨i, hi, rfl⟩ := List.mem_iff_getElem.1 ha
    have h4 := bulk_part (H := H) (List.getElem_mem (by omega : i < ds.length))
    exact ⟨ds[i]'(by omega), h2 i hi (by omega), by omega⟩
theorem str_bulk {s : ByteArray} {d : DataW H} (h : StrD s d) : s.size ≤ Rows.uptoBulk d := by
  rw [show d = _ from h, bulk_str]
  have : s.data.toList.length = s.size := by rw [Array.length_toList]; rfl
  omega
theorem lit_bulk (s : ByteArray) : s.size ≤ Rows.uptoBulk (DataW.lit (H := H) (.string s.data.toList)) := str_bulk rfl
theorem sm_of {d : Dv} {x : DataW H} (h : DrvD d x) (hb : Rows.uptoBulk x ≤ 1048576) : Sm d := by
  obtain ⟨d0, d1, d2, d5, d6, rfl, h0, h1, h2, h5, h6⟩ := h
  simp only [Rows.uptoBulk, Rows.uptoBulkAll] at hb
  have y := lit_bulk (H := H) d.sys
  have z := lit_bulk (H := H) d.bld
  simp only [Rows.uptoBulk] at y z
  obtain ⟨a0, b0⟩ := listD_bulk h0
  obtain ⟨a1, b1⟩ := listD_bulk h1
  obtain ⟨a2, b2⟩ := listD_bulk h2
  obtain ⟨a5, b5⟩ := listD_bulk h5
  obtain ⟨a6, b6⟩ := listD_bulk h6
  refine ⟨by omega, by omega, by omega, by omega, by omega, fun o ho => ?_, fun o ho => ?_, fun o ho => ?_, fun s hs => ?_, by omega, by omega, fun s hs => ?_, fun o ho => ?_⟩
  · obtain ⟨e, ⟨dn, rfl, hn⟩, he⟩ := b1 o ho
    obtain ⟨an, _⟩ := listD_bulk hn
    simp only [Rows.uptoBulk, Rows.uptoBulkAll] at he
    omega
  · obtain ⟨e, hr, he⟩ := b0 o ho
    rw [show e = _ from hr] at he
    have k0 := lit_bulk (H := H) o.1
    have k1 := lit_bulk (H := H) o.2.1
    have k2 := lit_bulk (H := H) o.2.2
    simp only [Rows.uptoBulk, Rows.uptoBulkAll] at he k0 k1 k2
    omega
  · obtain ⟨e, ⟨dn, rfl, hn⟩, he⟩ := b1 o ho
    have k0 := lit_bulk (H := H) o.1
    simp only [Rows.uptoBulk, Rows.uptoBulkAll] at he k0
    refine ⟨by omega, fun s hs => ?_⟩
    obtain ⟨e2, hr2, he2⟩ := (listD_bulk hn).2 s hs
    have := str_bulk hr2
    omega
  · obtain ⟨e, hr, he⟩ := b2 s hs
    have := str_bulk hr
    omega
  · obtain ⟨e, hr, he⟩ := b5 s hs
    have := str_bulk hr
    omega
  · obtain ⟨e, hr, he⟩ := b6 o ho
    rw [show e = _ from hr] at he
    have k0 := lit_bulk (H := H) o.1
    have k1 := lit_bulk (H := H) o.2
    simp only [Rows.uptoBulk, Rows.uptoBulkAll] at he k0 k1
    omega
end
end Go.Proofs.YtmpgfepkdhjibaaDoor
