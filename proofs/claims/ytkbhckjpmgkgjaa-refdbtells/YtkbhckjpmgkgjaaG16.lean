/- My own work: what RefdbDead says, as mathematics; its lists in memory. -/
import Derived.Test.YtkbhckjpmgkgjaaG15
import Derived.Test.YtkbhckjpmgkgjaaPermA
namespace Go.Proofs.Ytkbhckjpmgkgjaa
open Go.RowKit

section
variable {P : List ByteArray} {V V' : Nat → Bool}
theorem selN_cong (h : ∀ k, k < P.length → V k = V' k) : selN V P = selN V' P := by
  unfold selN selTo
  congr 1
  exact List.filter_congr fun k hk => h k (List.mem_range.1 hk)
theorem selN_len (V : Nat → Bool) (P : List ByteArray) : (selN V P).length + (selN (fun k => !V k) P).length = P.length := by
  have h : ∀ l : List Nat, (l.filter V).length + (l.filter fun k => !V k).length = l.length := fun l => by
    induction l with
    | nil => rfl
    | cons x l ih => cases hv : V x <;> simp [hv] <;> omega
  unfold selN selTo
  rw [List.length_map, List.length_map, h, List.length_range]
theorem mem_sel (hu : Up P) {k : Nat} {x : ByteArray} (hk : P[k]? = some x) : x ∈ selN V P ↔ V k = true := by
  rw [mem_selN]
  constructor
  · rintro ⟨j, hj, hv⟩
    rw [hu.inj hk hj]
    exact hv
  · intro hv
    exact ⟨k, hk, hv⟩
theorem sel_le (V : Nat → Bool) (P : List ByteArray) : (selN V P).length ≤ P.length := selTo_len V P P.length
theorem sel_mem {x : ByteArray} (h : x ∈ selN V P) : x ∈ P := by
  obtain ⟨k, hk, _⟩ := (mem_selN V P x).1 h
  exact List.mem_of_getElem? hk
end
theorem Rch.cong {E : List (Nat × Nat)} {R R' : Nat → Prop} (h : ∀ k, R k → R' k) {k : Nat} (hk : Rch E R k) : Rch E R' k := by
  induction hk with
  | root hr => exact .root (h _ hr)
  | step _ hx ih => exact .step ih hx
/-- What is reached by what is reached was reached. -/
theorem Rch.again {E : List (Nat × Nat)} {R R' : Nat → Prop} (h : ∀ k, R' k → Rch E R k) {k : Nat} (hk : Rch E R' k) : Rch E R k := by
  induction hk with
  | root hr => exact h _ hr
  | step _ hx ih => exact .step ih hx
theorem bool_iff {a b : Bool} (h : a = true ↔ b = true) : a = b := by
  cases a <;> cases b <;> simp_all
/-- A told list as a slice. -/
theorem Told.strs {w w' : World} {v : Value} {X : List ByteArray} (h : Told w w' v X) (hl : X.length ≤ 4096) (he : ∀ x ∈ X, x.size ≤ big) : ∃ a c, v = .slice a X.length c ∧ StrsAt w' a X c := by
  obtain ⟨a, c, h1, h2, _⟩ := own_strs h.own (by unfold big; omega) he
  exact ⟨a, c, h1, h2⟩
theorem Gr.edges {L : List Inf} {P dv : List ByteArray} {E : List (Nat × Nat)} (h : Gr L P dv E) : ∀ x ∈ E, x.1 < P.length ∧ x.2 < P.length := fun x hx => by
  obtain ⟨i, _, h1, r, _, h2⟩ := (h.edge x).1 hx
  exact ⟨(List.getElem?_eq_some_iff.1 h1).1, (List.getElem?_eq_some_iff.1 h2).1⟩
theorem GAt.big {w : World} {g : Nat} {P dv : List ByteArray} {E : List (Nat × Nat)} (h : GAt w g P dv E) : ∀ x ∈ P, x.size ≤ Go.Proofs.Ytkbhckjpmgkgjaa.big := by
  obtain ⟨_, _, _, _, _, _, _, _, hS, _, _⟩ := h.ex
  exact hS.each
/-- The paths of infos that are among some texts. -/
def thereL (L : List Inf) (roots : List ByteArray) (i : Nat) : List ByteArray := ((L.take i).map (·.path)).filter fun x => decide (x ∈ roots)
theorem thereL_succ (L : List Inf) (roots : List ByteArray) (i : Nat) (hi : i < L.length) : thereL L roots (i + 1) = thereL L roots i ++ (if L[i].path ∈ roots then [L[i].path] else []) := by
  unfold thereL
  rw [List.take_succ_eq_append_getElem hi, List.map_append, List.filter_append]
  congr 1
  by_cases h : L[i].path ∈ roots <;> simp [h]
theorem thereL_len (L : List Inf) (roots : List ByteArray) (i : Nat) : (thereL L roots i).length ≤ i := by
  unfold thereL
  refine Nat.le_trans (List.length_filter_le _ _) ?_
  rw [List.length_map, List.length_take]
  omega
/-- The numbers of the roots are those of the roots that are there. -/
theorem there_roots {L : List Inf} {P dv : List ByteArray} {E : List (Nat × Nat)} (h : Gr L P dv E) (roots : List ByteArray) (k : Nat) : rootsN P (thereL L roots L.length) k ↔ rootsN P roots k := by
  unfold rootsN thereL
  rw [List.take_length]
  constructor
  · rintro ⟨x, hx, hk⟩
    rw [List.mem_filter] at hx
    exact ⟨x, of_decide_eq_true hx.2, hk⟩
  · rintro ⟨x, hx, hk⟩
    exact ⟨x, List.mem_filter.2 ⟨(h.mem x).1 (List.mem_of_getElem? hk), decide_eq_true hx⟩, hk⟩
theorem there_sub {L : List Inf} {P dv : List ByteArray} {E : List (Nat × Nat)} (h : Gr L P dv E) (roots : List ByteArray) : ∀ x ∈ thereL L roots L.length, x ∈ P := fun x hx => by
  unfold thereL at hx
  rw [List.take_length, List.mem_filter] at hx
  exact (h.mem x).2 hx.1
/-- A closure is closed. -/
theorem live_closed {L : List Inf} {P dv : List ByteArray} {E : List (Nat × Nat)} (h : Gr L P dv E) (hu : Up P) {R : Nat → Prop} {V : Nat → Bool} (hV : ∀ k, V k = true ↔ Rch E R k) {i : Inf} (hi : i ∈ L) {r : ByteArray} (hr : r ∈ i.refs) (hrP : r ∈ P) (hl : i.path ∈ selN V P) : r ∈ selN V P := by
  obtain ⟨k, hk, hv⟩ := (mem_selN V P _).1 hl
  obtain ⟨j, hj, hje⟩ := List.getElem_of_mem hrP
  have hjr : P[j]? = some r := by rw [List.getElem?_eq_getElem hj, hje]
  rw [mem_sel hu hjr, hV]
  exact .step ((hV k).1 hv) ((h.edge (k, j)).2 ⟨i, hi, hk, r, hr, hjr⟩)
theorem live_again {P : List ByteArray} {E : List (Nat × Nat)} (hu : Up P) {R : Nat → Prop} {V V3 : Nat → Bool} (hV : ∀ k, V k = true ↔ Rch E R k) (hV3 : ∀ k, V3 k = true ↔ Rch E (rootsN P (selN V P)) k) : selN V3 P = selN V P := by
  refine selN_cong fun k hk => bool_iff ?_
  rw [hV3]
  constructor
  · intro h
    rw [hV]
    refine Rch.again (fun j hj => ?_) h
    obtain ⟨x, hx, hjx⟩ := hj
    rw [mem_sel hu hjx] at hx
    exact (hV j).1 hx
  · intro h
    exact .root ⟨P[k], (mem_sel hu (List.getElem?_eq_getElem hk)).2 h, List.getElem?_eq_getElem hk⟩
end Go.Proofs.Ytkbhckjpmgkgjaa
