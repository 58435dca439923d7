/- My own work: what the program and the document tell of a graph, each as one list and one number. -/
import Derived.Test.YtkbhckjpmgkgjaaG36
namespace Go.Proofs.Ytkbhckjpmgkgjaa
open Go.RowKit
open Classical

theorem wrong_there {L : List Inf} (h : ErrThere L) : wrongR L = 13 := if_pos h
theorem wrong_none {L : List Inf} (h : ErrNone L) : wrongR L = 14 := by
  unfold wrongR
  rw [if_neg (fun h2 => h2 h.1), if_pos h]
theorem wrong_fine {L : List Inf} (h : Fine L) : wrongR L = 0 := by
  unfold wrongR
  rw [if_neg (fun h2 => h2 h.1), if_neg]
  rintro ⟨_, y, hy, r, hr, hn⟩
  exact hn (h.2 y hy r hr)
/-- A list that is told, as a slice. -/
def Lst (X : List ByteArray) (w : World) (v : Value) (w' : World) : Prop := ∃ a c, v = .slice a X.length c ∧ StrsAt w' a X c ∧ Below w.heap.size w w'
theorem told_lst {w w' : World} {v : Value} {Y X : List ByteArray} (h : Told w w' v Y) (e : Y = X) (hl : X.length ≤ 4096) (hb : ∀ x ∈ X, x.size ≤ big) : Lst X w v w' := by
  subst e
  obtain ⟨a, c, h1, h2⟩ := h.strs hl hb
  exact ⟨a, c, h1, h2, h.old⟩
theorem nil_lst {w w' : World} (h : Below w.heap.size w w') : Lst [] w (.slice none 0 0) w' := ⟨none, 0, rfl, strs_none _, h⟩
section
variable {L : List Inf} {P dv : List ByteArray} {E : List (Nat × Nat)}
theorem clo_big (hbP : ∀ x ∈ P, x.size ≤ big) (R : List ByteArray) : ∀ x ∈ cloX P R E, x.size ≤ big := fun x hx => by
  unfold cloX at hx
  split at hx
  · cases hx
  · exact hbP x (sel_mem hx)
theorem clo_len (R : List ByteArray) : (cloX P R E).length ≤ P.length := by
  unfold cloX
  split
  · exact Nat.zero_le _
  · exact sel_le _ P
theorem bad_iff (hG : Gr L P dv E) (R : List ByteArray) : (∃ x ∈ R, x ∉ P) ↔ ∃ x ∈ R, x ∉ L.map (·.path) := by
  constructor
  · rintro ⟨x, h1, h2⟩
    exact ⟨x, h1, fun h => h2 ((hG.mem x).2 h)⟩
  · rintro ⟨x, h1, h2⟩
    exact ⟨x, h1, fun h => h2 ((hG.mem x).1 h)⟩
/-- What is reached, by paths, is what is reached by numbers. -/
theorem reach_sel (hG : Gr L P dv E) (hu : Up P) (hf : Fine L) (R : List ByteArray) {Y : List ByteArray} (h1 : Up Y) (h2 : ∀ x, x ∈ Y ↔ RchP L R x) : Y = selN (reachB E (rootsN P R)) P :=
  up_ext h1 (selN_up hu _) fun x => by
    rw [h2, mem_selN]
    constructor
    · intro h
      obtain ⟨k, hk⟩ := hG.num (h.there hf)
      exact ⟨k, hk, decide_eq_true ((rchP_iff hG hf R hk).1 h)⟩
    · rintro ⟨k, hk, h⟩
      exact (rchP_iff hG hf R hk).2 (of_decide_eq_true h)
theorem closD_told (hG : Gr L P dv E) (hu : Up P) (hf : Fine L) (hP : P.length ≤ 4096) (hbP : ∀ x ∈ P, x.size ≤ big) {R : List ByteArray} {w w' : World} {e : Ending} (h : ListD2 (∃ x ∈ R, x ∉ L.map (·.path)) (RchP L R) w e w') :
    ∃ v, e = .returned (.tuple #[v, .int .i64 (cloE P R)]) ∧ Lst (cloX P R E) w v w' := by
  rcases h with ⟨h1, rfl, h2⟩ | ⟨h1, v, Y, rfl, h2, h3, h4⟩
  · have hb := (bad_iff hG R).2 h1
    refine ⟨_, by unfold cloE; rw [if_pos hb], ?_⟩
    unfold cloX
    rw [if_pos hb]
    exact nil_lst h2
  · have hb : ¬ ∃ x ∈ R, x ∉ P := fun h => h1 ((bad_iff hG R).1 h)
    refine ⟨v, by unfold cloE; rw [if_neg hb], told_lst h4 ?_ (Nat.le_trans (clo_len R) hP) (clo_big hbP R)⟩
    unfold cloX
    rw [if_neg hb]
    exact reach_sel hG hu hf R h2 h3
/-- Who refers to a path. -/
noncomputable def rfrX (P : List ByteArray) (E : List (Nat × Nat)) (p : ByteArray) : List ByteArray := if p ∈ P then selN (fun n => decide (∃ k, P[k]? = some p ∧ (n, k) ∈ E)) P else []
noncomputable def rfrE (P : List ByteArray) (p : ByteArray) : Int := if p ∈ P then 0 else 14
theorem rfr_big (hbP : ∀ x ∈ P, x.size ≤ big) (p : ByteArray) : ∀ x ∈ rfrX P E p, x.size ≤ big := fun x hx => by
  unfold rfrX at hx
  split at hx
  · exact hbP x (sel_mem hx)
  · cases hx
theorem rfr_len (p : ByteArray) : (rfrX P E p).length ≤ P.length := by
  unfold rfrX
  split
  · exact sel_le _ P
  · exact Nat.zero_le _
theorem refer_told (hu : Up P) (hP : P.length ≤ 4096) (hbP : ∀ x ∈ P, x.size ≤ big) {p : ByteArray} {w w' : World} {e : Ending} (h : ReferPost P E p w e w') : ∃ v, e = .returned (.tuple #[v, .int .i64 (rfrE P p)]) ∧ Lst (rfrX P E p) w v w' := by
  rcases h with ⟨h1, rfl, h2⟩ | ⟨k, hk, v, rfl, h4⟩
  · refine ⟨_, by unfold rfrE; rw [if_neg h1], ?_⟩
    unfold rfrX
    rw [if_neg h1]
    exact nil_lst h2
  · have hp : p ∈ P := List.mem_of_getElem? hk
    refine ⟨v, by unfold rfrE; rw [if_pos hp], told_lst h4 ?_ (Nat.le_trans (rfr_len p) hP) (rfr_big hbP p)⟩
    unfold rfrX
    rw [if_pos hp]
    refine selN_cong fun j _ => decide_eq_decide.2 ⟨fun h => ⟨k, hk, h⟩, ?_⟩
    rintro ⟨k2, h1, h2⟩
    rw [hu.inj hk h1]
    exact h2
theorem referD_told (hG : Gr L P dv E) (hu : Up P) (hf : Fine L) (hP : P.length ≤ 4096) (hbP : ∀ x ∈ P, x.size ≤ big) {p : ByteArray} {w w' : World} {e : Ending} (h : ListD2 (p ∉ L.map (·.path)) (fun x => ∃ y ∈ L, y.path = x ∧ p ∈ y.refs) w e w') : ∃ v, e = .returned (.tuple #[v, .int .i64 (rfrE P p)]) ∧ Lst (rfrX P E p) w v w' := by
  rcases h with ⟨h1, rfl, h2⟩ | ⟨h1, v, Y, rfl, h2, h3, h4⟩
  · have hp : p ∉ P := fun h => h1 ((hG.mem p).1 h)
    refine ⟨_, by unfold rfrE; rw [if_neg hp], ?_⟩
    unfold rfrX
    rw [if_neg hp]
    exact nil_lst h2
  · have hp : p ∈ P := (hG.mem p).2 (Decidable.not_not.1 h1)
    refine ⟨v, by unfold rfrE; rw [if_pos hp], told_lst h4 ?_ (Nat.le_trans (rfr_len p) hP) (rfr_big hbP p)⟩
    unfold rfrX
    rw [if_pos hp]
    refine up_ext h2 (selN_up hu _) fun x => ?_
    rw [h3, mem_selN]
    constructor
    · rintro ⟨y, hy, rfl, hr⟩
      obtain ⟨k, hk⟩ := hG.num (List.mem_map.2 ⟨y, hy, rfl⟩)
      obtain ⟨j, hj⟩ := hG.num (hf.2 y hy p hr)
      exact ⟨k, hk, decide_eq_true ⟨j, hj, (hG.edge (k, j)).2 ⟨y, hy, hk, p, hr, hj⟩⟩⟩
    · rintro ⟨k, hk, h⟩
      obtain ⟨j, hj, he⟩ := of_decide_eq_true h
      obtain ⟨y, hy, h5, r, h6, h7⟩ := (hG.edge (k, j)).1 he
      refine ⟨y, hy, Option.some.inj (h5.symm.trans hk), ?_⟩
      rw [Option.some.inj (hj.symm.trans h7)]
      exact h6
/-- What a derivation made. -/
noncomputable def derX (P dv : List ByteArray) (p : ByteArray) : List ByteArray := selN (fun n => decide (dv[n]? = some p)) P
theorem derived_told (hP : P.length ≤ 4096) (hbP : ∀ x ∈ P, x.size ≤ big) {p : ByteArray} {w w' : World} {e : Ending} (h : DerivedPost P dv p w e w') : ∃ v, e = .returned v ∧ Lst (derX P dv p) w v w' := by
  obtain ⟨v, rfl, h4⟩ := h
  exact ⟨v, rfl, told_lst h4 rfl (Nat.le_trans (sel_le _ P) hP) fun x hx => hbP x (sel_mem hx)⟩
theorem derivedD_told (hG : Gr L P dv E) (hu : Up P) (hP : P.length ≤ 4096) (hbP : ∀ x ∈ P, x.size ≤ big) {p : ByteArray} {w w' : World} {e : Ending} (h : ListD (fun x => ∃ y ∈ L, y.path = x ∧ y.der = p) w e w') : ∃ v, e = .returned v ∧ Lst (derX P dv p) w v w' := by
  obtain ⟨v, Y, rfl, h2, h3, h4⟩ := h
  refine ⟨v, rfl, told_lst h4 ?_ (Nat.le_trans (sel_le _ P) hP) fun x hx => hbP x (sel_mem hx)⟩
  refine up_ext h2 (selN_up hu _) fun x => ?_
  rw [h3]
  show _ ↔ x ∈ selN _ P
  rw [mem_selN]
  constructor
  · rintro ⟨y, hy, rfl, rfl⟩
    obtain ⟨k, hk⟩ := hG.num (List.mem_map.2 ⟨y, hy, rfl⟩)
    exact ⟨k, hk, decide_eq_true (hG.der y hy k hk)⟩
  · rintro ⟨k, hk, h⟩
    obtain ⟨y, hy, h5⟩ := List.mem_map.1 ((hG.mem x).1 (List.mem_of_getElem? hk))
    refine ⟨y, hy, h5, ?_⟩
    have h6 := hG.der y hy k (by rw [hk, h5])
    exact Option.some.inj (h6.symm.trans (of_decide_eq_true h))
theorem deadD_told (hG : Gr L P dv E) (hu : Up P) (hf : Fine L) (hP : P.length ≤ 4096) (hbP : ∀ x ∈ P, x.size ≤ big) {R : List ByteArray} {w w' : World} {e : Ending} (h : ListD (fun x => x ∈ L.map (·.path) ∧ ¬ RchP L R x) w e w') : ∃ v, e = .returned v ∧ Lst (deadX P R E) w v w' := by
  obtain ⟨v, Y, rfl, h2, h3, h4⟩ := h
  refine ⟨v, rfl, told_lst h4 ?_ (Nat.le_trans (sel_le _ P) hP) fun x hx => hbP x (sel_mem hx)⟩
  refine up_ext h2 (selN_up hu _) fun x => ?_
  rw [h3]
  show _ ↔ x ∈ selN _ P
  rw [mem_selN]
  constructor
  · rintro ⟨h5, h6⟩
    obtain ⟨k, hk⟩ := hG.num h5
    refine ⟨k, hk, ?_⟩
    unfold reachB
    rw [decide_eq_false (fun h => h6 ((rchP_iff hG hf R hk).2 h))]
    rfl
  · rintro ⟨k, hk, h⟩
    refine ⟨(hG.mem x).1 (List.mem_of_getElem? hk), fun h6 => ?_⟩
    unfold reachB at h
    rw [decide_eq_true ((rchP_iff hG hf R hk).1 h6)] at h
    cases h
theorem refers_iff (hG : Gr L P dv E) (hf : Fine L) {y : Inf} (hy : y ∈ L) (p : ByteArray) : (∃ i j : Nat, P[i]? = some y.path ∧ P[j]? = some p ∧ (i, j) ∈ E) ↔ p ∈ y.refs := by
  constructor
  · rintro ⟨i, j, h1, h2, h3⟩
    obtain ⟨z, hz, h4, r, h5, h6⟩ := (hG.edge (i, j)).1 h3
    obtain rfl := inf_one hf.1 hz hy (Option.some.inj (h4.symm.trans h1))
    rw [Option.some.inj (h2.symm.trans h6)]
    exact h5
  · intro h
    obtain ⟨i, hi⟩ := hG.num (List.mem_map.2 ⟨y, hy, rfl⟩)
    obtain ⟨j, hj⟩ := hG.num (hf.2 y hy p h)
    exact ⟨i, j, hi, hj, (hG.edge (i, j)).2 ⟨y, hy, hi, p, h, hj⟩⟩
end
/-- The infos' own memory while their references are written over. -/
structure QSt (w1 w3 wi : World) (B : Nat) (L : List Inf) (ov : Value) (rv : Nat → Value) : Prop where
  old : Below w1.heap.size w1 wi
  up : ∀ k, B ≤ k → wi.heap[k]? = w3.heap[k]?
  sz : w3.heap.size = wi.heap.size
  out : wi.ownsRow w1.heap.size 33 4 ov L.length (flatL L rv L.length)
  rfs : ∀ t (_ : t < L.length), ∃ a c, rv t = .slice a L[t].refs.length c ∧ L[t].refs.length ≤ c ∧ (0 < L[t].refs.length → ∃ g C, a = some ⟨g, 0, none⟩ ∧ w1.heap.size ≤ g ∧ g < B ∧ Row wi g C 9 ∧ ∀ j, j < L[t].refs.length → ∃ z : ByteArray, C[j]? = some (.string z))
theorem QSt.start {w1 w2 w3 : World} {L : List Inf} {ov : Value} {rv : Nat → Value} (h : OwnSt w1 L L.length ov rv w2) (hb : Below w2.heap.size w2 w3) : QSt w1 w3 w3 w2.heap.size L ov rv := by
  refine ⟨h.old.trans (hb.mono h.old.size), fun _ _ => rfl, rfl, ownsRow_keep' h.out fun g _ hl => hb.block g hl, fun t ht => ?_⟩
  have hv := h.refs t ht ht
  obtain ⟨hl, ⟨h1, h2⟩ | ⟨g, cap, cur, h1, h2, h3, h4, h5, h6, h7⟩⟩ := id hv
  · exact ⟨none, 0, by rw [h1, h2], by omega, fun h0 => absurd h0 (by omega)⟩
  · refine ⟨some ⟨g, 0, none⟩, cap, h1, h4, fun _ => ⟨g, cur, rfl, h2, (ownsRow_lt' hv g (by rw [h1]; rfl)).1, (hb.block g (ownsRow_lt' hv g (by rw [h1]; rfl)).1).trans h3, fun j hj => ⟨L[t].refs[j], ?_⟩⟩⟩
    have hrow : Row w2 g cur 9 := h3
    have hv2 := hv
    rw [h1] at hv2
    have hc := hv2.cellAt j (by simpa using hj)
    rw [List.getElem?_map, List.getElem?_eq_getElem hj] at hc
    rw [← hrow.cell j]
    exact hc
theorem QSt.put {w1 w3 wi : World} {B : Nat} {L : List Inf} {ov : Value} {rv : Nat → Value} (h : QSt w1 w3 wi B L ov rv) {g k : Nat} {C : Array Value} (hg : w1.heap.size ≤ g) (hgB : g < B) (hr : Row wi g C 9) (x : ByteArray) : QSt w1 w3 (wi.setCell ⟨g, k, none⟩ (.string x)) B L ov rv := by
  refine ⟨h.old.trans ⟨rfl, rfl, rfl, by simp, fun j hj => heap_setCell_other wi ⟨g, k, none⟩ j _ (by show j ≠ g; omega)⟩, fun j hj => (heap_setCell_other wi ⟨g, k, none⟩ j _ (by show j ≠ g; omega)).trans (h.up j hj), by rw [h.sz]; simp, ownsRow_keep' h.out fun j hj _ => heap_setCell_other wi ⟨g, k, none⟩ j _ (fun e => ?_), fun t ht => ?_⟩
  · obtain ⟨D, hD⟩ := ownsRow_row h.out j hj
    have e2 : j = g := e
    rw [e2, show wi.heap[g]? = some (.cells C 9 (0, 0)) from hr] at hD
    simp at hD
  · obtain ⟨a, c, h1, h2, h3⟩ := h.rfs t ht
    refine ⟨a, c, h1, h2, fun h0 => ?_⟩
    obtain ⟨g2, C2, h4, h5, h6, h7, h8⟩ := h3 h0
    by_cases e : g2 = g
    · subst e
      refine ⟨g2, C2.setIfInBounds k (.string x), h4, h5, h6, h7.setCell (i := k) _, fun j hj => ?_⟩
      obtain ⟨z, hz⟩ := h8 j hj
      by_cases ej : j = k
      · subst ej
        have hlt := (Array.getElem?_eq_some_iff.1 hz).1
        exact ⟨x, by simp [hlt]⟩
      · exact ⟨z, by rw [Array.getElem?_setIfInBounds_ne (fun e => ej e.symm)]; exact hz⟩
    · exact ⟨g2, C2, h4, h5, h6, h7.setCell_other e _, h8⟩
set_option maxRecDepth 20000 in
theorem names12_ok (w : World) : Calls Try.prog 8 #[] w fun e w' => e = .returned (.bool true) ∧ w' = w := by
  go_enter Try.func8, Try.ntmps8
  go_wp2
  go_ret
  exact ⟨rfl, rfl⟩
end Go.Proofs.Ytkbhckjpmgkgjaa
