/- My own work: what RefdbTells asks, as mathematics: lists that rise, each text once; what is reached, by paths; an order, by paths. -/
import Derived.Test.YtkbhckjpmgkgjaaG27
namespace Go.Proofs.Ytkbhckjpmgkgjaa
open Go.RowKit
open Classical

theorem gb_lt_of {a b : ByteArray} (h1 : ¬ gb a < gb b) (h2 : a ≠ b) : gb b < gb a := by
  apply Decidable.byContradiction
  intro h3
  exact h2 (gb_inj (List.le_antisymm (List.not_lt.1 h3) (List.not_lt.1 h1)))
/-- A list's texts, rising, each once. -/
structure SortedOf (Y X : List ByteArray) : Prop where
  up : Up Y
  mem : ∀ x, x ∈ Y ↔ x ∈ X
theorem SortedOf.eq {Y Y' X X' : List ByteArray} (h : SortedOf Y X) (h' : SortedOf Y' X') (hx : ∀ x, x ∈ X ↔ x ∈ X') : Y = Y' := up_ext h.up h'.up fun x => by rw [h.mem, h'.mem, hx]
theorem SortedOf.len {Y X : List ByteArray} (h : SortedOf Y X) : Y.length ≤ X.length := len_le Y X h.up.nodup fun x hx => (h.mem x).1 hx
/-- Above all that was told. -/
def Abv (Y : List ByteArray) (x : ByteArray) : Prop := ∀ y ∈ Y, gb y < gb x
theorem abv_nil (x : ByteArray) : Abv [] x := fun y hy => by cases hy
theorem abv_last {Y : List ByteArray} {z x : ByteArray} (h : Up (Y ++ [z])) : Abv (Y ++ [z]) x ↔ gb z < gb x := by
  constructor
  · exact fun h1 => h1 z (by simp)
  · intro h1 y hy
    rcases List.mem_append.1 hy with h2 | h2
    · exact lt_tr ((List.pairwise_append.1 h).2.2 y h2 z (by simp)) h1
    · rw [List.mem_singleton.1 h2]; exact h1
/-- What sorted has told so far. -/
structure SoSt (X Y : List ByteArray) : Prop where
  up : Up Y
  sub : ∀ y ∈ Y, y ∈ X
  low : ∀ x ∈ X, x ∉ Y → Abv Y x
theorem SoSt.start (X : List ByteArray) : SoSt X [] := ⟨List.Pairwise.nil, (fun y hy => by cases hy), fun x _ _ => abv_nil x⟩
theorem abv_not {Y : List ByteArray} {x : ByteArray} (h : Abv Y x) : x ∉ Y := fun hx => lt_irr _ (h x hx)
theorem SoSt.more {X Y : List ByteArray} (h : SoSt X Y) {b : ByteArray} (hb : b ∈ X) (hgt : Abv Y b) (hle : ∀ x ∈ X, Abv Y x → ¬ gb x < gb b) : SoSt X (Y ++ [b]) := by
  refine ⟨List.pairwise_append.2 ⟨h.up, List.pairwise_singleton _ _, fun y hy z hz => by rw [List.mem_singleton.1 hz]; exact hgt y hy⟩, fun y hy => ?_, fun x hx hn y hy => ?_⟩
  · rcases List.mem_append.1 hy with hy | hy
    · exact h.sub y hy
    · rw [List.mem_singleton.1 hy]; exact hb
  · have h1 : x ∉ Y := fun h2 => hn (List.mem_append_left _ h2)
    have h2 := h.low x hx h1
    rcases List.mem_append.1 hy with hy | hy
    · exact h2 y hy
    · rw [List.mem_singleton.1 hy]
      exact gb_lt_of (hle x hx h2) fun e => hn (by rw [e]; simp)
theorem SoSt.done {X Y : List ByteArray} (h : SoSt X Y) (hno : ∀ x ∈ X, ¬ Abv Y x) : SortedOf Y X :=
  ⟨h.up, fun x => ⟨h.sub x, fun hx => Decidable.byContradiction fun hn => hno x hx (h.low x hx hn)⟩⟩
theorem SoSt.full {X Y : List ByteArray} (h : SoSt X Y) (hl : X.length ≤ Y.length) : SortedOf Y X :=
  ⟨h.up, fun x => ⟨h.sub x, fun hx => Decidable.byContradiction fun hn => by
    have := len_le (x :: Y) X (List.nodup_cons.2 ⟨hn, h.up.nodup⟩) fun y hy => by
      rcases List.mem_cons.1 hy with e | e
      · rw [e]; exact hx
      · exact h.sub y e
    rw [List.length_cons] at this
    omega⟩⟩
theorem SoSt.len {X Y : List ByteArray} (h : SoSt X Y) : Y.length ≤ X.length := len_le Y X h.up.nodup h.sub
/-- The best one so far. -/
structure BeSt (X Y : List ByteArray) (i : Nat) (is : Bool) (best : ByteArray) : Prop where
  no : is = false → ∀ x ∈ X.take i, ¬ Abv Y x
  yes : is = true → best ∈ X ∧ Abv Y best ∧ ∀ x ∈ X.take i, Abv Y x → ¬ gb x < gb best
theorem BeSt.start (X Y : List ByteArray) (b : ByteArray) : BeSt X Y 0 false b := ⟨fun _ x hx => by simp at hx, fun h => by cases h⟩
theorem take_mem_succ {X : List ByteArray} {i : Nat} (hi : i < X.length) {x : ByteArray} (hx : x ∈ X.take (i + 1)) : x ∈ X.take i ∨ x = X[i] := by
  rw [List.take_succ_eq_append_getElem hi] at hx
  rcases List.mem_append.1 hx with h | h
  · exact .inl h
  · exact .inr (List.mem_singleton.1 h)
theorem BeSt.skip {X Y : List ByteArray} {i : Nat} {is : Bool} {best : ByteArray} (h : BeSt X Y i is best) (hi : i < X.length) (hs : ¬ Abv Y X[i] ∨ (is = true ∧ ¬ gb X[i] < gb best)) : BeSt X Y (i + 1) is best := by
  refine ⟨fun e x hx => ?_, fun e => ?_⟩
  · rcases take_mem_succ hi hx with h1 | rfl
    · exact h.no e x h1
    · rcases hs with h2 | ⟨h2, _⟩
      · exact h2
      · rw [e] at h2; cases h2
  · obtain ⟨h1, h2, h3⟩ := h.yes e
    refine ⟨h1, h2, fun x hx ha => ?_⟩
    rcases take_mem_succ hi hx with h4 | rfl
    · exact h3 x h4 ha
    · rcases hs with h5 | ⟨_, h5⟩
      · exact absurd ha h5
      · exact h5
theorem BeSt.take {X Y : List ByteArray} {i : Nat} {is : Bool} {best : ByteArray} (h : BeSt X Y i is best) (hi : i < X.length) (ha : Abv Y X[i]) (hb : is = false ∨ gb X[i] < gb best) : BeSt X Y (i + 1) true X[i] := by
  refine ⟨fun e => (by cases e), fun _ => ⟨List.getElem_mem hi, ha, fun x hx hax => ?_⟩⟩
  rcases take_mem_succ hi hx with h1 | rfl
  · cases is with
    | false => exact absurd hax (h.no rfl x h1)
    | true =>
      rcases hb with hb | hb
      · cases hb
      · exact fun hlt => (h.yes rfl).2.2 x h1 hax (lt_tr hlt hb)
  · exact lt_irr _
/-- What some paths reach. -/
inductive RchP (L : List Inf) (R : List ByteArray) : ByteArray → Prop
  | root {x : ByteArray} : x ∈ R → x ∈ L.map (·.path) → RchP L R x
  | step {x r : ByteArray} {i : Inf} : RchP L R x → i ∈ L → i.path = x → r ∈ i.refs → RchP L R r
theorem RchP.there {L : List Inf} (hf : Fine L) {R : List ByteArray} {x : ByteArray} (h : RchP L R x) : x ∈ L.map (·.path) := by
  cases h with
  | root _ h => exact h
  | step _ h2 _ h4 => exact hf.2 _ h2 _ h4
/-- What is told of it so far. -/
structure ReSt (L : List Inf) (R O : List ByteArray) : Prop where
  nd : O.Nodup
  sub : ∀ x ∈ O, RchP L R x
theorem ReSt.start (L : List Inf) (R : List ByteArray) : ReSt L R [] := ⟨List.nodup_nil, fun x hx => by cases hx⟩
theorem ReSt.more {L : List Inf} {R O : List ByteArray} (h : ReSt L R O) {x : ByteArray} (hx : RchP L R x) (hn : x ∉ O) : ReSt L R (O ++ [x]) := by
  refine ⟨List.nodup_append.2 ⟨h.nd, by simp, fun a ha b hb => ?_⟩, fun y hy => ?_⟩
  · rw [List.mem_singleton.1 hb]
    exact fun e => hn (by rw [← e]; exact ha)
  · rcases List.mem_append.1 hy with h1 | h1
    · exact h.sub y h1
    · rw [List.mem_singleton.1 h1]; exact hx
theorem ReSt.len {L : List Inf} (hf : Fine L) {R O : List ByteArray} (h : ReSt L R O) : O.length ≤ L.length := by
  have := len_le O (L.map (·.path)) h.nd fun x hx => (h.sub x hx).there hf
  rwa [List.length_map] at this
/-- All that it asked. -/
def Asked (L : List Inf) (O : List ByteArray) (i : Nat) : Prop := ∀ t (ht : t < O.length), t < i → ∀ y ∈ L, y.path = O[t] → ∀ r ∈ y.refs, r ∈ O
theorem ReSt.all {L : List Inf} {R O : List ByteArray} (h : ReSt L R O) (hroot : ∀ x ∈ R, x ∈ L.map (·.path) → x ∈ O) (ha : Asked L O O.length) (x : ByteArray) : x ∈ O ↔ RchP L R x := by
  refine ⟨h.sub x, fun hx => ?_⟩
  induction hx with
  | root h1 h2 => exact hroot _ h1 h2
  | step _ h2 h3 h4 ih =>
    obtain ⟨t, ht, e⟩ := List.getElem_of_mem ih
    exact ha t ht ht _ h2 (h3.trans e.symm) _ h4
theorem Gr.num {L : List Inf} {P dv : List ByteArray} {E : List (Nat × Nat)} (h : Gr L P dv E) {x : ByteArray} (hx : x ∈ L.map (·.path)) : ∃ k : Nat, P[k]? = some x := by
  obtain ⟨k, hk, e⟩ := List.getElem_of_mem ((h.mem x).2 hx)
  exact ⟨k, by rw [List.getElem?_eq_getElem hk, e]⟩
theorem rchP_iff {L : List Inf} {P dv : List ByteArray} {E : List (Nat × Nat)} (h : Gr L P dv E) (hf : Fine L) (R : List ByteArray) {k : Nat} {x : ByteArray} (hk : P[k]? = some x) : RchP L R x ↔ Rch E (rootsN P R) k := by
  constructor
  · intro hx
    induction hx generalizing k with
    | root h1 h2 => exact .root ⟨_, h1, hk⟩
    | @step y r i h1 h2 h3 h4 ih =>
      obtain ⟨j, hj⟩ := h.num (h1.there hf)
      exact .step (ih hj) ((h.edge (j, k)).2 ⟨i, h2, by rw [h3]; exact hj, r, h4, hk⟩)
  · intro hx
    induction hx generalizing x with
    | root h1 =>
      obtain ⟨y, hy, h2⟩ := h1
      obtain rfl : y = x := Option.some.inj (h2.symm.trans hk)
      exact .root hy ((h.mem y).1 (List.mem_of_getElem? hk))
    | @step j m h1 h2 ih =>
      obtain ⟨i, h3, h4, r, h5, h6⟩ := (h.edge (j, m)).1 h2
      obtain rfl : r = x := Option.some.inj (h6.symm.trans hk)
      exact .step (ih h4) h3 rfl h5
theorem selTo_up {p : Nat → Bool} {P : List ByteArray} (hu : Up P) : ∀ i, i ≤ P.length → Up (selTo p P i) ∧ ∀ x ∈ selTo p P i, ∃ j, j < i ∧ P[j]? = some x
  | 0, _ => ⟨List.Pairwise.nil, fun x hx => by cases hx⟩
  | i + 1, hi => by
    obtain ⟨h1, h2⟩ := selTo_up (p := p) hu i (by omega)
    cases hp : p i with
    | false => rw [selTo_no hp]; exact ⟨h1, fun x hx => by obtain ⟨j, h3, h4⟩ := h2 x hx; exact ⟨j, by omega, h4⟩⟩
    | true =>
      rw [selTo_yes hp (by omega)]
      refine ⟨List.pairwise_append.2 ⟨h1, List.pairwise_singleton _ _, fun x hx y hy => ?_⟩, fun x hx => ?_⟩
      · rw [List.mem_singleton.1 hy]
        obtain ⟨j, h3, h4⟩ := h2 x hx
        obtain ⟨h5, h6⟩ := List.getElem?_eq_some_iff.1 h4
        rw [← h6]
        exact hu.lt h3 (by omega)
      · rcases List.mem_append.1 hx with hx | hx
        · obtain ⟨j, h3, h4⟩ := h2 x hx
          exact ⟨j, by omega, h4⟩
        · rw [List.mem_singleton.1 hx]
          exact ⟨i, by omega, List.getElem?_eq_getElem (by omega)⟩
theorem selN_up {P : List ByteArray} (hu : Up P) (p : Nat → Bool) : Up (selN p P) := (selTo_up hu P.length (Nat.le_refl _)).1
/-- Whatever tells those paths of whose numbers something holds, rising, tells these. -/
theorem sorted_sel {P X Y : List ByteArray} (hu : Up P) {p : Nat → Bool} (h : SortedOf Y X) (hx : ∀ x, x ∈ X ↔ ∃ k, P[k]? = some x ∧ p k = true) : Y = selN p P :=
  up_ext h.up (selN_up hu p) fun x => by rw [h.mem, hx, mem_selN]
/-- Who may be told next, by paths. -/
def RdyP (L : List Inf) (O : List ByteArray) (x : ByteArray) : Prop := x ∉ O ∧ ∃ i ∈ L, i.path = x ∧ ∀ r ∈ i.refs, r = x ∨ r ∈ O
theorem inf_one {L : List Inf} (hf : (L.map (·.path)).Nodup) {i j : Inf} (hi : i ∈ L) (hj : j ∈ L) (h : i.path = j.path) : i = j := by
  obtain ⟨a, ha, rfl⟩ := List.getElem_of_mem hi
  obtain ⟨b, hb, rfl⟩ := List.getElem_of_mem hj
  have := (List.pairwise_iff_getElem.1 hf)
  rcases Nat.lt_trichotomy a b with h1 | h1 | h1
  · exact absurd (by rw [List.getElem_map, List.getElem_map]; exact h) (this a b (by simpa using ha) (by simpa using hb) h1)
  · subst h1; rfl
  · exact absurd (by rw [List.getElem_map, List.getElem_map]; exact h.symm) (this b a (by simpa using hb) (by simpa using ha) h1)
theorem rdy_iff {L : List Inf} {P dv : List ByteArray} {E : List (Nat × Nat)} (h : Gr L P dv E) (hu : Up P) (hf : Fine L) {O : List Nat} (hO : ∀ k ∈ O, k < P.length) {k : Nat} {x : ByteArray} (hk : P[k]? = some x) : RdyP L (txtsN P O) x ↔ RdyE E P.length O k := by
  have hin : ∀ {j : Nat} {y : ByteArray}, P[j]? = some y → (y ∈ txtsN P O ↔ j ∈ O) := fun {j y} hj => by
    rw [mem_txts hO]
    exact ⟨fun ⟨m, h1, h2⟩ => by rw [hu.inj hj h2]; exact h1, fun h1 => ⟨j, h1, hj⟩⟩
  constructor
  · rintro ⟨h1, i, h2, h3, h4⟩
    refine ⟨(List.getElem?_eq_some_iff.1 hk).1, fun h5 => h1 ((hin hk).2 h5), fun j hj hne => ?_⟩
    obtain ⟨i', h5, h6, r, h7, h8⟩ := (h.edge (k, j)).1 hj
    have e : i'.path = x := Option.some.inj (h6.symm.trans hk)
    obtain rfl : i' = i := inf_one hf.1 h5 h2 (e.trans h3.symm)
    rcases h4 r h7 with h9 | h9
    · rw [h9] at h8
      exact absurd (hu.inj h8 hk) hne
    · exact (hin h8).1 h9
  · rintro ⟨h1, h2, h3⟩
    have hx : x ∈ L.map (·.path) := (h.mem x).1 (List.mem_of_getElem? hk)
    obtain ⟨i, h4, h5⟩ := List.mem_map.1 hx
    refine ⟨fun h6 => h2 ((hin hk).1 h6), i, h4, h5, fun r hr => ?_⟩
    obtain ⟨j, hj⟩ := h.num (hf.2 i h4 r hr)
    by_cases e : j = k
    · subst e
      exact .inl (Option.some.inj (hj.symm.trans hk))
    · exact .inr ((hin hj).2 (h3 j ((h.edge (k, j)).2 ⟨i, h4, by rw [h5]; exact hk, r, hr, hj⟩) e))
theorem up_num {P : List ByteArray} (hu : Up P) {i j : Nat} {x y : ByteArray} (hi : P[i]? = some x) (hj : P[j]? = some y) (h : ¬ gb y < gb x) : i ≤ j := by
  apply Decidable.byContradiction
  intro hlt
  obtain ⟨h1, rfl⟩ := List.getElem?_eq_some_iff.1 hi
  obtain ⟨h2, rfl⟩ := List.getElem?_eq_some_iff.1 hj
  exact h (hu.lt (by omega) h1)
/-- One more is told. -/
theorem OTold.next {L : List Inf} {P dv : List ByteArray} {E : List (Nat × Nat)} (h : Gr L P dv E) (hu : Up P) (hf : Fine L) {O : List Nat} (hO : OTold E P.length O) {x : ByteArray} (hx : RdyP L (txtsN P O) x) (hle : ∀ y, RdyP L (txtsN P O) y → ¬ gb y < gb x) : ∃ k, OTold E P.length (O ++ [k]) ∧ txtsN P (O ++ [k]) = txtsN P O ++ [x] := by
  obtain ⟨_, i, hi, hp, _⟩ := id hx
  obtain ⟨k, hk⟩ := h.num (List.mem_map.2 ⟨i, hi, hp⟩)
  refine ⟨k, .snoc hO ((rdy_iff h hu hf hO.lt hk).1 hx) fun k' hk' => ?_, ?_⟩
  · have hk2 := List.getElem?_eq_getElem (l := P) hk'.1
    exact up_num hu hk hk2 (hle _ ((rdy_iff h hu hf hO.lt hk2).2 hk'))
  · unfold txtsN
    rw [List.map_append]
    congr 1
    show [P.getD k ⟨#[]⟩] = [x]
    rw [List.getD_eq_getElem?_getD, hk]
    rfl
theorem rdy_none {L : List Inf} {P dv : List ByteArray} {E : List (Nat × Nat)} (h : Gr L P dv E) (hu : Up P) (hf : Fine L) {O : List Nat} (hO : OTold E P.length O) (hn : ∀ y, ¬ RdyP L (txtsN P O) y) : ∀ k, ¬ RdyE E P.length O k := fun _ hk =>
  hn _ ((rdy_iff h hu hf hO.lt (List.getElem?_eq_getElem hk.1)).2 hk)
theorem rdy_full {E : List (Nat × Nat)} {n : Nat} {O : List Nat} (hO : OTold E n O) (hl : n ≤ O.length) : ∀ k, ¬ RdyE E n O k := fun k hk => by
  have := len_le (k :: O) (List.range n) (List.nodup_cons.2 ⟨hk.2.1, hO.nodup⟩) fun y hy => by
    rcases List.mem_cons.1 hy with e | e
    · rw [e]; exact List.mem_range.2 hk.1
    · exact List.mem_range.2 (hO.lt y e)
  rw [List.length_cons, List.length_range] at this
  omega
/-- The least of those that may be told, among the infos that were looked at. -/
structure BoSt (L : List Inf) (O : List ByteArray) (i : Nat) (is : Bool) (best : ByteArray) : Prop where
  no : is = false → ∀ y ∈ L.take i, ¬ RdyP L O y.path
  yes : is = true → RdyP L O best ∧ ∀ y ∈ L.take i, RdyP L O y.path → ¬ gb y.path < gb best
theorem BoSt.start (L : List Inf) (O : List ByteArray) (b : ByteArray) : BoSt L O 0 false b := ⟨fun _ x hx => by simp at hx, fun h => by cases h⟩
theorem take_inf_succ {L : List Inf} {i : Nat} (hi : i < L.length) {x : Inf} (hx : x ∈ L.take (i + 1)) : x ∈ L.take i ∨ x = L[i] := by
  rw [List.take_succ_eq_append_getElem hi] at hx
  rcases List.mem_append.1 hx with h | h
  · exact .inl h
  · exact .inr (List.mem_singleton.1 h)
theorem BoSt.skip {L : List Inf} {O : List ByteArray} {i : Nat} {is : Bool} {best : ByteArray} (h : BoSt L O i is best) (hi : i < L.length) (hs : ¬ RdyP L O L[i].path ∨ (is = true ∧ ¬ gb L[i].path < gb best)) : BoSt L O (i + 1) is best := by
  refine ⟨fun e x hx => ?_, fun e => ?_⟩
  · rcases take_inf_succ hi hx with h1 | rfl
    · exact h.no e x h1
    · rcases hs with h2 | ⟨h2, _⟩
      · exact h2
      · rw [e] at h2; cases h2
  · obtain ⟨h1, h3⟩ := h.yes e
    refine ⟨h1, fun x hx ha => ?_⟩
    rcases take_inf_succ hi hx with h4 | rfl
    · exact h3 x h4 ha
    · rcases hs with h5 | ⟨_, h5⟩
      · exact absurd ha h5
      · exact h5
theorem BoSt.take {L : List Inf} {O : List ByteArray} {i : Nat} {is : Bool} {best : ByteArray} (h : BoSt L O i is best) (hi : i < L.length) (ha : RdyP L O L[i].path) (hb : is = false ∨ gb L[i].path < gb best) : BoSt L O (i + 1) true L[i].path := by
  refine ⟨fun e => (by cases e), fun _ => ⟨ha, fun x hx hax => ?_⟩⟩
  rcases take_inf_succ hi hx with h1 | rfl
  · cases is with
    | false => exact absurd hax (h.no rfl x h1)
    | true =>
      rcases hb with hb | hb
      · cases hb
      · exact fun hlt => (h.yes rfl).2 x h1 hax (lt_tr hlt hb)
  · exact lt_irr _
/-- What is wrong with infos. -/
noncomputable def wrongR (L : List Inf) : Int := if ErrThere L then 13 else if ErrNone L then 14 else 0
end Go.Proofs.Ytkbhckjpmgkgjaa
