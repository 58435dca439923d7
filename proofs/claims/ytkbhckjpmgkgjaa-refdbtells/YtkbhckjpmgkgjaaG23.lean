/- My own work: what RefdbOrder asks, as mathematics. -/
import Derived.Test.YtkbhckjpmgkgjaaG22
import Derived.Test.YtkbhckjpmgkgjaaG16
namespace Go.Proofs.Ytkbhckjpmgkgjaa
open Go.RowKit

/-- What an info refers to reaches the info's own path, and is another one. -/
def Hit (P : List ByteArray) (E : List (Nat × Nat)) (y : Inf) (t : ByteArray) : Prop := t ≠ y.path ∧ ∃ a, P[a]? = some y.path ∧ Rch E (rootsN P [t]) a
theorem rch_sub {D E : List (Nat × Nat)} (h : ∀ x, x ∈ D → x ∈ E) {R : Nat → Prop} {k : Nat} (hk : Rch D R k) : Rch E R k := by
  induction hk with
  | root h1 => exact .root h1
  | step _ h2 ih => exact .step ih (h _ h2)
theorem ring_hit {L : List Inf} {P dv : List ByteArray} {E D : List (Nat × Nat)} {O : List Nat} (hg : Gr L P dv E) (hu : Up P) (hD : ∀ x, x ∈ D ↔ x ∈ E) (hf : ∀ k, ¬ RdyE D P.length O k) (hl : O.length < P.length) : ∃ y ∈ L, ∃ t ∈ y.refs, Hit P E y t := by
  obtain ⟨a, b, h1, h2, h3⟩ := told_ring (fun x hx => hg.edges x ((hD x).1 hx)) hf hl
  obtain ⟨y, hy, h4, t, ht, h5⟩ := (hg.edge (a, b)).1 ((hD _).1 h1)
  refine ⟨y, hy, t, ht, fun e => h2 (hu.inj h4 (by rw [← e]; exact h5)), a, h4, ?_⟩
  exact Rch.cong (fun k hk => ⟨t, List.mem_singleton.2 rfl, by rw [hk]; exact h5⟩) (rch_sub (fun x hx => (hD x).1 hx) h3)
theorem hit_sel {P : List ByteArray} {E : List (Nat × Nat)} (hu : Up P) {y : Inf} (hy : y.path ∈ P) {t : ByteArray} {V : Nat → Bool} (hV : ∀ k, V k = true ↔ Rch E (rootsN P [t]) k) : Hit P E y t ↔ t ≠ y.path ∧ y.path ∈ selN V P := by
  unfold Hit
  obtain ⟨a, ha⟩ := List.mem_iff_getElem?.1 hy
  rw [mem_sel hu ha, hV a]
  constructor
  · rintro ⟨h1, b, hb, h2⟩
    rw [hu.inj ha hb]
    exact ⟨h1, h2⟩
  · rintro ⟨h1, h2⟩
    exact ⟨h1, a, ha, h2⟩
theorem txts_get {P : List ByteArray} {O : List Nat} (hO : ∀ k ∈ O, k < P.length) {i : Nat} (hi : i < O.length) (h2 : i < (txtsN P O).length) : P[O[i]]? = some (txtsN P O)[i] := by
  have := hO O[i] (List.getElem_mem _)
  unfold txtsN
  simp [List.getD, this]
theorem txts_take (P : List ByteArray) (O : List Nat) (i : Nat) : (txtsN P O).take i = txtsN P (O.take i) := by
  unfold txtsN
  rw [List.map_take]
theorem mem_txts {P : List ByteArray} {O : List Nat} (hO : ∀ k ∈ O, k < P.length) {x : ByteArray} : x ∈ txtsN P O ↔ ∃ k ∈ O, P[k]? = some x := by
  unfold txtsN
  rw [List.mem_map]
  constructor
  · rintro ⟨k, hk, rfl⟩
    have := hO k hk
    exact ⟨k, hk, by simp [List.getD, this]⟩
  · rintro ⟨k, hk, h⟩
    exact ⟨k, hk, by simp [List.getD, h]⟩
/-- In an order each comes behind what it refers to. -/
theorem order_refs {L : List Inf} {P dv : List ByteArray} {E D : List (Nat × Nat)} {O : List Nat} (hg : Gr L P dv E) (hD : ∀ x, x ∈ D ↔ x ∈ E) (hO : OTold D P.length O) {i : Nat} (hi : i < (txtsN P O).length) {y : Inf} (hy : y ∈ L) (hp : y.path = (txtsN P O)[i]) {t : ByteArray} (ht : t ∈ y.refs) (htP : t ∈ P) (hne : t ≠ (txtsN P O)[i]) : t ∈ (txtsN P O).take i := by
  have hi' : i < O.length := by unfold txtsN at hi; rw [List.length_map] at hi; exact hi
  have h1 := txts_get hO.lt hi' hi
  obtain ⟨b, hb⟩ := List.mem_iff_getElem?.1 htP
  rw [txts_take, mem_txts fun k hk => hO.lt k (List.mem_of_mem_take hk)]
  refine ⟨b, hO.before i hi' b ((hD _).2 ((hg.edge (O[i], b)).2 ⟨y, hy, by rw [hp]; exact h1, t, ht, hb⟩)) (fun e => hne ?_), hb⟩
  rw [e, h1] at hb
  exact (Option.some.inj hb).symm
theorem order_once {P : List ByteArray} {D : List (Nat × Nat)} {O : List Nat} (hu : Up P) (hO : OTold D P.length O) {i : Nat} (hi : i < (txtsN P O).length) : (txtsN P O)[i] ∉ (txtsN P O).take i := by
  have hi' : i < O.length := by unfold txtsN at hi; rw [List.length_map] at hi; exact hi
  have h1 := txts_get hO.lt hi' hi
  rw [txts_take, mem_txts fun k hk => hO.lt k (List.mem_of_mem_take hk)]
  rintro ⟨k, hk, h2⟩
  have e := hu.inj h1 h2
  obtain ⟨j, hj, hje⟩ := List.getElem_of_mem hk
  rw [List.length_take] at hj
  rw [List.getElem_take] at hje
  exact List.pairwise_iff_getElem.1 hO.nodup j i (by omega) hi' (by omega) (hje.trans e.symm)
theorem StrsAt.take {w : World} {a : Option Addr} {ns : List ByteArray} {c i : Nat} (h : StrsAt w a ns c) (hi : i ≤ ns.length) : StrsAt w a (ns.take i) c := by
  obtain ⟨b, off, h1, h2⟩ := h.ex
  have hl : (ns.take i).length = i := by rw [List.length_take]; omega
  have hle := h.le
  have hlen := h.len
  refine ⟨⟨b, off, fun h0 => h1 (by omega), fun j hj => ?_⟩, fun e => ?_, by omega, h.cap, by omega, fun s hs => h.each s (List.mem_of_mem_take hs)⟩
  · rw [List.getElem_take]
    exact h2 j (by omega)
  · have := h.nil e
    omega
end Go.Proofs.Ytkbhckjpmgkgjaa
