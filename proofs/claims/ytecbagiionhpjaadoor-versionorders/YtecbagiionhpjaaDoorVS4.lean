/- My own work: what is sorted: all that there was, the greatest first, and sorted once. -/
import Derived.Test.YtecbagiionhpjaaDoorVS3
namespace Go.Proofs.YtecbagiionhpjaaDoor
open Go.RowKit

/-- The texts that Sort tells. -/
def sortedT (vs : List Ver) (L : List ByteArray) : List ByteArray := vs.map (fun v => tx (textV v)) ++ restOf L
theorem text_of {s : ByteArray} {v : Ver} (h : parseV (vb s) = some v) : tx (textV v) = s := by rw [(parse_back h).2, tx_vb]
theorem vers_texts (L : List ByteArray) : ((versOf L).map (fun v => tx (textV v)) ++ restOf L).Perm L := by
  unfold versOf restOf
  induction L with
  | nil => exact List.Perm.refl _
  | cons s L ih =>
    cases h : parseV (vb s) with
    | none =>
      simp only [List.filterMap_cons, h, List.filter_cons, Option.isNone_none, if_true]
      exact (List.perm_middle).trans (List.Perm.cons s ih)
    | some v =>
      simp only [List.filterMap_cons, h, List.filter_cons, Option.isNone_some, List.map_cons, List.cons_append, text_of h]
      simpa using ih
/-- All that there was. -/
theorem sorted_perm {vs : List Ver} {L : List ByteArray} (h : vs.Perm (versOf L)) : (sortedT vs L).Perm L := by
  unfold sortedT
  exact ((h.map _).append_right _).trans (vers_texts L)
theorem parse_vers {L : List ByteArray} {v : Ver} (h : v ∈ versOf L) : parseV (textV v) = some v := parse_text ((mayV_iff v).1 (vers_may h))
theorem parse_rest_none {L : List ByteArray} {s : ByteArray} (h : s ∈ restOf L) : parseV (vb s) = none := by
  unfold restOf at h
  have := (List.mem_filter.1 h).2
  simpa using this
/-- What is a version's text among them. -/
theorem sorted_parse {vs : List Ver} {L : List ByteArray} (h : vs.Perm (versOf L)) (i : Nat) (hi : i < (sortedT vs L).length) : parseV (vb ((sortedT vs L)[i])) = vs[i]? := by
  unfold sortedT at hi ⊢
  by_cases hv : i < vs.length
  · rw [List.getElem_append_left (by rw [List.length_map]; exact hv), List.getElem_map, vb_tx, List.getElem?_eq_getElem hv]
    exact parse_vers (h.mem_iff.1 (List.getElem_mem hv))
  · rw [List.getElem_append_right (by rw [List.length_map]; omega), List.getElem?_eq_none (by omega)]
    exact parse_rest_none (List.getElem_mem _)
/-- Two that fall and have the same are one. -/
theorem falls_one {a b : List Ver} (h : a.Perm b) (ha : Falls a) (hb : Falls b) : a = b :=
  List.Perm.eq_of_pairwise (le := fun x y => 0 ≤ cmpV x y) (fun x y _ _ h1 h2 => by
    have := preV.anti x y
    exact (cmpV_zero x y).1 (by omega)) ha hb h
theorem filterMap_back {α β : Type} (f : α → β) (g : β → Option α) (l : List α) (h : ∀ x ∈ l, g (f x) = some x) : (l.map f).filterMap g = l := by
  induction l with
  | nil => rfl
  | cons x l ih =>
    rw [List.map_cons, List.filterMap_cons, h x (List.mem_cons_self ..)]
    show x :: _ = x :: l
    rw [ih (fun y hy => h y (List.mem_cons_of_mem _ hy))]
theorem versOf_sorted {vs : List Ver} {L : List ByteArray} (h : vs.Perm (versOf L)) : versOf (sortedT vs L) = vs := by
  unfold versOf sortedT
  rw [List.filterMap_append]
  have e1 : (vs.map fun v => tx (textV v)).filterMap (fun s => parseV (vb s)) = vs := filterMap_back _ _ vs fun v hv => by
    rw [vb_tx]
    exact parse_vers (h.mem_iff.1 hv)
  have e2 : (restOf L).filterMap (fun s => parseV (vb s)) = [] := by
    rw [List.filterMap_eq_nil_iff]
    exact fun s hs => parse_rest_none hs
  rw [e1, e2, List.append_nil]
theorem restOf_sorted {vs : List Ver} {L : List ByteArray} (h : vs.Perm (versOf L)) : restOf (sortedT vs L) = restOf L := by
  have e1 : (vs.map fun v => tx (textV v)).filter (fun s => (parseV (vb s)).isNone) = [] := by
    rw [List.filter_eq_nil_iff]
    intro s hs
    obtain ⟨v, hv, rfl⟩ := List.mem_map.1 hs
    rw [vb_tx, parse_vers (h.mem_iff.1 hv)]
    simp
  have e2 : (restOf L).filter (fun s => (parseV (vb s)).isNone) = restOf L := by
    rw [List.filter_eq_self]
    intro s hs
    rw [parse_rest_none hs]
    rfl
  unfold sortedT
  show List.filter _ _ = _
  rw [List.filter_append, e1, e2, List.nil_append]
/-- Sorted once. -/
theorem sorted_once {vs us : List Ver} {L : List ByteArray} (h : vs.Perm (versOf L)) (hf : Falls vs) (hu : us.Perm (versOf (sortedT vs L))) (huf : Falls us) : sortedT us (sortedT vs L) = sortedT vs L := by
  rw [versOf_sorted h] at hu
  have e := falls_one hu huf hf
  subst e
  show us.map _ ++ restOf (sortedT us L) = us.map _ ++ restOf L
  rw [restOf_sorted h]
end Go.Proofs.YtecbagiionhpjaaDoor
