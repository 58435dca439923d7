/- A map from numbers to sectors that a call made: looked up, laid into, counted, emptied. -/
import Derived.Test.YtdbnnljlbfjobaaGreatDoorSector
import Derived.MapKept
import Derived.Maps.RangeRun
namespace Go.Proofs.YtdbnnljlbfjobaaGreatDoor
open Go.RowKit
open Go.ChangeMaps (setBlock)

/-- What is put: a sector's number and its bytes. -/
structure Pt where
  k : Nat
  f : Nat → Int
def entV (f : Nat → Int) : Value := .agg (byts f 256).toArray

/-- Block gm is a map with these entries, in the order of their coming. -/
structure MapAt (w : World) (gm : Nat) (L : List Pt) : Prop where
  ex : ∃ es clock, w.heap[gm]? = some (.map es clock) ∧ es.toList.map (fun e => (e.key, e.val)) = L.map (fun p => (Value.int .i64 p.k, entV p.f)) ∧ (∀ x ∈ es.toList, x.born < clock) ∧ (es.toList.map (·.born)).Nodup
  nodup : (L.map Pt.k).Nodup
theorem MapAt.lt {w : World} {gm : Nat} {L : List Pt} (h : MapAt w gm L) : gm < w.heap.size := by
  obtain ⟨es, clock, h1, _⟩ := h.ex
  exact (Array.getElem?_eq_some_iff.1 h1).1
theorem MapAt.keep {w w' : World} {gm : Nat} {L : List Pt} (h : MapAt w gm L) (hb : w'.heap[gm]? = w.heap[gm]?) : MapAt w' gm L := by
  obtain ⟨es, clock, h1, h2⟩ := h.ex
  exact ⟨⟨es, clock, hb.trans h1, h2⟩, h.nodup⟩
theorem MapAt.below {w w' : World} {gm : Nat} {L : List Pt} (h : MapAt w gm L) (hb : Below w.heap.size w w') : MapAt w' gm L := h.keep (hb.block gm h.lt)
theorem MapAt.row_ne {w : World} {gm : Nat} {L : List Pt} (h : MapAt w gm L) {k : Nat} {C : Array Value} {t : TypeId} (hr : Row w k C t) : gm ≠ k := fun e => by
  subst e
  obtain ⟨es, clock, h1, _⟩ := h.ex
  have := h1.symm.trans hr
  cases this

/-- What is put at k. -/
def lookL (L : List Pt) (k : Nat) : Option (Nat → Int) := (L.find? (fun p => p.k == k)).map Pt.f
theorem lookL_some {L : List Pt} (hn : (L.map Pt.k).Nodup) {j : Nat} {p : Pt} (h : L[j]? = some p) : lookL L p.k = some p.f := by
  induction L generalizing j with
  | nil => simp at h
  | cons x L ih =>
    have hn' := List.nodup_cons.1 hn
    unfold lookL
    cases j with
    | zero => simp at h; subst h; simp
    | succ j =>
      have hm : p ∈ L := List.mem_of_getElem? (by simpa using h)
      have hne : (x.k == p.k) = false := by
        cases hc : x.k == p.k with
        | false => rfl
        | true => exact absurd (by rw [beq_iff_eq.1 hc]; exact List.mem_map.2 ⟨p, hm, rfl⟩) hn'.1
      rw [List.find?_cons, hne]
      exact ih hn'.2 (by simpa using h)
theorem lookL_none {L : List Pt} {k : Nat} (h : ∀ p ∈ L, p.k ≠ k) : lookL L k = none := by
  unfold lookL
  rw [List.find?_eq_none.2 (fun p hp => by simpa using h p hp)]
  rfl
theorem lookL_append {L : List Pt} {k : Nat} (f : Nat → Int) (h : ∀ p ∈ L, p.k ≠ k) (x : Nat) : lookL (L ++ [⟨k, f⟩]) x = if x = k then some f else lookL L x := by
  unfold lookL
  rw [List.find?_append]
  by_cases hx : x = k
  · subst hx
    rw [List.find?_eq_none.2 (fun p hp => by simpa using h p hp)]
    simp
  · rw [if_neg hx]
    have : List.find? (fun p => p.k == x) [(⟨k, f⟩ : Pt)] = none := by simp [Ne.symm hx]
    rw [this]
    simp
theorem lookL_set {L : List Pt} (hn : (L.map Pt.k).Nodup) {j : Nat} {p : Pt} (h : L[j]? = some p) (f : Nat → Int) (x : Nat) : lookL (L.set j ⟨p.k, f⟩) x = if x = p.k then some f else lookL L x := by
  induction L generalizing j with
  | nil => simp at h
  | cons y L ih =>
    have hn' := List.nodup_cons.1 hn
    cases j with
    | zero =>
      simp at h
      subst h
      unfold lookL
      by_cases hx : x = y.k
      · subst hx; simp
      · have : (y.k == x) = false := by simpa using Ne.symm hx
        simp [this, hx]
    | succ j =>
      have hm : p ∈ L := List.mem_of_getElem? (by simpa using h)
      have hyp : y.k ≠ p.k := fun e => hn'.1 (by rw [e]; exact List.mem_map.2 ⟨p, hm, rfl⟩)
      have ih' := ih hn'.2 (j := j) (by simpa using h)
      unfold lookL at ih' ⊢
      simp only [List.set_cons_succ, List.find?_cons]
      by_cases hy : (y.k == x) = true
      · have e := beq_iff_eq.1 hy
        rw [hy]
        simp only [Option.map_some]
        rw [if_neg (by omega)]
      · have hy' : (y.k == x) = false := by simpa using hy
        rw [hy']
        exact ih'
theorem lookL_mem {L : List Pt} {k : Nat} : (lookL L k).isSome ↔ k ∈ L.map Pt.k := by
  unfold lookL
  rw [Option.isSome_map, List.find?_isSome]
  simp only [List.mem_map, beq_iff_eq]

theorem findNow_at (n : Int) : ∀ (es : List MapEntry) (L : List Pt) (i : Nat), es.map (fun e => (e.key, e.val)) = L.map (fun p => (Value.int .i64 p.k, entV p.f)) →
    (∃ (j : Nat) (p : Pt), L[j]? = some p ∧ (p.k : Int) = n ∧ Instr.findNow (.int .i64) (.int .i64 n) es i = some (some (i + j, entV p.f))) ∨ ((∀ p ∈ L, (p.k : Int) ≠ n) ∧ Instr.findNow (.int .i64) (.int .i64 n) es i = some none)
  | [], [], _, _ => .inr ⟨(fun _ h => nomatch h), rfl⟩
  | [], _ :: _, _, h => by simp at h
  | _ :: _, [], _, h => by simp at h
  | e :: es, p :: L, i, h => by
    simp only [List.map_cons, List.cons.injEq, Prod.mk.injEq] at h
    obtain ⟨⟨h1, h2⟩, h3⟩ := h
    unfold Instr.findNow
    rw [h1]
    simp only [Instr.sameNow, if_true]
    by_cases hk : n = (p.k : Int)
    · left
      refine ⟨0, p, rfl, hk.symm, ?_⟩
      have : (n == (p.k : Int)) = true := by simpa using hk
      rw [this]
      simp [h2]
    · have : (n == (p.k : Int)) = false := by simpa using hk
      rw [this]
      simp only
      rcases findNow_at n es L (i + 1) h3 with ⟨j, q, a, b, c⟩ | ⟨a, c⟩
      · exact .inl ⟨j + 1, q, by simpa using a, b, by rw [c]; simp; omega⟩
      · exact .inr ⟨fun q hq => by
          rcases List.mem_cons.1 hq with rfl | hq
          · exact fun e => hk e.symm
          · exact a q hq, c⟩
theorem run_check (e : Bool) (n : Int) (w : World) : (Instr.checkKey e 10000 3 (.int .i64 n)).run Tryz.prog w = .ok () w :=
  MapKept.run_checkKey Tryz.underlying3 (show MapKept.IsKey (.int .i64) (.int .i64 n) by simp [MapKept.IsKey]) e 9999
theorem zc83 : Tryz.zeroCells99 = (byts (fun _ => 0) 256).toArray := by kernel_rfl
section
variable {w : World} {gm : Nat} {L : List Pt}
theorem MapAt.lookup (h : MapAt w gm L) (n : Int) (c : Bool) :
    (∃ (j : Nat) (p : Pt), L[j]? = some p ∧ (p.k : Int) = n ∧ (Instr.lookup 130 (.map (some gm)) (.int .i64 n) c).run Tryz.prog w = .ok (if c then .tuple #[entV p.f, .bool true] else entV p.f) w) ∨
    ((∀ p ∈ L, (p.k : Int) ≠ n) ∧ (Instr.lookup 130 (.map (some gm)) (.int .i64 n) c).run Tryz.prog w = .ok (if c then .tuple #[entV fun _ => 0, .bool false] else entV fun _ => 0) w) := by
  obtain ⟨es, clock, hb, he, _⟩ := h.ex
  rcases findNow_at n es.toList L 0 he with ⟨j, p, h1, h2, h3⟩ | ⟨h1, h3⟩
  · exact .inl ⟨j, p, h1, h2, by simp [Instr.lookup, run_underlying Tryz.underlying130, MapKept.run_getObj_map hb, run_check, Instr.findKey, run_underlying Tryz.underlying3, h3]⟩
  · exact .inr ⟨h1, by simp [Instr.lookup, run_underlying Tryz.underlying130, MapKept.run_getObj_map hb, run_check, Instr.findKey, run_underlying Tryz.underlying3, h3]; rw [zc83]; rfl⟩
theorem MapAt.len (h : MapAt w gm L) (ty : TypeId) : (Builtin.len_ #[130] ty #[.map (some gm)]).run Tryz.prog w = .ok (.int .i64 L.length) w := by
  obtain ⟨es, clock, hb, he, _⟩ := h.ex
  have hl : es.size = L.length := by
    have := congrArg List.length he
    simpa using this
  simp [Builtin.len_, run_underlying Tryz.underlying130, MapKept.run_getObj_map hb, hl]
  rfl
end
end Go.Proofs.YtdbnnljlbfjobaaGreatDoor
