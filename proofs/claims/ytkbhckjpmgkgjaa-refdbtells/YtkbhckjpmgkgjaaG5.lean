/- My own work: New makes a graph of infos, or tells why not. -/
import Derived.Test.YtkbhckjpmgkgjaaG3
import Derived.Test.YtkbhckjpmgkgjaaG4
import Derived.Deep.OwnRows
import Derived.Laws.OwnMore
namespace Go.Proofs.Ytkbhckjpmgkgjaa
open Go.RowKit
open Go.ChangeMaps (setBlock)

/-- Infos as a slice. -/
structure LsAt (w : World) (a : Option Addr) (L : List Inf) (c : Nat) : Prop where
  ex : ∃ b off, (0 < L.length → a = some ⟨b, off, none⟩) ∧ ∀ i (h : i < L.length), ∃ ra rc, w.rangeAt b (off + i * 4) (infV L[i] ra rc).toList ∧ InfAt w L[i] ra rc
  le : L.length ≤ c
  cap : c ≤ maxLen
theorem rangeAt_keep {w w' : World} {b o : Nat} {cs : List Value} (h : w.rangeAt b o cs) (hb : Below w.heap.size w w') : w'.rangeAt b o cs := fun j v hj => by
  have hc := h j v hj
  exact (hb.cell (p := ⟨b, o + j, none⟩) (World.block_lt_of_cell? _ _ hc)).trans hc
theorem LsAt.keep {w w' : World} {a : Option Addr} {L : List Inf} {c : Nat} (h : LsAt w a L c) (hb : Below w.heap.size w w') : LsAt w' a L c := by
  obtain ⟨b, off, h1, h2⟩ := h.ex
  refine ⟨⟨b, off, h1, fun i hi => ?_⟩, h.le, h.cap⟩
  obtain ⟨ra, rc, h3, h4⟩ := h2 i hi
  exact ⟨ra, rc, rangeAt_keep h3 hb, h4.keep hb⟩

theorem ownsRow_lt' {w : World} {base n s : Nat} {e : TypeId} {v : Value} {xs : List Value} (h : w.ownsRow base e s v n xs) : ∀ k, v.ownBlock = some k → k < w.heap.size ∧ base ≤ k := fun k hk => by
  obtain ⟨_, ⟨rfl, _⟩ | ⟨g, c, cur, rfl, h2, e3, _⟩⟩ := h
  · cases hk
  · simp [Value.ownBlock] at hk
    subst hk
    exact ⟨(Array.getElem?_eq_some_iff.1 e3).1, h2⟩
structure NSt (w : World) (n : Nat) (pv : Value) (xs : List ByteArray) (wr : World) : Prop where
  old : Below w.heap.size w wr
  row : Row wr (w.heap.size + 2) #[pv, .slice (some ⟨w.heap.size, 0, none⟩) n n, .map (some (w.heap.size + 1))] 51
  der : Row wr w.heap.size (madeCells #[.string ⟨#[]⟩] n) 9
  map : wr.heap[w.heap.size + 1]? = some (.map #[] 0)
  own : wr.ownsRow (w.heap.size + 3) 9 1 pv xs.length (xs.map Value.string)
theorem info9 : (Try.prog.info? 9).map (fun i => (i.zero, i.size, i.bytes)) = some (some (.string ⟨#[]⟩), 1, 16) := by kernel_rfl
theorem NSt.lt {w wr : World} {n : Nat} {pv : Value} {xs : List ByteArray} (h : NSt w n pv xs wr) : w.heap.size + 3 ≤ wr.heap.size := h.row.lt
theorem NSt.keep {w wr w' : World} {n : Nat} {pv : Value} {xs : List ByteArray} (h : NSt w n pv xs wr) (hb : Below wr.heap.size wr w') : NSt w n pv xs w' :=
  ⟨h.old.trans (hb.mono h.old.size), h.row.below hb h.row.lt, h.der.below hb h.der.lt, (hb.block _ (by have := h.lt; omega)).trans h.map, by
    obtain ⟨h1, h2⟩ := h.own
    refine ⟨h1, h2.imp id ?_⟩
    rintro ⟨g, cap, cur, e1, e2, e3, e4⟩
    exact ⟨g, cap, cur, e1, e2, (hb.block g (Array.getElem?_eq_some_iff.1 e3).1).trans e3, e4⟩⟩
abbrev info00 : Array Value := #[.string ⟨#[]⟩, .string ⟨#[]⟩, .string ⟨#[]⟩, .slice none 0 0]
/-- What is told of infos by a graph. -/
structure Gr (L : List Inf) (P dv : List ByteArray) (E : List (Nat × Nat)) : Prop where
  len : P.length = L.length
  mem : ∀ x, x ∈ P ↔ x ∈ L.map (·.path)
  dlen : dv.length = P.length
  edge : ∀ x : Nat × Nat, x ∈ E ↔ ∃ i ∈ L, P[x.1]? = some i.path ∧ ∃ r ∈ i.refs, P[x.2]? = some r
  der : ∀ i ∈ L, ∀ k : Nat, P[k]? = some i.path → dv[k]? = some i.der
/-- A graph in memory. -/
structure GAt (w : World) (g : Nat) (P dv : List ByteArray) (E : List (Nat × Nat)) : Prop where
  ex : ∃ a c da dc m es clk, Row w g #[.slice a P.length c, .slice da dv.length dc, .map (some m)] 51 ∧ StrsAt w a P c ∧ StrsAt w da dv dc ∧ EdgesAt w m E es clk
  up : Up P
  nd : E.Nodup
theorem GAt.keep {w w' : World} {g : Nat} {P dv : List ByteArray} {E : List (Nat × Nat)} (h : GAt w g P dv E) (hb : Below w.heap.size w w') : GAt w' g P dv E := by
  obtain ⟨a, c, da, dc, m, es, clk, h1, h2, h3, h4⟩ := h.ex
  exact ⟨⟨a, c, da, dc, m, es, clk, h1.below hb h1.lt, h2.keep hb, h3.keep hb, h4.keep (hb.block m (Array.getElem?_eq_some_iff.1 h4.obj).1)⟩, h.up, h.nd⟩
def ErrThere (L : List Inf) : Prop := ¬ (L.map (·.path)).Nodup
def ErrNone (L : List Inf) : Prop := (L.map (·.path)).Nodup ∧ ∃ i ∈ L, ∃ r ∈ i.refs, r ∉ L.map (·.path)
def Fine (L : List Inf) : Prop := (L.map (·.path)).Nodup ∧ ∀ i ∈ L, ∀ r ∈ i.refs, r ∈ L.map (·.path)
def NewPost (L : List Inf) (w : World) (e : Ending) (w' : World) : Prop :=
  Below w.heap.size w w' ∧ ((ErrThere L ∧ e = .returned (.tuple #[.pointer none, .int .i64 13])) ∨ (ErrNone L ∧ e = .returned (.tuple #[.pointer none, .int .i64 14])) ∨
    (Fine L ∧ ∃ g P dv E, e = .returned (.tuple #[.pointer (some ⟨g, 0, none⟩), .int .i64 0]) ∧ GAt w' g P dv E ∧ Gr L P dv E ∧ w.heap.size ≤ g))
/-- The rows of a graph behind an append to its paths. -/
theorem NSt.told {w wr w' : World} {n : Nat} {pv v' : Value} {xs : List ByteArray} {x : ByteArray} (h : NSt w n pv xs wr) (hown : w'.ownsRow (w.heap.size + 3) 9 1 v' (xs.length + 1) (xs.map Value.string ++ [.string x])) (hg : wr.grownBy w' pv.ownBlock) : NSt w n v' (xs ++ [x]) (w'.setCell ⟨w.heap.size + 2, 0, none⟩ v') := by
  have ne : ∀ k, k < w.heap.size + 3 → w'.heap[k]? = wr.heap[k]? := fun k hk => hg.block k (by have := h.lt; omega) (fun e => by
    have := (ownsRow_lt' h.own k e.symm).2
    omega)
  have st : ∀ k, k ≠ w.heap.size + 2 → (w'.setCell ⟨w.heap.size + 2, 0, none⟩ v').heap[k]? = w'.heap[k]? := fun k hk => heap_setCell_other w' ⟨w.heap.size + 2, 0, none⟩ k _ hk
  have hrow : Row w' (w.heap.size + 2) #[pv, .slice (some ⟨w.heap.size, 0, none⟩) n n, .map (some (w.heap.size + 1))] 51 := (ne _ (by omega)).trans h.row
  refine ⟨h.old.trans ⟨hg.os, hg.tape, hg.output, by simpa using hg.size, fun k hk => (st k (by omega)).trans (ne k (by omega))⟩, hrow.setCell (i := 0) v', (st _ (by omega)).trans ((ne _ (by omega)).trans h.der), (st _ (by omega)).trans ((ne _ (by omega)).trans h.map), ?_⟩
  rw [List.length_append, List.map_append]
  obtain ⟨h1, h2⟩ := hown
  refine ⟨h1, h2.imp id ?_⟩
  rintro ⟨g, cap, cur, e1, e2, e3, e4⟩
  exact ⟨g, cap, cur, e1, e2, (st g (by omega)).trans e3, e4⟩
end Go.Proofs.Ytkbhckjpmgkgjaa
