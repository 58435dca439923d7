/- My own work: what replaced makes, step by step: its bytes, its names and its nodes as they come. My own work: what replaced makes: a node more, and the whole. My own work: how replaced begins: its bytes and its cell come in either order, then the node is stored. My own work: a node with other signs in its bytes and in those of all beneath it. -/
import Derived.Test.YtpkbfljoakodoaaDoorBRepA
import Derived.Test.YtpkbfljoakodoaaDoorOwnSt
import Derived.Test.YtpkbfljoakodoaaDoorRplM
namespace Go.Proofs.YtpkbfljoakodoaaDoor
open Go.RowKit

/-- The node that is made: its bytes are there, m names and i nodes have come. -/
structure RpL (w0 : World) (r : List UInt8) (ns : List ByteArray) (k : Int) (e : Bool) (ks : List Nd) (g : Nat) (v12 v16 : Value) (m i : Nat) (kv : Value) (Cs : Nat → Array Value) (w : World) : Prop where
  old : Below w0.heap.size w0 w
  dat : ∃ (a : Option Addr) (b off c : Nat), v12 = .slice a r.length c ∧ (0 < r.length → a = some ⟨b, off, none⟩) ∧ (∀ i (h : i < r.length), w.cell? ⟨b, off + i, none⟩ = some (.int .u8 (r[i].toNat : Int))) ∧ (a = none → r.length = 0 ∧ c = 0) ∧ r.length ≤ c ∧ c ≤ maxLen ∧ (0 < r.length → w0.heap.size ≤ b ∧ b < w.heap.size ∧ b ≠ g ∧ v16.ownBlock ≠ some b ∧ kv.ownBlock ≠ some b)
  b16 : w.ownsRow w0.heap.size 9 1 v16 m ((ns.take m).map Value.string)
  row : Row w g #[.int .i64 k, .bool e, v12, v16, kv] 26
  ge : w0.heap.size ≤ g
  kids : w.ownsRow (g + 1) 26 5 kv i ((List.range i).flatMap fun j => (Cs j).toList)
  size : ∀ j, j < i → (Cs j).size = 5
  each : ∀ j (h : j < ks.length), j < i → NodeOn w (fun b => w0.heap.size ≤ b ∧ b < w.heap.size ∧ b ≠ g ∧ v16.ownBlock ≠ some b ∧ kv.ownBlock ≠ some b) ks[j] (Cs j)
section
variable {w0 : World} {r : List UInt8} {ns : List ByteArray} {k : Int} {e : Bool} {ks : List Nd} {g m i : Nat} {v12 v16 kv : Value} {Cs : Nat → Array Value} {w : World}
/-- What a change of other blocks leaves of it. -/
theorem RpL.keep (h : RpL w0 r ns k e ks g v12 v16 m i kv Cs w) {w' : World} (hb : Below w.heap.size w w') : RpL w0 r ns k e ks g v12 v16 m i kv Cs w' := by
  have hs := hb.size
  obtain ⟨a, b, off, c, h1, h2, h3, h4, h5, h6, h7⟩ := h.dat
  refine ⟨h.old.trans (hb.mono h.old.size), ⟨a, b, off, c, h1, h2, fun j hj => ?_, h4, h5, h6, fun hp => ?_⟩, ownsRow_keep h.b16 (fun q _ hl => hb.block q hl), h.row.below hb h.row.lt, h.ge, ownsRow_keep h.kids (fun q _ hl => hb.block q hl), h.size, fun j hjl hj => ?_⟩
  · have hlt := World.block_lt_of_cell? _ _ (h3 j hj)
    exact (World.cell?_of_block (w := w) (hb.block b hlt)).trans (h3 j hj)
  · obtain ⟨q1, q2, q3⟩ := h7 hp
    exact ⟨q1, by omega, q3⟩
  · exact ((h.each j hjl hj).keep (w' := w') fun b hb' => hb.block b hb'.2.1).mono fun b hb' => ⟨hb'.1, by omega, hb'.2.2⟩
/-- A name more. -/
theorem RpL.name (h : RpL w0 r ns k e ks g v12 v16 m i kv Cs w) (hm : m < ns.length) {w3 : World} {v16' : Value} (own' : w3.ownsRow w0.heap.size 9 1 v16' (m + 1) ((ns.take m).map Value.string ++ [.string ns[m]]))
    (hg : w.grownBy w3 v16.ownBlock) (hor : v16'.ownBlock = v16.ownBlock ∨ ∃ q, v16'.ownBlock = some q ∧ w.heap.size ≤ q) :
    Row w3 g #[.int .i64 k, .bool e, v12, v16, kv] 26 ∧ Below w0.heap.size w0 w3 ∧ RpL w0 r ns k e ks g v12 v16' (m + 1) i kv Cs (w3.setCell ⟨g, 3, none⟩ v16') := by
  have hge := h.ge
  have hgl := h.row.lt
  have h16 : ∀ q, v16.ownBlock = some q → w0.heap.size ≤ q ∧ q < w.heap.size ∧ q ≠ g ∧ kv.ownBlock ≠ some q := fun q hq => by
    obtain ⟨l1, l2, c, rr⟩ := ownsRow_lt h.b16 q hq
    exact ⟨l2, l1, row_ne rr h.row (by decide), fun e1 => by obtain ⟨_, _, c2, r2⟩ := ownsRow_lt h.kids q e1; exact row_ne rr r2 (by decide) rfl⟩
  have hbl : ∀ q, q < w.heap.size → v16.ownBlock ≠ some q → w3.heap[q]? = w.heap[q]? := fun q hq hne => hg.block q hq (fun e1 => hne e1.symm)
  have hold3 : Below w0.heap.size w0 w3 := h.old.trans ⟨hg.os, hg.tape, hg.output, hg.size, fun q hq => hbl q (by have := h.old.size; omega) (fun e1 => by have := (h16 q e1).1; omega)⟩
  have hr3 : Row w3 g #[.int .i64 k, .bool e, v12, v16, kv] 26 := (hbl g hgl (fun e1 => (h16 g e1).2.2.1 rfl)).trans h.row
  have hset : ∀ q, q ≠ g → (w3.setCell ⟨g, 3, none⟩ v16').heap[q]? = w3.heap[q]? := fun q hq => heap_setCell_other w3 ⟨g, 3, none⟩ q v16' hq
  have hss : (w3.setCell ⟨g, 3, none⟩ v16').heap.size = w3.heap.size := by simp
  have hs3 := hg.size
  have hnew : ∀ b, b < w.heap.size → v16.ownBlock ≠ some b → v16'.ownBlock ≠ some b := fun b hb hne e1 => by
    rcases hor with h1 | ⟨q, h1, hq⟩
    · rw [h1] at e1; exact hne e1
    · rw [h1] at e1
      simp only [Option.some.injEq] at e1
      omega
  have hkw : ∀ q, kv.ownBlock = some q → q ≠ g ∧ v16.ownBlock ≠ some q := fun q hq => by
    obtain ⟨_, l2, c, rr⟩ := ownsRow_lt h.kids q hq
    exact ⟨by omega, fun e1 => by obtain ⟨_, _, c2, r2⟩ := ownsRow_lt h.b16 q e1; exact row_ne rr r2 (by decide) rfl⟩
  refine ⟨hr3, hold3, ⟨hold3.trans ⟨rfl, rfl, rfl, by rw [hss]; exact Nat.le_refl _, fun q hq => hset q (by omega)⟩, ?_, ?_, ?_, hge, ownsRow_keep h.kids (fun q hq hl => (hset q (hkw q hq).1).trans (hbl q hl (hkw q hq).2)), h.size, ?_⟩⟩
  · obtain ⟨a, b, off, c, h1, h2, h3, h4, h5, h6, h7⟩ := h.dat
    refine ⟨a, b, off, c, h1, h2, fun j hj => ?_, h4, h5, h6, fun hp => ?_⟩
    · obtain ⟨q1, q2, q3, q4, q5⟩ := h7 (by omega)
      exact (World.cell?_of_block (w := w) ((hset b q3).trans (hbl b q2 q4))).trans (h3 j hj)
    · obtain ⟨q1, q2, q3, q4, q5⟩ := h7 hp
      exact ⟨q1, by rw [hss]; omega, q3, hnew b q2 q4, q5⟩
  · have := ownsRow_keep (w' := w3.setCell ⟨g, 3, none⟩ v16') own' (fun q hq _ => hset q (by
      obtain ⟨_, _, c, rr⟩ := ownsRow_lt own' q hq
      exact row_ne rr hr3 (by decide)))
    rw [List.take_succ_eq_append_getElem hm, List.map_append]
    exact this
  · exact hr3.setCell (i := 3) v16'
  · intro j hjl hj
    refine ((h.each j hjl hj).keep (w' := w3.setCell ⟨g, 3, none⟩ v16') fun b hb => ?_).mono fun b hb => ?_
    · exact (hset b hb.2.2.1).trans (hbl b hb.2.1 hb.2.2.2.1)
    · exact ⟨hb.1, by rw [hss]; omega, hb.2.2.1, hnew b hb.2.1 hb.2.2.2.1, hb.2.2.2.2⟩
end
end Go.Proofs.YtpkbfljoakodoaaDoor
namespace Go.Proofs.YtpkbfljoakodoaaDoor
open Go.RowKit

section
variable {w0 : World} {r : List UInt8} {ns : List ByteArray} {k : Int} {e : Bool} {ks : List Nd} {g m i : Nat} {v12 v16 kv : Value} {Cs : Nat → Array Value} {w : World}
/-- One node more. -/
theorem RpL.node (h : RpL w0 r ns k e ks g v12 v16 m i kv Cs w) (hi : i < ks.length) {w1 w3 : World} (hb1 : Below w.heap.size w w1) (C' : Array Value) (hC5 : C'.size = 5) (hn : NodeOn w1 (fun b => w.heap.size ≤ b ∧ b < w1.heap.size) ks[i] C')
    {kv' : Value} (own' : w3.ownsRow (g + 1) 26 5 kv' (i + 1) (((List.range i).flatMap fun j => (Cs j).toList) ++ C'.toList)) (hg : (w1.alloc (.cells C' 26)).grownBy w3 kv.ownBlock) (hor : kv'.ownBlock = kv.ownBlock ∨ kv'.ownBlock = some (w1.alloc (.cells C' 26)).heap.size) :
    Row w3 g #[.int .i64 k, .bool e, v12, v16, kv] 26 ∧ Below w0.heap.size w0 w3 ∧ RpL w0 r ns k e ks g v12 v16 m (i + 1) kv' (fun j => if j = i then C' else Cs j) (w3.setCell ⟨g, 4, none⟩ kv') := by
  have hge := h.ge
  have hgl := h.row.lt
  have hs1 := hb1.size
  have hs0 := h.old.size
  have hkb : ∀ q, kv.ownBlock = some q → g + 1 ≤ q ∧ q < w.heap.size := fun q hq => ⟨(ownsRow_lt h.kids q hq).2.1, (ownsRow_lt h.kids q hq).1⟩
  have h16 : ∀ q, v16.ownBlock = some q → q < w.heap.size ∧ q ≠ g ∧ kv.ownBlock ≠ some q := fun q hq => by
    obtain ⟨l1, _, c, rr⟩ := ownsRow_lt h.b16 q hq
    exact ⟨l1, row_ne rr h.row (by decide), fun e1 => by obtain ⟨_, _, c2, r2⟩ := ownsRow_lt h.kids q e1; exact row_ne rr r2 (by decide) rfl⟩
  have hsa : (w1.alloc (.cells C' 26)).heap.size = w1.heap.size + 1 := by simp
  have hg3 : ∀ q, q < w1.heap.size → kv.ownBlock ≠ some q → w3.heap[q]? = w1.heap[q]? := fun q hq hne => (hg.block q (by omega) (fun e1 => hne e1.symm)).trans (Below.heap_alloc w1 _ q hq)
  have hbl : ∀ q, q < w.heap.size → kv.ownBlock ≠ some q → w3.heap[q]? = w.heap[q]? := fun q hq hne => (hg3 q (by omega) hne).trans (hb1.block q hq)
  have hs3 : w1.heap.size + 1 ≤ w3.heap.size := by have := hg.size; omega
  have hold3 : Below w0.heap.size w0 w3 := by
    have hB : Below w0.heap.size w w3 := ⟨hg.os.trans hb1.os, hg.tape.trans hb1.tape, hg.output.trans hb1.output, by omega, fun q hq => hbl q (by omega) (fun e1 => by have := hkb q e1; omega)⟩
    exact h.old.trans hB
  have hr3 : Row w3 g #[.int .i64 k, .bool e, v12, v16, kv] 26 := (hbl g hgl (fun e1 => by have := hkb g e1; omega)).trans h.row
  have hset : ∀ q, q ≠ g → (w3.setCell ⟨g, 4, none⟩ kv').heap[q]? = w3.heap[q]? := fun q hq => heap_setCell_other w3 ⟨g, 4, none⟩ q kv' hq
  have hss : (w3.setCell ⟨g, 4, none⟩ kv').heap.size = w3.heap.size := by simp
  have hkv' : ∀ b, b < w1.heap.size → kv.ownBlock ≠ some b → kv'.ownBlock ≠ some b := fun b hb hne e1 => by
    rcases hor with h1 | h1
    · rw [h1] at e1; exact hne e1
    · rw [h1] at e1
      simp only [Option.some.injEq] at e1
      omega
  refine ⟨hr3, hold3, ⟨hold3.trans ⟨rfl, rfl, rfl, by rw [hss]; exact Nat.le_refl _, fun q hq => hset q (by omega)⟩, ?_, ownsRow_keep h.b16 (fun q hq hl => (hset q (h16 q hq).2.1).trans (hbl q hl (h16 q hq).2.2)), ?_, hge, ?_, ?_, ?_⟩⟩
  · obtain ⟨a, b, off, c, h1, h2, h3, h4, h5, h6, h7⟩ := h.dat
    refine ⟨a, b, off, c, h1, h2, fun j hj => ?_, h4, h5, h6, fun hp => ?_⟩
    · obtain ⟨q1, q2, q3, q4, q5⟩ := h7 (by omega)
      exact (World.cell?_of_block (w := w) ((hset b q3).trans (hbl b q2 q5))).trans (h3 j hj)
    · obtain ⟨q1, q2, q3, q4, q5⟩ := h7 hp
      exact ⟨q1, by rw [hss]; omega, q3, q4, hkv' b (by omega) q5⟩
  · have := hr3.setCell (i := 4) kv'
    exact this
  · have := ownsRow_keep (w' := w3.setCell ⟨g, 4, none⟩ kv') own' (fun q hq _ => hset q (by have := (ownsRow_lt own' q hq).2.1; omega))
    rw [flat_next] at this
    exact this
  · intro j hj
    by_cases ej : j = i
    · simp only [ej, if_true]
      exact hC5
    · simp only [ej, if_false]
      exact h.size j (by omega)
  · intro j hjl hj
    by_cases ej : j = i
    · subst ej
      simp only [if_true]
      refine (hn.keep (w' := w3.setCell ⟨g, 4, none⟩ kv') fun b hb => ?_).mono fun b hb => ?_
      · have hne : kv.ownBlock ≠ some b := fun e1 => by have := hkb b e1; omega
        exact (hset b (by omega)).trans (hg3 b hb.2 hne)
      · have hne : kv.ownBlock ≠ some b := fun e1 => by have := hkb b e1; omega
        exact ⟨by omega, by rw [hss]; omega, by omega, fun e1 => by have := (h16 b e1).1; omega, hkv' b hb.2 hne⟩
    · simp only [ej, if_false]
      refine ((h.each j hjl (by omega)).keep (w' := w3.setCell ⟨g, 4, none⟩ kv') fun b hb => ?_).mono fun b hb => ?_
      · exact (hset b hb.2.2.1).trans (hbl b hb.2.1 hb.2.2.2.2)
      · exact ⟨hb.1, by rw [hss]; omega, hb.2.2.1, hb.2.2.2.1, hkv' b (by omega) hb.2.2.2.2⟩
/-- All names and nodes have come: it is the node. -/
theorem RpL.done {a12 a16 ka : Option Addr} {l12 c12 c16 kc : Nat} (h : RpL w0 r ns k e ks g (.slice a12 l12 c12) (.slice a16 ns.length c16) ns.length ks.length (.slice ka ks.length kc) Cs w) (hk : -9223372036854775808 ≤ k ∧ k ≤ 9223372036854775807) (hne : ∀ s ∈ ns, s.size ≤ big) (hd4 : r.length ≤ big) (hn4 : ns.length * 16 ≤ big) :
    NodeOn w (fun b => w0.heap.size ≤ b ∧ b < w.heap.size) (.mk k e ⟨r.toArray⟩ ns ks) (nodeV k e a12 l12 c12 a16 ns.length c16 ka ks.length kc) := by
  have hfl := flat_at Cs ks.length h.size
  have hge := h.ge
  have hrs : (⟨r.toArray⟩ : ByteArray).size = r.length := by show r.toArray.size = _; simp
  obtain ⟨a, b, off, c, h1, h2, h3, h4, h5, h6, h7⟩ := h.dat
  simp only [Value.slice.injEq] at h1
  obtain ⟨rfl, rfl, rfl⟩ := h1
  obtain ⟨nb, n1, n2, n3, n5, n6, n7⟩ := own_parts h.b16
  obtain ⟨kb, k1, k2, k3, k5, k6, k7⟩ := own_parts h.kids
  have hm := NodeOn.mk (w := w) (F := fun b => w0.heap.size ≤ b ∧ b < w.heap.size) (k := k) (e := e) (d := ⟨r.toArray⟩) (ns := ns) (ks := ks) (da := a12) (db := b) (doff := off) (dc := c12) (na := a16) (nb := nb) (noff := 0) (nc := c16) (ka := ka) (kb := kb) (koff := 0) (kc := kc) (Cs := Cs) hk
    ⟨by rw [hrs]; exact h2, fun i hi => by
      rw [hrs] at hi
      rw [h3 i hi]
      have : bf ⟨r.toArray⟩ i = (r[i].toNat : Int) := by unfold bf; simp [hi]
      rw [this], by rw [hrs]; exact h4, by rw [hrs]; exact h5, h6, by rw [hrs]; exact hd4, by rw [hrs]; exact fun hp => ⟨(h7 hp).1, (h7 hp).2.1⟩⟩
    ⟨n1, fun i hi => by
      rw [Nat.zero_add, n2 i (by omega) (by omega), List.getElem?_map, List.take_length, List.getElem?_eq_getElem hi]
      rfl, n3, n5, n6, hn4, hne, n7⟩
    ⟨k1, fun i hi j hj => by
      rw [Nat.zero_add, k2 (i * 5 + j) (by omega) (by omega)]
      exact hfl.2 i hi j hj, h.size, k3, k5, k6⟩ (fun h0 => by have := k7 h0; omega) (fun i hi => (h.each i hi hi).mono fun b hb => ⟨hb.1, hb.2.1⟩)
  rw [hrs] at hm
  exact hm
end
end Go.Proofs.YtpkbfljoakodoaaDoor
namespace Go.Proofs.YtpkbfljoakodoaaDoor
open Go.RowKit

/-- Before the node is stored: p8: its bytes are there, p10: its cell is there. -/
structure RpS (w0 : World) (r : List UInt8) (p8 p10 : Bool) (v18 v7 : Value) (w : World) : Prop where
  old : Below w0.heap.size w0 w
  dat : p8 = true → ∃ (a : Option Addr) (b off c : Nat), v18 = .slice a r.length c ∧ (0 < r.length → a = some ⟨b, off, none⟩) ∧ (∀ i (h : i < r.length), w.cell? ⟨b, off + i, none⟩ = some (.int .u8 (r[i].toNat : Int))) ∧ (a = none → r.length = 0 ∧ c = 0) ∧ r.length ≤ c ∧ c ≤ maxLen ∧ (0 < r.length → w0.heap.size ≤ b ∧ b < w.heap.size ∧ (p10 = true → v7 ≠ .pointer (some ⟨b, 0, none⟩)))
  ptr : p10 = true → ∃ g Z, v7 = .pointer (some ⟨g, 0, none⟩) ∧ Row w g Z 26 ∧ Z.size = 5 ∧ w0.heap.size ≤ g
section
variable {w0 : World} {r : List UInt8} {p8 p10 : Bool} {v18 v7 : Value} {w w' : World}
theorem RpS.start (h : Below w0.heap.size w0 w) : RpS w0 r false false v18 v7 w := ⟨h, fun h => by simp at h, fun h => by simp at h⟩
/-- The bytes come. -/
theorem RpS.a8 (h : RpS w0 r false p10 v18 v7 w) {e : Ending} (hp : BrPost w r e w') : ∃ v, e = .returned v ∧ RpS w0 r true p10 v v7 w' := by
  obtain ⟨a, b, off, c, rfl, h2, h3, h4, h5, h6, h7, hb⟩ := hp
  have hs := h.old.size
  refine ⟨_, rfl, h.old.trans (hb.mono hs), fun _ => ⟨a, b, off, c, rfl, h2, h3, h4, h5, h6, fun hp => ⟨by have := h7 hp; omega, (h7 hp).2, fun h10 e1 => ?_⟩⟩, fun h10 => ?_⟩
  · obtain ⟨g, Z, q1, q2, _⟩ := h.ptr h10
    rw [q1] at e1
    simp only [Value.pointer.injEq, Option.some.injEq, Addr.mk.injEq] at e1
    have := q2.lt
    have := h7 hp
    omega
  · obtain ⟨g, Z, q1, q2, q3⟩ := h.ptr h10
    exact ⟨g, Z, q1, q2.below hb q2.lt, q3⟩
/-- The cell comes. -/
theorem RpS.a10 (h : RpS w0 r p8 false v18 v7 w) (Z : Array Value) (hZ : Z.size = 5) : RpS w0 r p8 true v18 (.pointer (some ⟨w.heap.size, 0, none⟩)) (w.alloc (.cells Z 26)) := by
  have hb : Below w.heap.size w (w.alloc (.cells Z 26)) := (Below.refl _ _).alloc (Nat.le_refl _) _
  have hs := h.old.size
  have hs2 := hb.size
  refine ⟨h.old.trans (hb.mono hs), fun h8 => ?_, fun _ => ⟨_, Z, rfl, Row.new w Z _, hZ, hs⟩⟩
  obtain ⟨a, b, off, c, h1, h2, h3, h4, h5, h6, h7⟩ := h.dat h8
  refine ⟨a, b, off, c, h1, h2, fun j hj => ?_, h4, h5, h6, fun hp => ?_⟩
  · have hlt := World.block_lt_of_cell? _ _ (h3 j hj)
    exact (World.cell?_of_block (w := w) (hb.block b hlt)).trans (h3 j hj)
  · obtain ⟨q1, q2, _⟩ := h7 hp
    refine ⟨q1, by omega, fun _ e1 => ?_⟩
    simp only [Value.pointer.injEq, Option.some.injEq, Addr.mk.injEq] at e1
    omega
/-- The node is stored. -/
theorem RpS.store (h : RpS w0 r true true v18 v7 w) (ns : List ByteArray) (k : Int) (e : Bool) (ks : List Nd) : ∃ g Z, v7 = .pointer (some ⟨g, 0, none⟩) ∧ Row w g Z 26 ∧ Z.size = 5 ∧ RpL w0 r ns k e ks g v18 (.slice none 0 0) 0 0 (.slice none 0 0) (fun _ => #[]) (w.setRow g #[.int .i64 k, .bool e, v18, .slice none 0 0, .slice none 0 0]) ∧ Below w0.heap.size w (w.setRow g #[.int .i64 k, .bool e, v18, .slice none 0 0, .slice none 0 0]) := by
  obtain ⟨g, Z, h1, h2, h3, h4⟩ := h.ptr rfl
  have hoth : ∀ q, q ≠ g → (w.setRow g #[.int .i64 k, .bool e, v18, .slice none 0 0, .slice none 0 0]).heap[q]? = w.heap[q]? := fun q hq => setRow_other w g q _ hq
  have hsz : (w.setRow g #[.int .i64 k, .bool e, v18, .slice none 0 0, .slice none 0 0]).heap.size = w.heap.size := by simp [World.setRow]
  have hbel : Below w0.heap.size w (w.setRow g #[.int .i64 k, .bool e, v18, .slice none 0 0, .slice none 0 0]) := ⟨rfl, rfl, rfl, by rw [hsz]; exact Nat.le_refl _, fun q hq => hoth q (by omega)⟩
  refine ⟨g, Z, h1, h2, h3, ⟨h.old.trans hbel, ?_, World.ownsRow_nil _ _ _ _, h2.setRow, h4, World.ownsRow_nil _ _ _ _, fun j hj => absurd hj (by omega), fun j _ hj => absurd hj (by omega)⟩, hbel⟩
  obtain ⟨a, b, off, c, q1, q2, q3, q4, q5, q6, q7⟩ := h.dat rfl
  have hbg : 0 < r.length → b ≠ g := fun hp e1 => (q7 hp).2.2 rfl (by rw [h1, e1])
  refine ⟨a, b, off, c, q1, q2, fun j hj => (World.cell?_of_block (w := w) (hoth b (hbg (by omega)))).trans (q3 j hj), q4, q5, q6, fun hp => ⟨(q7 hp).1, by rw [hsz]; exact (q7 hp).2.1, hbg hp, by simp [Value.ownBlock], by simp [Value.ownBlock]⟩⟩
end
end Go.Proofs.YtpkbfljoakodoaaDoor
namespace Go.Proofs.YtpkbfljoakodoaaDoor
open Go.RowKit
open S2 (bl bl_len bl_inj)

mutual
/-- The node with all bytes replaced. -/
def rpN (o y : List UInt8) : Nd → Nd | .mk k e d ns ks => .mk k e ⟨(rpl o y (bl d)).toArray⟩ ns (rpNL o y ks)
def rpNL (o y : List UInt8) : List Nd → List Nd | [] => [] | k :: ks => rpN o y k :: rpNL o y ks
end
mutual
/-- As many names as nodes and not too many bytes, everywhere. -/
def sqN : Nd → Prop | .mk _ _ d ns ks => ns.length = ks.length ∧ d.size < 4294967281 ∧ sqNL ks
def sqNL : List Nd → Prop | [] => True | k :: ks => sqN k ∧ sqNL ks
end
theorem rpNL_length (o y : List UInt8) : ∀ ks : List Nd, (rpNL o y ks).length = ks.length
  | [] => by simp [rpNL]
  | k :: ks => by simp only [rpNL, List.length_cons, rpNL_length o y ks]
theorem rpNL_at (o y : List UInt8) : ∀ (ks : List Nd) (i : Nat) (h : i < ks.length) (h' : i < (rpNL o y ks).length), (rpNL o y ks)[i] = rpN o y ks[i]
  | k :: ks, 0, _, _ => by simp [rpNL]
  | k :: ks, i + 1, h, h' => by
    simp only [rpNL, List.getElem_cons_succ]
    exact rpNL_at o y ks i (by simpa using h) _
theorem sqNL_at : ∀ (ks : List Nd) (i : Nat) (h : i < ks.length), sqNL ks → sqN ks[i]
  | k :: ks, 0, _, hs => by simp only [sqNL] at hs; exact hs.1
  | k :: ks, i + 1, h, hs => by
    simp only [sqNL] at hs
    exact sqNL_at ks i (by simpa using h) hs.2
end Go.Proofs.YtpkbfljoakodoaaDoor
