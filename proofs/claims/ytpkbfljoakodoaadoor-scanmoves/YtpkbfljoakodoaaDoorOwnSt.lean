/- What own makes, step by step: its bytes, its texts, its nodes. -/
import Derived.Test.YtpkbfljoakodoaaDoorNodeOn
import Derived.Test.YtpkbfljoakodoaaDoorXE
namespace Go.Proofs.YtpkbfljoakodoaaDoor
open Go.RowKit

structure OwnSt (w0 : World) (d : ByteArray) (ns : List ByteArray) (p4 p7 p8 p11 p13 : Bool) (v9 v12 v13 v16 v3 : Value) (w : World) : Prop where
  old : Below w0.heap.size w0 w
  s9 : p4 = true → p7 = false → w.ownsRow w0.heap.size 5 1 v9 0 []
  s12 : p7 = true → w.ownsRow w0.heap.size 5 1 v12 d.size (byts (bf d) d.size)
  s13 : p8 = true → p11 = false → w.ownsRow w0.heap.size 9 1 v13 0 []
  s16 : p11 = true → w.ownsRow w0.heap.size 9 1 v16 ns.length (ns.map Value.string)
  s3 : p13 = true → ∃ g Z, v3 = .pointer (some ⟨g, 0, none⟩) ∧ Row w g Z 26 ∧ Z.size = 5 ∧ w0.heap.size ≤ g
section
variable {w0 : World} {d : ByteArray} {ns : List ByteArray} {p4 p7 p8 p11 p13 : Bool} {v9 v12 v13 v16 v3 : Value} {w w' : World}
theorem own_below {n s base : Nat} {e : TypeId} {v : Value} {xs : List Value} (h : w.ownsRow base e s v n xs) (hb : Below w.heap.size w w') : w'.ownsRow base e s v n xs :=
  ownsRow_keep h (fun k hk _ => hb.block k (ownsRow_lt h k hk).1)
theorem OwnSt.next (h : OwnSt w0 d ns p4 p7 p8 p11 p13 v9 v12 v13 v16 v3 w) (hb : Below w.heap.size w w') : OwnSt w0 d ns p4 p7 p8 p11 p13 v9 v12 v13 v16 v3 w' :=
  ⟨h.old.trans (hb.mono h.old.size), fun a b => own_below (h.s9 a b) hb, fun a => own_below (h.s12 a) hb, fun a b => own_below (h.s13 a b) hb, fun a => own_below (h.s16 a) hb, fun a => by
    obtain ⟨g, Z, h1, h2, h3⟩ := h.s3 a
    exact ⟨g, Z, h1, h2.below hb h2.lt, h3⟩⟩
theorem OwnSt.start (h : Below w0.heap.size w0 w) : OwnSt w0 d ns false false false false false v9 v12 v13 v16 v3 w :=
  ⟨h, fun h => by simp at h, fun h => by simp at h, fun h => by simp at h, fun h => by simp at h, fun h => by simp at h⟩
theorem OwnSt.a4 (h : OwnSt w0 d ns false false p8 p11 p13 v9 v12 v13 v16 v3 w) : OwnSt w0 d ns true false p8 p11 p13 (.slice (some ⟨w.heap.size, 0, none⟩) 0 0) v12 v13 v16 v3 (w.alloc (.cells #[] 5)) := by
  have h' := h.next ((Below.refl _ _).alloc (Nat.le_refl _) (.cells #[] 5))
  exact ⟨h'.old, fun _ _ => own_empty w 5 1 _ h.old.size, h'.s12, h'.s13, h'.s16, h'.s3⟩
theorem OwnSt.a8 (h : OwnSt w0 d ns p4 p7 false false p13 v9 v12 v13 v16 v3 w) : OwnSt w0 d ns p4 p7 true false p13 v9 v12 (.slice (some ⟨w.heap.size, 0, none⟩) 0 0) v16 v3 (w.alloc (.cells #[] 9)) := by
  have h' := h.next ((Below.refl _ _).alloc (Nat.le_refl _) (.cells #[] 9))
  exact ⟨h'.old, h'.s9, h'.s12, fun _ _ => own_empty w 9 1 _ h.old.size, h'.s16, h'.s3⟩
theorem OwnSt.a13 (h : OwnSt w0 d ns p4 p7 p8 p11 false v9 v12 v13 v16 v3 w) (Z : Array Value) (hZ : Z.size = 5) : OwnSt w0 d ns p4 p7 p8 p11 true v9 v12 v13 v16 (.pointer (some ⟨w.heap.size, 0, none⟩)) (w.alloc (.cells Z 26)) := by
  have h' := h.next ((Below.refl _ _).alloc (Nat.le_refl _) (.cells Z 26))
  exact ⟨h'.old, h'.s9, h'.s12, h'.s13, h'.s16, fun _ => ⟨_, Z, rfl, Row.new w Z _, hZ, h.old.size⟩⟩
theorem row_grown {B s n : Nat} {e : TypeId} {v : Value} {xs : List Value} (hown : w.ownsRow B e s v n xs) (hg : w.grownBy w' v.ownBlock) {k : Nat} {C : Array Value} {t : TypeId} (hr : Row w k C t) (ht : t ≠ e) : Row w' k C t :=
  (hg.block k hr.lt (fun e1 => by
    obtain ⟨_, _, c2, r2⟩ := ownsRow_lt hown k e1.symm
    exact row_ne hr r2 ht rfl)).trans hr
theorem OwnSt.a7 (h : OwnSt w0 d ns true false p8 p11 p13 v9 v12 v13 v16 v3 w) (v' : Value) (own' : w'.ownsRow w0.heap.size 5 1 v' d.size (byts (bf d) d.size)) (hg : w.grownBy w' v9.ownBlock) : OwnSt w0 d ns true true p8 p11 p13 v9 v' v13 v16 v3 w' :=
  ⟨own_grown (h.s9 rfl rfl) h.old h.old.size hg, fun _ h => by simp at h, fun _ => own', fun a b => ownsRow_grown (h.s13 a b) (h.s9 rfl rfl) hg (by decide), fun a => ownsRow_grown (h.s16 a) (h.s9 rfl rfl) hg (by decide), fun a => by
    obtain ⟨g, Z, h1, h2, h3⟩ := h.s3 a
    exact ⟨g, Z, h1, row_grown (h.s9 rfl rfl) hg h2 (by decide), h3⟩⟩
theorem OwnSt.a11 (h : OwnSt w0 d ns p4 true true false p13 v9 v12 v13 v16 v3 w) (v' : Value) (own' : w'.ownsRow w0.heap.size 9 1 v' ns.length (ns.map Value.string)) (hg : w.grownBy w' v13.ownBlock) : OwnSt w0 d ns p4 true true true p13 v9 v12 v13 v' v3 w' :=
  ⟨own_grown (h.s13 rfl rfl) h.old h.old.size hg, fun _ h => by simp at h, fun a => ownsRow_grown (h.s12 a) (h.s13 rfl rfl) hg (by decide), fun _ h => by simp at h, fun _ => own', fun a => by
    obtain ⟨g, Z, h1, h2, h3⟩ := h.s3 a
    exact ⟨g, Z, h1, row_grown (h.s13 rfl rfl) hg h2 (by decide), h3⟩⟩
/-- The node that is made: its bytes and texts are its own, and nodes come to it one by one. -/
structure OwnL (w0 : World) (d : ByteArray) (ns : List ByteArray) (k : Int) (e : Bool) (ks : List Nd) (g : Nat) (v12 v16 : Value) (i : Nat) (kv : Value) (Cs : Nat → Array Value) (w : World) : Prop where
  old : Below w0.heap.size w0 w
  b12 : w.ownsRow w0.heap.size 5 1 v12 d.size (byts (bf d) d.size)
  b16 : w.ownsRow w0.heap.size 9 1 v16 ns.length (ns.map Value.string)
  row : Row w g #[.int .i64 k, .bool e, v12, v16, kv] 26
  ge : w0.heap.size ≤ g
  kids : w.ownsRow (g + 1) 26 5 kv i ((List.range i).flatMap fun j => (Cs j).toList)
  size : ∀ j, j < i → (Cs j).size = 5
  each : ∀ j (h : j < ks.length), j < i → NodeOn w (fun b => w0.heap.size ≤ b ∧ b < w.heap.size ∧ b ≠ g ∧ kv.ownBlock ≠ some b) ks[j] (Cs j)
theorem OwnSt.store (h : OwnSt w0 d ns true true true true true v9 v12 v13 v16 v3 w) (k : Int) (e : Bool) (ks : List Nd) : ∃ g Z, v3 = .pointer (some ⟨g, 0, none⟩) ∧ Row w g Z 26 ∧ Z.size = 5 ∧ OwnL w0 d ns k e ks g v12 v16 0 (.slice none 0 0) (fun _ => #[]) (w.setRow g #[.int .i64 k, .bool e, v12, v16, .slice none 0 0]) ∧ Below w0.heap.size w (w.setRow g #[.int .i64 k, .bool e, v12, v16, .slice none 0 0]) := by
  obtain ⟨g, Z, h1, h2, h3, h4⟩ := h.s3 rfl
  have hoth : ∀ q, q ≠ g → (w.setRow g #[.int .i64 k, .bool e, v12, v16, .slice none 0 0]).heap[q]? = w.heap[q]? := fun q hq => setRow_other w g q _ hq
  have hsz : (w.setRow g #[.int .i64 k, .bool e, v12, v16, .slice none 0 0]).heap.size = w.heap.size := by simp [World.setRow]
  have hbel : Below w0.heap.size w (w.setRow g #[.int .i64 k, .bool e, v12, v16, .slice none 0 0]) := ⟨rfl, rfl, rfl, by rw [hsz]; exact Nat.le_refl _, fun q hq => hoth q (by omega)⟩
  refine ⟨g, Z, h1, h2, h3, ⟨h.old.trans hbel, ownsRow_keep (h.s12 rfl) (fun q hq _ => hoth q ?_), ownsRow_keep (h.s16 rfl) (fun q hq _ => hoth q ?_), h2.setRow, h4, World.ownsRow_nil _ _ _ _, fun j hj => absurd hj (by omega), fun j _ hj => absurd hj (by omega)⟩, hbel⟩
  · obtain ⟨_, _, c, r⟩ := ownsRow_lt (h.s12 rfl) q hq
    exact row_ne r h2 (by decide)
  · obtain ⟨_, _, c, r⟩ := ownsRow_lt (h.s16 rfl) q hq
    exact row_ne r h2 (by decide)
theorem flat_next (i : Nat) (Cs : Nat → Array Value) (C' : Array Value) : ((List.range i).flatMap fun j => (Cs j).toList) ++ C'.toList = (List.range (i + 1)).flatMap fun j => (if j = i then C' else Cs j).toList := by
  rw [List.range_succ, List.flatMap_append]
  congr 1
  · rw [List.flatMap_def, List.flatMap_def]
    congr 1
    apply List.map_congr_left
    intro j hj
    rw [if_neg (by have := List.mem_range.1 hj; omega)]
  · simp
/-- One node more. -/
theorem OwnL.add {k : Int} {e : Bool} {ks : List Nd} {g i : Nat} {kv : Value} {Cs : Nat → Array Value} (h : OwnL w0 d ns k e ks g v12 v16 i kv Cs w) (hi : i < ks.length) {w1 w3 : World} (hb1 : Below w.heap.size w w1) (C' : Array Value) (hC5 : C'.size = 5) (hn : NodeOn w1 (fun b => w.heap.size ≤ b ∧ b < w1.heap.size) ks[i] C')
    {kv' : Value} (own' : w3.ownsRow (g + 1) 26 5 kv' (i + 1) (((List.range i).flatMap fun j => (Cs j).toList) ++ C'.toList)) (hg : (w1.alloc (.cells C' 26)).grownBy w3 kv.ownBlock) (hor : kv'.ownBlock = kv.ownBlock ∨ kv'.ownBlock = some (w1.alloc (.cells C' 26)).heap.size) :
    Row w3 g #[.int .i64 k, .bool e, v12, v16, kv] 26 ∧ Below w0.heap.size w0 w3 ∧ OwnL w0 d ns k e ks g v12 v16 (i + 1) kv' (fun j => if j = i then C' else Cs j) (w3.setCell ⟨g, 4, none⟩ kv') := by
  have hge := h.ge
  have hgl := h.row.lt
  have hs1 := hb1.size
  have hkb : ∀ q, kv.ownBlock = some q → g + 1 ≤ q ∧ q < w.heap.size := fun q hq => ⟨(ownsRow_lt h.kids q hq).2.1, (ownsRow_lt h.kids q hq).1⟩
  have hsa : (w1.alloc (.cells C' 26)).heap.size = w1.heap.size + 1 := by simp
  have hg3 : ∀ q, q < w1.heap.size → kv.ownBlock ≠ some q → w3.heap[q]? = w1.heap[q]? := fun q hq hne => (hg.block q (by omega) (fun e1 => hne e1.symm)).trans (Below.heap_alloc w1 _ q hq)
  have hbl : ∀ q, q < w.heap.size → kv.ownBlock ≠ some q → w3.heap[q]? = w.heap[q]? := fun q hq hne => (hg3 q (by omega) hne).trans (hb1.block q hq)
  have hs3 : w1.heap.size + 1 ≤ w3.heap.size := by have := hg.size; omega
  have hold3 : Below w0.heap.size w0 w3 := by
    have hB : Below w0.heap.size w w3 := ⟨hg.os.trans hb1.os, hg.tape.trans hb1.tape, hg.output.trans hb1.output, by omega, fun q hq => hbl q (by have := h.old.size; omega) (fun e1 => by have := hkb q e1; omega)⟩
    exact h.old.trans hB
  have hr3 : Row w3 g #[.int .i64 k, .bool e, v12, v16, kv] 26 := (hbl g hgl (fun e1 => by have := hkb g e1; omega)).trans h.row
  have hset : ∀ q, q ≠ g → (w3.setCell ⟨g, 4, none⟩ kv').heap[q]? = w3.heap[q]? := fun q hq => heap_setCell_other w3 ⟨g, 4, none⟩ q kv' hq
  have hss : (w3.setCell ⟨g, 4, none⟩ kv').heap.size = w3.heap.size := by simp
  have t5 : ∀ q, v12.ownBlock = some q → q ≠ g ∧ kv.ownBlock ≠ some q := fun q hq => by
    obtain ⟨_, _, c, r⟩ := ownsRow_lt h.b12 q hq
    exact ⟨row_ne r h.row (by decide), fun e1 => by obtain ⟨_, _, c2, r2⟩ := ownsRow_lt h.kids q e1; exact row_ne r r2 (by decide) rfl⟩
  have t9 : ∀ q, v16.ownBlock = some q → q ≠ g ∧ kv.ownBlock ≠ some q := fun q hq => by
    obtain ⟨_, _, c, r⟩ := ownsRow_lt h.b16 q hq
    exact ⟨row_ne r h.row (by decide), fun e1 => by obtain ⟨_, _, c2, r2⟩ := ownsRow_lt h.kids q e1; exact row_ne r r2 (by decide) rfl⟩
  refine ⟨hr3, hold3, ⟨hold3.trans ⟨rfl, rfl, rfl, by rw [hss]; exact Nat.le_refl _, fun q hq => hset q (by omega)⟩, ownsRow_keep h.b12 (fun q hq hl => (hset q (t5 q hq).1).trans (hbl q hl (t5 q hq).2)), ownsRow_keep h.b16 (fun q hq hl => (hset q (t9 q hq).1).trans (hbl q hl (t9 q hq).2)), ?_, hge, ?_, ?_, ?_⟩⟩
  · have := hr3.setCell (i := 4) kv'
    exact this
  · have := ownsRow_keep (w' := w3.setCell ⟨g, 4, none⟩ kv') own' (fun q hq _ => hset q (by have := (ownsRow_lt own' q hq).2.1; omega))
    rw [flat_next] at this
    exact this
  · intro j hj
    by_cases ej : j = i
    · simp only [ej, if_true]
      exact hC5
    · simp only [ej, if_false]
      exact h.size j (by omega)
  · intro j hjl hj
    have hkv' : ∀ b, b < w1.heap.size → kv.ownBlock ≠ some b → kv'.ownBlock ≠ some b := fun b hb hne e1 => by
      rcases hor with h1 | h1
      · rw [h1] at e1; exact hne e1
      · rw [h1] at e1
        simp only [Option.some.injEq] at e1
        omega
    by_cases ej : j = i
    · subst ej
      simp only [if_true]
      refine (hn.keep (w' := w3.setCell ⟨g, 4, none⟩ kv') fun b hb => ?_).mono fun b hb => ?_
      · have hne : kv.ownBlock ≠ some b := fun e1 => by have := hkb b e1; omega
        exact (hset b (by omega)).trans (hg3 b hb.2 hne)
      · have hne : kv.ownBlock ≠ some b := fun e1 => by have := hkb b e1; omega
        have := h.old.size
        exact ⟨by omega, by rw [hss]; omega, by omega, hkv' b hb.2 hne⟩
    · simp only [ej, if_false]
      refine ((h.each j hjl (by omega)).keep (w' := w3.setCell ⟨g, 4, none⟩ kv') fun b hb => ?_).mono fun b hb => ?_
      · exact (hset b hb.2.2.1).trans (hbl b hb.2.1 hb.2.2.2)
      · exact ⟨hb.1, by rw [hss]; omega, hb.2.2.1, hkv' b (by omega) hb.2.2.2⟩
theorem flat_at (Cs : Nat → Array Value) : ∀ (n : Nat), (∀ j, j < n → (Cs j).size = 5) → (((List.range n).flatMap fun j => (Cs j).toList).length = n * 5) ∧ ∀ i, i < n → ∀ j, j < 5 → ((List.range n).flatMap fun j => (Cs j).toList)[i * 5 + j]? = (Cs i)[j]?
  | 0, _ => ⟨rfl, fun i hi => absurd hi (by omega)⟩
  | n + 1, h => by
    obtain ⟨h1, h2⟩ := flat_at Cs n (fun j hj => h j (by omega))
    have h5 := h n (by omega)
    rw [List.range_succ, List.flatMap_append]
    have e1 : ([n].flatMap fun j => (Cs j).toList) = (Cs n).toList := by simp
    rw [e1]
    refine ⟨by rw [List.length_append, h1, Array.length_toList, h5]; omega, fun i hi j hj => ?_⟩
    by_cases e : i = n
    · subst e
      rw [List.getElem?_append_right (by rw [h1]; omega), h1, show i * 5 + j - i * 5 = j by omega, Array.getElem?_toList]
    · rw [List.getElem?_append_left (by rw [h1]; omega)]
      exact h2 i (by omega) j hj
theorem own_parts {B n s : Nat} {e : TypeId} {a : Option Addr} {c : Nat} {xs : List Value} (h : w.ownsRow B e s (.slice a n c) n xs) : ∃ b, (0 < n → a = some ⟨b, 0, none⟩) ∧ (∀ i, i < n * s → 0 < n → w.cell? ⟨b, i, none⟩ = xs[i]?) ∧ (a = none → n = 0 ∧ c = 0) ∧ n ≤ c ∧ c ≤ maxLen ∧ (0 < n → B ≤ b ∧ b < w.heap.size) := by
  have h' := h
  obtain ⟨_, ⟨e1, z1⟩ | ⟨g1, p1, cur1, e1, l1, r1, m1, m2, _⟩⟩ := h
  · simp only [Value.slice.injEq] at e1
    obtain ⟨rfl, h2, rfl⟩ := e1
    subst h2
    exact ⟨0, fun h => absurd h (by omega), fun i hi h0 => absurd h0 (by omega), fun _ => ⟨rfl, rfl⟩, by omega, by unfold maxLen; omega, fun h => absurd h (by omega)⟩
  · simp only [Value.slice.injEq] at e1
    obtain ⟨rfl, _, rfl⟩ := e1
    exact ⟨g1, fun _ => rfl, fun i hi _ => h'.cellAt i hi, (fun h => nomatch h), m1, m2, fun _ => ⟨l1, Row.lt r1⟩⟩
/-- All nodes have come: it is the node. -/
theorem OwnL.done {k : Int} {e : Bool} {ks : List Nd} {g : Nat} {a12 a16 ka : Option Addr} {c12 c16 kc : Nat} {Cs : Nat → Array Value} (h : OwnL w0 d ns k e ks g (.slice a12 d.size c12) (.slice a16 ns.length c16) ks.length (.slice ka ks.length kc) Cs w) (hk : -9223372036854775808 ≤ k ∧ k ≤ 9223372036854775807) (hne : ∀ s ∈ ns, s.size ≤ big) (hd4 : d.size ≤ big) (hn4 : ns.length * 16 ≤ big) :
    NodeOn w (fun b => w0.heap.size ≤ b ∧ b < w.heap.size) (.mk k e d ns ks) (nodeV k e a12 d.size c12 a16 ns.length c16 ka ks.length kc) := by
  have hfl := flat_at Cs ks.length h.size
  have hge := h.ge
  obtain ⟨db, d1, d2, d3, d5, d6, d7⟩ := own_parts h.b12
  obtain ⟨nb, n1, n2, n3, n5, n6, n7⟩ := own_parts h.b16
  obtain ⟨kb, k1, k2, k3, k5, k6, k7⟩ := own_parts h.kids
  refine .mk (db := db) (doff := 0) (nb := nb) (noff := 0) (kb := kb) (koff := 0) (Cs := Cs) hk ⟨d1, fun i hi => ?_, d3, d5, d6, hd4, d7⟩ ⟨n1, fun i hi => ?_, n3, n5, n6, hn4, hne, n7⟩ ⟨k1, fun i hi j hj => ?_, h.size, k3, k5, k6⟩ (fun h0 => by have := k7 h0; omega) (fun i hi => (h.each i hi hi).mono fun b hb => ⟨hb.1, hb.2.1⟩)
  · rw [Nat.zero_add, d2 i (by omega) (by omega), byts_at _ _ _ hi]
  · rw [Nat.zero_add, n2 i (by omega) (by omega), List.getElem?_map, List.getElem?_eq_getElem hi]
    rfl
  · rw [Nat.zero_add, k2 (i * 5 + j) (by omega) (by omega)]
    exact hfl.2 i hi j hj
end
end Go.Proofs.YtpkbfljoakodoaaDoor
