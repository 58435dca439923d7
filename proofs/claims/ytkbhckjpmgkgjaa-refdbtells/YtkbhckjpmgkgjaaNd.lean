/- Nodes: what they are, and how they lie in memory; the numbers that are told of them. -/
import Derived.Test.YtkbhckjpmgkgjaaBase
import Derived.Deep.DeepAppendWide
import Derived.Laws.AppendOwnNone
import Derived.Maps.AppendAt
namespace Go.Proofs.Ytkbhckjpmgkgjaa
open Go.RowKit

/-- A node: its kind, whether it is Exec, its bytes, its names, its nodes. -/
inductive Nd where
  | mk (kind : Int) (exec : Bool) (data : ByteArray) (names : List ByteArray) (kids : List Nd)
namespace Nd
def kind : Nd → Int | mk k _ _ _ _ => k
def exec : Nd → Bool | mk _ e _ _ _ => e
def data : Nd → ByteArray | mk _ _ d _ _ => d
def names : Nd → List ByteArray | mk _ _ _ n _ => n
def kids : Nd → List Nd | mk _ _ _ _ k => k
end Nd
instance : Inhabited Nd := ⟨.mk 0 false ⟨#[]⟩ [] []⟩
mutual
/-- How many nodes, itself too. -/
def Nd.count : Nd → Nat | .mk _ _ _ _ ks => 1 + Nd.countL ks
def Nd.countL : List Nd → Nat | [] => 0 | k :: ks => k.count + Nd.countL ks
end
mutual
/-- How many above one another. -/
def Nd.height : Nd → Nat | .mk _ _ _ _ ks => 1 + Nd.heightL ks
def Nd.heightL : List Nd → Nat | [] => 0 | k :: ks => max k.height (Nd.heightL ks)
end
theorem Nd.count_pos (n : Nd) : 1 ≤ n.count := by cases n; simp only [Nd.count]; omega
theorem Nd.countL_at : ∀ (ks : List Nd) (i : Nat) (h : i < ks.length), ks[i].count ≤ Nd.countL ks
  | k :: ks, 0, _ => by simp only [Nd.countL, List.getElem_cons_zero]; omega
  | k :: ks, i + 1, h => by
    have := Nd.countL_at ks i (by simpa using h)
    simp only [Nd.countL, List.getElem_cons_succ]
    omega
theorem Nd.countL_len : ∀ ks : List Nd, ks.length ≤ Nd.countL ks
  | [] => Nat.zero_le _
  | k :: ks => by
    have := Nd.countL_len ks
    have := k.count_pos
    simp only [Nd.countL, List.length_cons]
    omega
theorem Nd.kid_lt {k : Int} {e : Bool} {d : ByteArray} {ns : List ByteArray} {ks : List Nd} {N : Nat} (hN : (Nd.mk k e d ns ks).count ≤ N + 1) (i : Nat) (h : i < ks.length) : ks[i].count ≤ N := by
  have := Nd.countL_at ks i h
  simp only [Nd.count] at hN
  omega

/-- The bytes of a text, by their places. -/
def bf (d : ByteArray) (i : Nat) : Int := ((d.data[i]?).getD 0).toNat
theorem bf_bd (d : ByteArray) (i : Nat) : 0 ≤ bf d i ∧ bf d i < 256 := by
  unfold bf
  have := ((d.data[i]?).getD 0).toNat_lt
  omega
/-- How long something may be that came in. -/
abbrev big : Nat := 140737488351232
/-- Bytes as a slice. -/
structure BytesAt (w : World) (a : Option Addr) (d : ByteArray) (c : Nat) : Prop where
  ex : ∃ b off, (0 < d.size → a = some ⟨b, off, none⟩) ∧ ∀ i, i < d.size → w.cell? ⟨b, off + i, none⟩ = some (.int .u8 (bf d i))
  nil : a = none → d.size = 0 ∧ c = 0
  le : d.size ≤ c
  cap : c ≤ maxLen
  len : d.size ≤ big
/-- Texts as a slice. -/
structure StrsAt (w : World) (a : Option Addr) (ns : List ByteArray) (c : Nat) : Prop where
  ex : ∃ b off, (0 < ns.length → a = some ⟨b, off, none⟩) ∧ ∀ i (h : i < ns.length), w.cell? ⟨b, off + i, none⟩ = some (.string ns[i])
  nil : a = none → ns.length = 0 ∧ c = 0
  le : ns.length ≤ c
  cap : c ≤ maxLen
  len : ns.length * 16 ≤ big
  each : ∀ s ∈ ns, s.size ≤ big
/-- Nodes as a slice: their cells, five each. -/
structure KidsAt (w : World) (a : Option Addr) (b off n c : Nat) (Cs : Nat → Array Value) : Prop where
  at' : 0 < n → a = some ⟨b, off, none⟩
  cell : ∀ i, i < n → ∀ j, j < 5 → w.cell? ⟨b, off + i * 5 + j, none⟩ = (Cs i)[j]?
  size : ∀ i, i < n → (Cs i).size = 5
  nil : a = none → n = 0 ∧ c = 0
  le : n ≤ c
  cap : c ≤ maxLen
/-- A node as five cells. -/
abbrev nodeV (k : Int) (e : Bool) (da : Option Addr) (dl dc : Nat) (na : Option Addr) (nl nc : Nat) (ka : Option Addr) (kl kc : Nat) : Array Value :=
  #[.int .i64 k, .bool e, .slice da dl dc, .slice na nl nc, .slice ka kl kc]
inductive NodeAt (w : World) : Nd → Array Value → Prop
  | mk {k : Int} {e : Bool} {d : ByteArray} {ns : List ByteArray} {ks : List Nd} {da : Option Addr} {dc : Nat} {na : Option Addr} {nc : Nat} {ka : Option Addr} {kb koff kc : Nat} {Cs : Nat → Array Value}
      (hk : -9223372036854775808 ≤ k ∧ k ≤ 9223372036854775807) (hd : BytesAt w da d dc) (hn : StrsAt w na ns nc) (hks : KidsAt w ka kb koff ks.length kc Cs) (each : ∀ i (h : i < ks.length), NodeAt w ks[i] (Cs i)) :
      NodeAt w (.mk k e d ns ks) (nodeV k e da d.size dc na ns.length nc ka ks.length kc)
section
variable {w w' : World}
theorem BytesAt.keep {a : Option Addr} {d : ByteArray} {c : Nat} (h : BytesAt w a d c) (hb : Below w.heap.size w w') : BytesAt w' a d c := by
  obtain ⟨b, off, h1, h2⟩ := h.ex
  exact ⟨⟨b, off, h1, fun i hi => (World.cell?_of_block (w := w) (hb.block b (World.block_lt_of_cell? _ _ (h2 i hi)))).trans (h2 i hi)⟩, h.nil, h.le, h.cap, h.len⟩
theorem StrsAt.keep {a : Option Addr} {ns : List ByteArray} {c : Nat} (h : StrsAt w a ns c) (hb : Below w.heap.size w w') : StrsAt w' a ns c := by
  obtain ⟨b, off, h1, h2⟩ := h.ex
  exact ⟨⟨b, off, h1, fun i hi => (World.cell?_of_block (w := w) (hb.block b (World.block_lt_of_cell? _ _ (h2 i hi)))).trans (h2 i hi)⟩, h.nil, h.le, h.cap, h.len, h.each⟩
theorem KidsAt.cell' {a : Option Addr} {b off n c : Nat} {Cs : Nat → Array Value} (h : KidsAt w a b off n c Cs) (i : Nat) (hi : i < n) (j : Nat) (hj : j < 5) : ∃ v, (Cs i)[j]? = some v ∧ w.cell? ⟨b, off + i * 5 + j, none⟩ = some v := by
  have hs := h.size i hi
  exact ⟨(Cs i)[j]'(by omega), Array.getElem?_eq_getElem _, (h.cell i hi j hj).trans (Array.getElem?_eq_getElem _)⟩
theorem KidsAt.lt {a : Option Addr} {b off n c : Nat} {Cs : Nat → Array Value} (h : KidsAt w a b off n c Cs) (hn : 0 < n) : b < w.heap.size := by
  obtain ⟨v, _, h2⟩ := h.cell' 0 hn 0 (by omega)
  exact World.block_lt_of_cell? _ _ h2
theorem KidsAt.keep {a : Option Addr} {b off n c : Nat} {Cs : Nat → Array Value} (h : KidsAt w a b off n c Cs) (hb : Below w.heap.size w w') : KidsAt w' a b off n c Cs :=
  ⟨h.at', fun i hi j hj => (World.cell?_of_block (w := w) (hb.block b (h.lt (by omega)))).trans (h.cell i hi j hj), h.size, h.nil, h.le, h.cap⟩
/-- The cells of one node of a list stand in a row. -/
theorem KidsAt.range {a : Option Addr} {b off n c : Nat} {Cs : Nat → Array Value} (h : KidsAt w a b off n c Cs) (i : Nat) (hi : i < n) : w.rangeAt b (off + i * 5) (Cs i).toList := fun j v hj => by
  have hs := h.size i hi
  have hj' : j < 5 := by
    have := (List.getElem?_eq_some_iff.1 hj).1
    simp at this
    omega
  rw [h.cell i hi j hj', ← hj, Array.getElem?_toList]
theorem NodeAt.keep {n : Nd} {C : Array Value} (h : NodeAt w n C) (hb : Below w.heap.size w w') : NodeAt w' n C := by
  induction h with
  | mk hk hd hn hks _ ih => exact .mk hk (hd.keep hb) (hn.keep hb) (hks.keep hb) ih
theorem NodeAt.size {n : Nd} {C : Array Value} (h : NodeAt w n C) : C.size = 5 := by cases h; rfl
end

section
variable {ops : Array Oper} {rest : List Oper} {o : Oper} {a : Act} {w : World} {Q : Exit → Act → World → Prop}
/-- A struct stored into the block that was made last. -/
theorem wpList_store_new (hgd : o.guard = none) (ty : TypeId) (x y : Operand) (ho : o.op = .store ty x y) (W : World) (Z C : Array Value) (t : TypeId) (hw : w = W.alloc (.cells Z t)) (g : Nat) (hg : g = W.heap.size) (hx : a.eval x = .pointer (some ⟨g, 0, none⟩)) (hy : a.eval y = .agg C)
    (hi : (Try.prog.info? ty).map (·.size) = some C.size) (hs : Z.size = C.size) (h1 : C.all (·.oneCell') = true)
    (h : wpList Try.prog ops Q rest (a.put o.dst undef) (W.alloc (.cells C t))) : wpList Try.prog ops Q (o :: rest) a w := by
  subst hw
  subst hg
  refine wpList_store_row hgd ty x y ho W.heap.size C hx hy t Z (heap_alloc_new W _) hi hs h1 ?_
  rw [World.setRow_alloc_new]
  exact h
end
theorem nodeV_one (k : Int) (e : Bool) (da : Option Addr) (dl dc : Nat) (na : Option Addr) (nl nc : Nat) (ka : Option Addr) (kl kc : Nat) : (nodeV k e da dl dc na nl nc ka kl kc).all (fun x => x.oneCell') = true := by simp [nodeV, Value.oneCell']
end Go.Proofs.Ytkbhckjpmgkgjaa
