/- My own work: a directory that is read, entry by entry. -/
import Derived.Test.YtimiginpdkokiaaDoorRd7
namespace Go.Proofs.YtimiginpdkokiaaDoor
open Go.RowKit

/-- Blocks that a directory's nodes may lie in. -/
def Pin (w0 w : World) (nv kv : Value) (b : Nat) : Prop := w0.heap.size + 2 ≤ b ∧ b < w.heap.size ∧ nv.ownBlock ≠ some b ∧ kv.ownBlock ≠ some b
/-- The directory so far: w0 the world in which the call began. -/
structure DirL (I : Inp) (w0 : World) (ns : List ByteArray) (ks : List Nd) (nv kv : Value) (Cs : Nat → Array Value) (w : World) : Prop where
  gr : Gr I w0 w
  row : Row w (w0.heap.size + 1) #[.int .i64 2, .bool false, .slice none 0 0, nv, kv] 26
  res : Row w w0.heap.size node0 26
  names : w.ownsRow (w0.heap.size + 2) 9 1 nv ns.length (ns.map Value.string)
  kids : w.ownsRow (w0.heap.size + 2) 26 5 kv ks.length ((List.range ks.length).flatMap fun j => (Cs j).toList)
  size : ∀ j, j < ks.length → (Cs j).size = 5
  each : ∀ j (h : j < ks.length), NodeOn w (Pin w0 w nv kv) ks[j] (Cs j)
section
variable {I : Inp} {w0 w w' w3 : World} {ns : List ByteArray} {ks : List Nd} {nv kv nv' kv' : Value} {Cs : Nat → Array Value}
theorem DirL.step (h : DirL I w0 ns ks nv kv Cs w) (hgR : I.gR < w0.heap.size) (g : Gr I w w') : DirL I w0 ns ks nv kv Cs w' := by
  have hk : ∀ k, k < w.heap.size → w0.heap.size ≤ k → w'.heap[k]? = w.heap[k]? := fun k hl hge => g.block k hl (fun e => by simp only [Option.some.injEq] at e; omega)
  exact ⟨h.gr.trans g, (hk _ h.row.lt (by omega)).trans h.row, (hk _ h.res.lt (by omega)).trans h.res,
    ownsRow_keep h.names (fun k hk1 hl => hk k hl (by have := (ownsRow_lt h.names k hk1).2.1; omega)),
    ownsRow_keep h.kids (fun k hk1 hl => hk k hl (by have := (ownsRow_lt h.kids k hk1).2.1; omega)), h.size,
    fun j hj => ((h.each j hj).keep (w' := w') fun b hb => hk b hb.2.1 (by have := hb.1; omega)).mono fun b hb => ⟨hb.1, by have := g.size; have := hb.2.1; omega, hb.2.2⟩⟩
/-- What stays where a row of the directory's own grows, and a cell of it is set. -/
theorem stay_blocks {v : Value} {i : Nat} {x : Value} (hg : w.grownBy w3 v.ownBlock) : ∀ k, k < w.heap.size → v.ownBlock ≠ some k → k ≠ w0.heap.size + 1 → (w3.setCell ⟨w0.heap.size + 1, i, none⟩ x).heap[k]? = w.heap[k]? := fun k hk hne hk6 =>
  (heap_setCell_other w3 ⟨w0.heap.size + 1, i, none⟩ k x hk6).trans (hg.block k hk (fun e => hne e.symm))
theorem DirL.name (h : DirL I w0 ns ks nv kv Cs w) (nm : ByteArray) (own' : w3.ownsRow (w0.heap.size + 2) 9 1 nv' (ns.length + 1) (ns.map Value.string ++ [.string nm])) (hg : w.grownBy w3 nv.ownBlock) (hor : nv'.ownBlock = nv.ownBlock ∨ nv'.ownBlock = some w.heap.size) :
    Row w3 (w0.heap.size + 1) #[.int .i64 2, .bool false, .slice none 0 0, nv, kv] 26 ∧ DirL I w0 (ns ++ [nm]) ks nv' kv Cs (w3.setCell ⟨w0.heap.size + 1, 3, none⟩ nv') ∧ (∀ n C, NodeOn w (Pin w0 w nv kv) n C → NodeOn (w3.setCell ⟨w0.heap.size + 1, 3, none⟩ nv') (Pin w0 (w3.setCell ⟨w0.heap.size + 1, 3, none⟩ nv') nv' kv) n C) ∧ (∀ k C, Row w k C 26 → k ≠ w0.heap.size + 1 → Row (w3.setCell ⟨w0.heap.size + 1, 3, none⟩ nv') k C 26) := by
  have hnb : ∀ q, nv.ownBlock = some q → w0.heap.size + 2 ≤ q ∧ q < w.heap.size ∧ ∃ c, Row w q c 9 := fun q hq => by
    obtain ⟨a, b, c, d⟩ := ownsRow_lt h.names q hq
    exact ⟨b, a, c, d⟩
  have hst := stay_blocks (w0 := w0) (i := 3) (x := nv') hg
  have hss : (w3.setCell ⟨w0.heap.size + 1, 3, none⟩ nv').heap.size = w3.heap.size := by simp
  have hs3 := hg.size
  have hrow3 : Row w3 (w0.heap.size + 1) #[.int .i64 2, .bool false, .slice none 0 0, nv, kv] 26 := (hg.block _ h.row.lt (fun e => by have := hnb _ e.symm; omega)).trans h.row
  have hmono : ∀ b, Pin w0 w nv kv b → Pin w0 (w3.setCell ⟨w0.heap.size + 1, 3, none⟩ nv') nv' kv b := fun b hb => ⟨hb.1, by rw [hss]; have := hb.2.1; omega, fun e => by
    rcases hor with h1 | h1
    · rw [h1] at e; exact hb.2.2.1 e
    · rw [h1] at e; simp only [Option.some.injEq] at e; have := hb.2.1; omega, hb.2.2.2⟩
  have hnode : ∀ n C, NodeOn w (Pin w0 w nv kv) n C → NodeOn (w3.setCell ⟨w0.heap.size + 1, 3, none⟩ nv') (Pin w0 (w3.setCell ⟨w0.heap.size + 1, 3, none⟩ nv') nv' kv) n C := fun n C hn =>
    (hn.keep (w' := w3.setCell ⟨w0.heap.size + 1, 3, none⟩ nv') fun b hb => hst b hb.2.1 hb.2.2.1 (by have := hb.1; omega)).mono hmono
  have hrows : ∀ k C, Row w k C 26 → k ≠ w0.heap.size + 1 → Row (w3.setCell ⟨w0.heap.size + 1, 3, none⟩ nv') k C 26 := fun k C hr hk => (hst k hr.lt (fun e => by
    obtain ⟨_, _, c, r⟩ := hnb k e
    exact row_apart hr r (by decide) rfl) hk).trans hr
  have hgr : Gr I w0 (w3.setCell ⟨w0.heap.size + 1, 3, none⟩ nv') := by
    have g1 := h.gr
    have hs := g1.size
    exact ⟨hg.os.trans g1.os, hg.tape.trans g1.tape, hg.output.trans g1.output, by rw [hss]; omega, fun k hk hne => (hst k (by omega) (fun e => by have := hnb k e; omega) (by omega)).trans (g1.block k hk hne)⟩
  refine ⟨hrow3, ⟨hgr, ?_, hrows _ _ h.res (by omega), ?_, ?_, h.size, fun j hj => hnode _ _ (h.each j hj)⟩, hnode, hrows⟩
  · have := hrow3.setCell (i := 3) nv'
    exact this
  · rw [List.length_append, List.map_append]
    exact ownsRow_keep own' (fun k hk _ => heap_setCell_other w3 ⟨w0.heap.size + 1, 3, none⟩ k nv' (by have := (ownsRow_lt own' k hk).2.1; show k ≠ w0.heap.size + 1; omega))
  · exact ownsRow_keep h.kids (fun k hk hl => hst k hl (fun e => by
      obtain ⟨_, _, c, r⟩ := hnb k e
      obtain ⟨_, _, c2, r2⟩ := ownsRow_lt h.kids k hk
      exact row_apart r r2 (by decide) rfl) (by have := (ownsRow_lt h.kids k hk).2.1; omega))
theorem DirL.kid (h : DirL I w0 ns ks nv kv Cs w) (kd : Nd) (C' : Array Value) (hC5 : C'.size = 5) (hn : NodeOn w (Pin w0 w nv kv) kd C') (own' : w3.ownsRow (w0.heap.size + 2) 26 5 kv' (ks.length + 1) (((List.range ks.length).flatMap fun j => (Cs j).toList) ++ C'.toList)) (hg : w.grownBy w3 kv.ownBlock) (hor : kv'.ownBlock = kv.ownBlock ∨ kv'.ownBlock = some w.heap.size) :
    Row w3 (w0.heap.size + 1) #[.int .i64 2, .bool false, .slice none 0 0, nv, kv] 26 ∧ DirL I w0 ns (ks ++ [kd]) nv kv' (fun j => if j = ks.length then C' else Cs j) (w3.setCell ⟨w0.heap.size + 1, 4, none⟩ kv') := by
  have hkb : ∀ q, kv.ownBlock = some q → w0.heap.size + 2 ≤ q ∧ q < w.heap.size ∧ ∃ c, Row w q c 26 := fun q hq => by
    obtain ⟨a, b, c, d⟩ := ownsRow_lt h.kids q hq
    exact ⟨b, a, c, d⟩
  have hst := stay_blocks (w0 := w0) (i := 4) (x := kv') hg
  have hss : (w3.setCell ⟨w0.heap.size + 1, 4, none⟩ kv').heap.size = w3.heap.size := by simp
  have hs3 := hg.size
  have hrow3 : Row w3 (w0.heap.size + 1) #[.int .i64 2, .bool false, .slice none 0 0, nv, kv] 26 := (hg.block _ h.row.lt (fun e => by have := hkb _ e.symm; omega)).trans h.row
  have hmono : ∀ b, Pin w0 w nv kv b → Pin w0 (w3.setCell ⟨w0.heap.size + 1, 4, none⟩ kv') nv kv' b := fun b hb => ⟨hb.1, by rw [hss]; have := hb.2.1; omega, hb.2.2.1, fun e => by
    rcases hor with h1 | h1
    · rw [h1] at e; exact hb.2.2.2 e
    · rw [h1] at e; simp only [Option.some.injEq] at e; have := hb.2.1; omega⟩
  have hnode : ∀ n C, NodeOn w (Pin w0 w nv kv) n C → NodeOn (w3.setCell ⟨w0.heap.size + 1, 4, none⟩ kv') (Pin w0 (w3.setCell ⟨w0.heap.size + 1, 4, none⟩ kv') nv kv') n C := fun n C hn =>
    (hn.keep (w' := w3.setCell ⟨w0.heap.size + 1, 4, none⟩ kv') fun b hb => hst b hb.2.1 hb.2.2.2 (by have := hb.1; omega)).mono hmono
  have hgr : Gr I w0 (w3.setCell ⟨w0.heap.size + 1, 4, none⟩ kv') := by
    have g1 := h.gr
    have hs := g1.size
    exact ⟨hg.os.trans g1.os, hg.tape.trans g1.tape, hg.output.trans g1.output, by rw [hss]; omega, fun k hk hne => (hst k (by omega) (fun e => by have := hkb k e; omega) (by omega)).trans (g1.block k hk hne)⟩
  have hres : Row (w3.setCell ⟨w0.heap.size + 1, 4, none⟩ kv') w0.heap.size node0 26 := (hst _ h.res.lt (fun e => by have := hkb _ e; omega) (by omega)).trans h.res
  have hlen : (ks ++ [kd]).length = ks.length + 1 := by simp
  refine ⟨hrow3, ⟨hgr, ?_, hres, ?_, ?_, ?_, ?_⟩⟩
  · have := hrow3.setCell (i := 4) kv'
    exact this
  · exact ownsRow_keep h.names (fun k hk hl => hst k hl (fun e => by
      obtain ⟨_, _, c, r⟩ := hkb k e
      obtain ⟨_, _, c2, r2⟩ := ownsRow_lt h.names k hk
      exact row_apart r r2 (by decide) rfl) (by have := (ownsRow_lt h.names k hk).2.1; omega))
  · have := ownsRow_keep (w' := w3.setCell ⟨w0.heap.size + 1, 4, none⟩ kv') own' (fun k hk _ => heap_setCell_other w3 ⟨w0.heap.size + 1, 4, none⟩ k kv' (by have := (ownsRow_lt own' k hk).2.1; show k ≠ w0.heap.size + 1; omega))
    rw [flat_next] at this
    rw [hlen]
    exact this
  · intro j hj
    rw [hlen] at hj
    by_cases ej : j = ks.length
    · simp only [ej, if_true]; exact hC5
    · simp only [ej, if_false]; exact h.size j (by omega)
  · intro j hj
    rw [hlen] at hj
    by_cases ej : j = ks.length
    · subst ej
      simp only [if_true, List.getElem_concat_length]
      exact hnode _ _ hn
    · have hjl : j < ks.length := by omega
      simp only [ej, if_false]
      rw [List.getElem_append_left hjl]
      exact hnode _ _ (h.each j hjl)
theorem DirL.done {na ka : Option Addr} {nc kc : Nat} (h : DirL I w0 ns ks (.slice na ns.length nc) (.slice ka ks.length kc) Cs w) (hne : ∀ s ∈ ns, s.size ≤ big) (hn4 : ns.length * 16 ≤ big) : NodeOn w (fun b => w0.heap.size + 1 ≤ b ∧ b < w.heap.size) (.mk 2 false ⟨#[]⟩ ns ks) (nodeV 2 false none 0 0 na ns.length nc ka ks.length kc) := by
  have hfl := flat_at Cs ks.length h.size
  obtain ⟨nb, n1, n2, n3, n5, n6, n7⟩ := own_parts h.names
  obtain ⟨kb, k1, k2, k3, k5, k6, k7⟩ := own_parts h.kids
  refine .mk (db := 0) (doff := 0) (nb := nb) (noff := 0) (kb := kb) (koff := 0) (Cs := Cs) (by omega) ⟨fun h => absurd h (by decide), fun i hi => absurd hi (by simp [ByteArray.size]), fun _ => ⟨rfl, rfl⟩, Nat.le_refl _, by unfold maxLen; omega, Nat.zero_le _, fun h => absurd h (by decide)⟩ ⟨n1, fun i hi => ?_, n3, n5, n6, hn4, hne, fun h0 => by have := n7 h0; omega⟩ ⟨k1, fun i hi j hj => ?_, h.size, k3, k5, k6⟩ (fun h0 => by have := k7 h0; omega) (fun i hi => (h.each i hi).mono fun b hb => ⟨by have := hb.1; omega, hb.2.1⟩)
  · rw [Nat.zero_add, n2 i (by omega) (by omega), List.getElem?_map, List.getElem?_eq_getElem hi]
    rfl
  · rw [Nat.zero_add, k2 (i * 5 + j) (by omega) (by omega)]
    exact hfl.2 i hi j hj
/-- The directory at its beginning. -/
theorem DirL.start (I : Inp) (w0 : World) : DirL I w0 [] [] (.slice none 0 0) (.slice none 0 0) (fun _ => #[]) ((w0.alloc (.cells node0 26)).alloc (.cells (nodeV 2 false none 0 0 none 0 0 none 0 0) 26)) := by
  have hb0 : Below w0.heap.size w0 (w0.alloc (.cells node0 26)) := (Below.refl _ _).alloc (Nat.le_refl _) _
  have hsz0 : (w0.alloc (.cells node0 26)).heap.size = w0.heap.size + 1 := by simp
  have hb1 : Below w0.heap.size w0 ((w0.alloc (.cells node0 26)).alloc (.cells (nodeV 2 false none 0 0 none 0 0 none 0 0) 26)) := hb0.alloc (by omega) _
  refine ⟨Gr.of hb1, ?_, (Row.new w0 _ 26).alloc _, World.ownsRow_nil _ _ _ _, World.ownsRow_nil _ _ _ _, fun j hj => absurd hj (by simp), fun j hj => absurd hj (by simp)⟩
  have := Row.new (w0.alloc (.cells node0 26)) (nodeV 2 false none 0 0 none 0 0 none 0 0) 26
  rw [hsz0] at this
  exact this
theorem own_slice {B e s n : Nat} {v : Value} {xs : List Value} (h : w.ownsRow B e s v n xs) : ∃ a c, v = .slice a n c := by
  obtain ⟨_, ⟨rfl, h0⟩ | ⟨g, cap, cur, rfl, _⟩⟩ := h
  · exact ⟨none, 0, by rw [h0]⟩
  · exact ⟨_, _, rfl⟩
end
/-- 'append' as an operation of a list. -/
theorem wpList_append_any {w : World} {ops : Array Oper} {rest : List Oper} {o : Oper} {a : Act} {Q : Exit → Act → World → Prop} (hgd : o.guard = none) (dd : Option Tmp) (hdd : o.dst = dd) (s x : Operand) (t e : TypeId) (z : Value) (size bytes : Nat) (ht : Tryd.prog.underlying t = some (.slice e)) (hi : (Tryd.prog.info? e).map (fun i => (i.zero, i.size, i.bytes)) = some (some z, size, bytes)) (hzs : z.cells.size = size) (hsz : 0 < size)
    (ho : o.op = .call { callee := .builtin .append, args := #[s, x], argTypes := #[t, t] }) (base : Nat) (v : Value) (n : Nat) (xs : List Value) (hs : a.eval s = v) (hown : w.ownsRow base e size v n xs)
    (b cap : Nat) (news : List Value) (hl : news.length = 1 * size) (hx : a.eval x = .slice (some ⟨b, 0, none⟩) 1 cap) (hcell : ∀ j u, news[j]? = some u → w.cell? ⟨b, 0 + j, none⟩ = some u) (hone : ∀ u ∈ news, u.oneCell' = true) (hln : n + 1 ≤ maxLen) (hby : (n + 1) * bytes ≤ 140737488355328) (hbase : base ≤ w.heap.size)
    (h : ∀ v' w', w'.ownsRow base e size v' (n + 1) (xs ++ news) → w.grownBy w' v.ownBlock → (v'.ownBlock = v.ownBlock ∨ v'.ownBlock = some w.heap.size) → wpList Tryd.prog ops Q rest (a.put dd v') w') : wpList Tryd.prog ops Q (o :: rest) a w :=
  wpList_plain hgd fun _ hK => wp_append_any dd hdd s x t e z size bytes ht hi hzs hsz ho base v n xs hs hown (some ⟨b, 0, none⟩) b 0 1 cap news hl hx (fun _ => rfl) hcell hone (fun h => nomatch h) hln hby hbase (fun v' w' h1 h2 h3 => by rw [← hdd]; exact hK _ _ (by rw [hdd]; exact h v' w' h1 h2 h3))
end Go.Proofs.YtimiginpdkokiaaDoor
