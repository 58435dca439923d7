/- My own work: derivations: what they are, and how they lie in memory. -/
import Derived.Test.YtmpgfepkdhjibaaDoorBufs
import Derived.Laws.Cover1
namespace Go.Proofs.YtmpgfepkdhjibaaDoor
open Go.RowKit

/-- A derivation. -/
structure Dv where
  outs : List (ByteArray × ByteArray × ByteArray)
  ins : List (ByteArray × List ByteArray)
  srcs : List ByteArray
  sys : ByteArray
  bld : ByteArray
  args : List ByteArray
  env : List (ByteArray × ByteArray)
/-- So many elements, of these cells. -/
structure SlAt (w : World) (v : Value) (n : Nat) (C : List Value) : Prop where
  ex : ∃ a c b off, v = .slice a n c ∧ n ≤ c ∧ c ≤ 9223372036854775807 ∧ (C ≠ [] → a = some ⟨b, off, none⟩) ∧ ∀ i x, C[i]? = some x → w.cell? ⟨b, off + i, none⟩ = some x
  nil : ∀ n' c', v = .slice none n' c' → c' = 0
theorem SlAt.keep {w w' : World} {v : Value} {n : Nat} {C : List Value} (h : SlAt w v n C) (hb : Below w.heap.size w w') : SlAt w' v n C := by
  obtain ⟨a, c, b, off, h1, h2, h3, h4, h5⟩ := h.ex
  refine ⟨⟨a, c, b, off, h1, h2, h3, h4, fun i x hx => ?_⟩, h.nil⟩
  have hc := h5 i x hx
  exact (World.cell?_of_block (w := w) (hb.block b (World.block_lt_of_cell? w _ hc))).trans hc
def strV (l : List ByteArray) : List Value := l.map Value.string
def outV (l : List (ByteArray × ByteArray × ByteArray)) : List Value := l.flatMap fun o => [.string o.1, .string o.2.1, .string o.2.2]
def pairV (l : List (ByteArray × ByteArray)) : List Value := l.flatMap fun o => [.string o.1, .string o.2]
def inV (l : List (ByteArray × List ByteArray)) (ns : List Value) : List Value := (l.zip ns).flatMap fun o => [.string o.1.1, o.2]
/-- The inputs. -/
def InsAt (w : World) (v : Value) (l : List (ByteArray × List ByteArray)) : Prop := ∃ ns : List Value, ns.length = l.length ∧ SlAt w v l.length (inV l ns) ∧ ∀ i (h : i < l.length) (h' : i < ns.length), SlAt w ns[i] l[i].2.length (strV l[i].2)
theorem InsAt.keep {w w' : World} {v : Value} {l : List (ByteArray × List ByteArray)} (h : InsAt w v l) (hb : Below w.heap.size w w') : InsAt w' v l := by
  obtain ⟨ns, h1, h2, h3⟩ := h
  exact ⟨ns, h1, h2.keep hb, fun i h h' => (h3 i h h').keep hb⟩
/-- A derivation in memory. -/
structure DrvAt (w : World) (d : Dv) (cs : Array Value) : Prop where
  ex : ∃ vo vi vs va ve, cs = #[vo, vi, vs, .string d.sys, .string d.bld, va, ve] ∧ SlAt w vo d.outs.length (outV d.outs) ∧ InsAt w vi d.ins ∧ SlAt w vs d.srcs.length (strV d.srcs) ∧ SlAt w va d.args.length (strV d.args) ∧ SlAt w ve d.env.length (pairV d.env)
theorem DrvAt.keep {w w' : World} {d : Dv} {cs : Array Value} (h : DrvAt w d cs) (hb : Below w.heap.size w w') : DrvAt w' d cs := by
  obtain ⟨vo, vi, vs, va, ve, h0, h1, h2, h3, h4, h5⟩ := h.ex
  exact ⟨vo, vi, vs, va, ve, h0, h1.keep hb, h2.keep hb, h3.keep hb, h4.keep hb, h5.keep hb⟩
theorem SlAt.shape {w : World} {v : Value} {n : Nat} {C : List Value} (h : SlAt w v n C) : ∃ a c, v = .slice a n c ∧ n ≤ c ∧ c ≤ 9223372036854775807 := by
  obtain ⟨a, c, b, off, h1, h2, h3, h4, h5⟩ := h.ex
  exact ⟨a, c, h1, h2, h3⟩

theorem strV_at (l : List ByteArray) (i : Nat) (h : i < l.length) : (strV l)[i]? = some (.string l[i]) := by simp [strV, h]
theorem flat_at {α : Type} (k : Nat) (f : α → List Value) (hf : ∀ x, (f x).length = k) : ∀ (l : List α) (i j : Nat) (h : i < l.length), j < k → (l.flatMap f)[k * i + j]? = (f l[i])[j]?
  | x :: l, 0, j, _, hj => by
    rw [List.flatMap_cons, List.getElem?_append_left (by rw [hf]; omega)]
    simp
  | x :: l, i + 1, j, h, hj => by
    rw [List.flatMap_cons, List.getElem?_append_right (by rw [hf, Nat.mul_succ]; omega), hf]
    have e : k * (i + 1) + j - k = k * i + j := by rw [Nat.mul_succ]; omega
    rw [e, flat_at k f hf l i j (by simpa using h) hj]
    simp
theorem flat_len {α : Type} (k : Nat) (f : α → List Value) (hf : ∀ x, (f x).length = k) (l : List α) : (l.flatMap f).length = k * l.length := by
  induction l with
  | nil => simp
  | cons x l ih => rw [List.flatMap_cons, List.length_append, hf, ih, List.length_cons, Nat.mul_succ]; omega
theorem outV_len (l : List (ByteArray × ByteArray × ByteArray)) : (outV l).length = 3 * l.length := flat_len 3 _ (fun _ => rfl) l
theorem pairV_len (l : List (ByteArray × ByteArray)) : (pairV l).length = 2 * l.length := flat_len 2 _ (fun _ => rfl) l
theorem strV_len (l : List ByteArray) : (strV l).length = l.length := by simp [strV]
theorem inV_len (l : List (ByteArray × List ByteArray)) (ns : List Value) (h : ns.length = l.length) : (inV l ns).length = 2 * l.length := by
  have := flat_len 2 (fun o : (ByteArray × List ByteArray) × Value => [.string o.1.1, o.2]) (fun _ => rfl) (l.zip ns)
  rw [List.length_zip, h, Nat.min_self] at this
  exact this
theorem outV_at (l : List (ByteArray × ByteArray × ByteArray)) (i : Nat) (h : i < l.length) : (outV l)[3 * i]? = some (.string l[i].1) ∧ (outV l)[3 * i + 1]? = some (.string l[i].2.1) ∧ (outV l)[3 * i + 2]? = some (.string l[i].2.2) :=
  ⟨flat_at 3 _ (fun _ => rfl) l i 0 h (by omega), flat_at 3 _ (fun _ => rfl) l i 1 h (by omega), flat_at 3 _ (fun _ => rfl) l i 2 h (by omega)⟩
theorem pairV_at (l : List (ByteArray × ByteArray)) (i : Nat) (h : i < l.length) : (pairV l)[2 * i]? = some (.string l[i].1) ∧ (pairV l)[2 * i + 1]? = some (.string l[i].2) :=
  ⟨flat_at 2 _ (fun _ => rfl) l i 0 h (by omega), flat_at 2 _ (fun _ => rfl) l i 1 h (by omega)⟩
theorem inV_at (l : List (ByteArray × List ByteArray)) (ns : List Value) (hn : ns.length = l.length) (i : Nat) (h : i < l.length) : (inV l ns)[2 * i]? = some (.string l[i].1) ∧ (inV l ns)[2 * i + 1]? = some (ns[i]'(by omega)) := by
  have hz : i < (l.zip ns).length := by rw [List.length_zip]; omega
  have h0 := flat_at 2 (fun o : (ByteArray × List ByteArray) × Value => [.string o.1.1, o.2]) (fun _ => rfl) (l.zip ns) i 0 hz (by omega)
  have h1 := flat_at 2 (fun o : (ByteArray × List ByteArray) × Value => [.string o.1.1, o.2]) (fun _ => rfl) (l.zip ns) i 1 hz (by omega)
  rw [List.getElem_zip] at h0 h1
  exact ⟨h0, h1⟩

/-- Is a text not above another? -/
def leB (a b : ByteArray) : Bool := Op.bytesLess a.toList b.toList || a.toList == b.toList
/-- Do keys rise? -/
def risesB (l : List ByteArray) : Bool := (List.range l.length).all fun i => decide (i = 0) || !leB (l.getD i ⟨#[]⟩) (l.getD (i - 1) ⟨#[]⟩)
theorem risesB_yes (l : List ByteArray) (h : ∀ i, 0 < i → i < l.length → leB (l.getD i ⟨#[]⟩) (l.getD (i - 1) ⟨#[]⟩) = false) : risesB l = true := by
  unfold risesB
  rw [List.all_eq_true]
  intro i hi
  by_cases h0 : i = 0
  · simp [h0]
  · rw [h i (by omega) (List.mem_range.1 hi)]
    simp
theorem risesB_no (l : List ByteArray) (i : Nat) (h0 : 0 < i) (h : i < l.length) (hb : leB (l.getD i ⟨#[]⟩) (l.getD (i - 1) ⟨#[]⟩) = true) : risesB l = false := by
  unfold risesB
  rw [List.all_eq_false]
  exact ⟨i, List.mem_range.2 h, by rw [hb]; simp; omega⟩
end Go.Proofs.YtmpgfepkdhjibaaDoor
