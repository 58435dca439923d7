/- Every digest has a key; how many unlike keys there are is how many digests have no like one ahead of them. -/
import Derived.Test.YtihemceilmcekaaDoorDistinct
import Derived.Test.YtihemceilmcekaaDoorSame
import Derived.DataBytes
namespace Go.Proofs.YtihemceilmcekaaDoor
open Go.RowKit Go.Maps

theorem key_some (f : Nat → Int) (hf : ∀ i, 0 ≤ f i ∧ f i < 256) : ∃ l, keyOf Tryd.prog 24 (.agg (arr f 32)) = some l := by
  have hc24 : Tryd.prog.cellsOf 24 = 32 := by kernel_rfl
  have hk : (Tryd.prog.keyType 24 && (Value.agg (arr f 32)).formed Tryd.prog 24) = true := by
    have h1 : Tryd.prog.keyType 24 = true := by kernel_rfl
    simp [h1, Value.formed, Tryd.underlying24, hc24, arr_size]
  obtain ⟨N, hN⟩ : ∃ N, Tryd.prog.types.size + 1 = N + 2 := ⟨Tryd.prog.types.size - 1, by have : 0 < Tryd.prog.types.size := of_decide_eq_true (by kernel_rfl); omega⟩
  unfold keyOf
  simp only [Tryd.underlying24]
  rw [if_pos hk, hN]
  have hl : (Value.agg (arr f 32)).cells.toList.length = Tryd.prog.cellsOf 24 := by rw [hc24]; simp [Value.cells, arr_size]
  have e : Tryd.prog.keyLits (N + 2) 24 (Value.agg (arr f 32)).cells.toList = ((List.range 32).mapM fun i => Tryd.prog.keyLits (N + 1) 5 (((Value.agg (arr f 32)).cells.toList.drop (i * Tryd.prog.cellsOf 5)).take (Tryd.prog.cellsOf 5))).map List.flatten := by
    unfold Program.keyLits
    simp only [Tryd.underlying24]
    rw [if_pos hl]
    unfold Program.keyLits
    rfl
  have hm := mapM_some_of_forall (f := fun i => Tryd.prog.keyLits (N + 1) 5 (((Value.agg (arr f 32)).cells.toList.drop (i * Tryd.prog.cellsOf 5)).take (Tryd.prog.cellsOf 5))) (g := fun i => [Lit.int .u8 (f i)]) (List.range 32) (fun i hi => by
    have hi' : i < 32 := by simpa using hi
    have hd : ((Value.agg (arr f 32)).cells.toList.drop (i * Tryd.prog.cellsOf 5)).take (Tryd.prog.cellsOf 5) = [.int .u8 (f i)] := by
      rw [cells5, Nat.mul_one]
      have hg : (Value.agg (arr f 32)).cells.toList[i]? = some (.int .u8 (f i)) := by
        show (arr f 32).toList[i]? = _
        rw [Array.getElem?_toList]
        exact arr_at f 32 i hi'
      obtain ⟨hlt, hv⟩ := List.getElem?_eq_some_iff.1 hg
      rw [List.drop_eq_getElem_cons hlt, List.take_succ_cons, List.take_zero, hv]
    rw [hd]
    have hw : (Lit.int .u8 (f i)).wf = true := by
      have := hf i
      simp [Lit.wf, IntKind.min, IntKind.max, IntKind.signed, IntKind.bits]
      omega
    simp [Program.keyLits, Tryd.underlying5, hw])
  rw [e, hm]
  exact ⟨_, rfl⟩

/-- Has the digest number i no like one among the first k? -/
def fresh (g : Nat → Nat → Int) (k i : Nat) : Bool := (List.range k).all fun j => !same 32 (g j) (g i)
theorem fresh_succ (g : Nat → Nat → Int) (k i : Nat) : fresh g (k + 1) i = (fresh g k i && !same 32 (g k) (g i)) := by simp [fresh, List.range_succ]
/-- How many of the first n have no like one ahead of them. -/
def cnt (g : Nat → Nat → Int) : Nat → Nat
  | 0 => 0
  | n + 1 => if fresh g n n then cnt g n + 1 else cnt g n
theorem cnt_le (g : Nat → Nat → Int) (n : Nat) : cnt g n ≤ n := by
  induction n with
  | zero => exact Nat.le_refl _
  | succ n ih => unfold cnt; split <;> omega

theorem mem_addKey (acc : List Lit) (x y : Lit) : y ∈ addKey acc x ↔ y ∈ acc ∨ y = x := by
  unfold addKey
  split
  · rename_i h
    rw [List.any_eq_true] at h
    obtain ⟨z, hz, hs⟩ := h
    have : z = x := WideAt.sameKey_eq hs
    subst this
    constructor
    · exact .inl
    · rintro (h | h)
      · exact h
      · rw [h]; exact hz
  · simp
theorem addKey_old (acc : List Lit) (x : Lit) (hx : WideAt.IsKeyLit x) (h : x ∈ acc) : addKey acc x = acc := by
  unfold addKey
  have hh : (acc.any fun y => y.sameKey x) = true := List.any_eq_true.2 ⟨x, h, WideAt.sameKey_self hx⟩
  rw [if_pos hh]
theorem addKey_new (acc : List Lit) (x : Lit) (h : x ∉ acc) : addKey acc x = acc ++ [x] := by
  unfold addKey
  rw [if_neg]
  intro hh
  obtain ⟨z, hz, hs⟩ := List.any_eq_true.1 hh
  have : z = x := WideAt.sameKey_eq hs
  subst this
  exact h hz
theorem fold_mem (kl : Nat → Lit) (n : Nat) (y : Lit) : y ∈ ((List.range n).map kl).foldl addKey [] ↔ ∃ j, j < n ∧ kl j = y := by
  induction n with
  | zero => simp
  | succ n ih =>
    rw [List.range_succ, List.map_append, List.foldl_append, List.map_cons, List.map_nil, List.foldl_cons, List.foldl_nil, mem_addKey, ih]
    constructor
    · rintro (⟨j, h1, h2⟩ | h)
      · exact ⟨j, by omega, h2⟩
      · exact ⟨n, by omega, h.symm⟩
    · rintro ⟨j, h1, h2⟩
      by_cases e : j = n
      · subst e; exact .inr h2.symm
      · exact .inl ⟨j, by omega, h2⟩
theorem fold_step (kl : Nat → Lit) (n : Nat) : ((List.range (n + 1)).map kl).foldl addKey [] = addKey (((List.range n).map kl).foldl addKey []) (kl n) := by
  rw [List.range_succ, List.map_append, List.foldl_append, List.map_cons, List.map_nil, List.foldl_cons, List.foldl_nil]

/-- The digests and then some of them again: as many unlike ones as there were. -/
theorem count_all (g : Nat → Nat → Int) (kl : Nat → Lit) (hkl : ∀ i, keyOf Tryd.prog 24 (.agg (arr (g i) 32)) = some (kl i)) (len : Nat) (again : ∀ i, len ≤ i → ∃ j, j < len ∧ ∀ b, b < 32 → g i b = g j b) :
    ∀ m, Maps.size (setOf (H := Unit) (.agg []) ((List.range (len + m)).map kl)) = cnt g len := by
  have hk : ∀ i, WideAt.IsKeyLit (kl i) := fun i => law24.key (hkl i)
  have heq : ∀ i j, kl i = kl j ↔ same 32 (g i) (g j) = true := fun i j => by
    rw [same_iff_all]
    constructor
    · intro h b hb
      have e := law24.inj (hkl i) (by rw [h]; exact hkl j)
      have e' : arr (g i) 32 = arr (g j) 32 := by simpa using e
      have h1 := arr_at (g i) 32 b hb
      rw [e', arr_at (g j) 32 b hb] at h1
      simpa using h1.symm
    · intro h
      have h1 := hkl i
      rw [arr_congr (g i) (g j) 32 h, hkl j] at h1
      exact (Option.some.inj h1).symm
  have base : ∀ n, (((List.range n).map kl).foldl addKey []).length = cnt g n := fun n => by
    induction n with
    | zero => rfl
    | succ n ih =>
      rw [fold_step]
      by_cases h : kl n ∈ ((List.range n).map kl).foldl addKey []
      · rw [addKey_old _ _ (hk n) h, ih]
        obtain ⟨j, hj, e⟩ := (fold_mem kl n _).1 h
        have hs := (heq j n).1 e
        have : fresh g n n = false := by
          rw [fresh, List.all_eq_false]
          exact ⟨j, by simpa using hj, by simp [hs]⟩
        simp [cnt, this]
      · rw [addKey_new _ _ h, List.length_append, ih]
        have : fresh g n n = true := by
          rw [fresh, List.all_eq_true]
          intro j hj
          have hj' : j < n := by simpa using hj
          cases hs : same 32 (g j) (g n)
          · rfl
          · exact absurd ((fold_mem kl n _).2 ⟨j, hj', (heq j n).2 hs⟩) h
        simp [cnt, this]
  intro m
  rw [size_setOf _ _ (fun x hx => by
    obtain ⟨i, _, rfl⟩ := List.mem_map.1 hx
    exact hk i)]
  induction m with
  | zero => exact base len
  | succ m ih =>
    rw [← Nat.add_assoc, fold_step, addKey_old _ _ (hk _), ih]
    obtain ⟨j, hj, hb⟩ := again (len + m) (by omega)
    exact (fold_mem kl _ _).2 ⟨j, by omega, (heq j (len + m)).2 ((same_iff_all _ _ _).2 fun b h => (hb b h).symm)⟩
end Go.Proofs.YtihemceilmcekaaDoor
