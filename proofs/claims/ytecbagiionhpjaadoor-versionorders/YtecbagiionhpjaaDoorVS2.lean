/- My own work: Sort's first loop: versions and what is none, each in a row of its own. -/
import Derived.Test.YtecbagiionhpjaaDoorVS1
import Derived.Test.YtecbagiionhpjaaDoorVAp
import Derived.Test.YtecbagiionhpjaaDoorV11
namespace Go.Proofs.YtecbagiionhpjaaDoor
open Go.RowKit

theorem infoV : (Tryd.prog.info? 24).map (fun i => (i.zero, i.size, i.bytes)) = some (some (.agg zeroC), 6, 56) := by kernel_rfl
/-- Cells of versions, one behind another. -/
def flatV (L : List Ver) : List Value := (L.map encV).flatten
theorem flatV_len (L : List Ver) : (flatV L).length = L.length * 6 := by
  induction L with
  | nil => rfl
  | cons v L ih =>
    have h6 : (encV v).length = 6 := rfl
    show (encV v ++ flatV L).length = (L.length + 1) * 6
    rw [List.length_append, ih, h6]
    omega
theorem flatV_snoc (L : List Ver) (v : Ver) : flatV (L ++ [v]) = flatV L ++ encV v := by
  unfold flatV
  rw [List.map_append, List.flatten_append]
  simp
/-- One version is appended to a row of one's own. -/
theorem wpList_ap_ver {w w1 : World} {ops : Array Oper} {rest : List Oper} {o : Oper} {a : Act} {Q : Exit → Act → World → Prop} (hgd : o.guard = none) (dd : Option Tmp) (hdd : o.dst = dd) (s x : Operand) (ho : o.op = .call { callee := .builtin .append, args := #[s, x], argTypes := #[35, 35] }) (B : Nat) (v : Value) (n : Nat) (xs : List Value) (hs : a.eval s = v) (t : Ver) (hw : w1 = w.alloc (.cells (verC t) 24)) (g : Nat) (hg : g = w.heap.size) (hown : w1.ownsRow B 24 6 v n xs) (hx : a.eval x = .slice (some ⟨g, 0, none⟩) 1 1) (hB : B ≤ w.heap.size) (hby : (n + 1) * 56 ≤ 140737488355328)
    (h : ∀ v' w', w'.ownsRow B 24 6 v' (n + 1) (xs ++ encV t) → w1.grownBy w' v.ownBlock → wpList Tryd.prog ops Q rest (a.put dd v') w') : wpList Tryd.prog ops Q (o :: rest) a w1 := by
  subst hw hg
  refine wpList_plain hgd fun K hK => wp_append_any dd hdd s x 35 24 (.agg zeroC) 6 56 Tryd.underlying35 infoV rfl (by decide) ho B v n xs hs hown (some ⟨w.heap.size, 0, none⟩) w.heap.size 0 1 1 (encV t) rfl hx (fun _ => rfl) (fun j u hj => ?_) (fun u hu => ?_) (fun h => nomatch h) (by unfold maxLen; omega) hby (by simp; omega) (fun v' w' h1 h2 _ => hK _ _ (h v' w' h1 h2))
  · rw [Nat.zero_add, Row.cell (Row.new w (verC t) 24) j]
    show (encV t).toArray[j]? = _
    rw [List.getElem?_toArray]
    exact hj
  · simp only [encV, List.mem_cons, List.not_mem_nil, or_false] at hu
    rcases hu with rfl | rfl | rfl | rfl | rfl | rfl <;> rfl
/-- Texts that lie somewhere below. -/
structure TxAt (w : World) (a : Option Addr) (L : List ByteArray) (c : Nat) : Prop where
  ex : ∃ b off, (0 < L.length → a = some ⟨b, off, none⟩) ∧ ∀ i (h : i < L.length), w.cell? ⟨b, off + i, none⟩ = some (.string L[i])
  le : L.length ≤ c
  each : ∀ x ∈ L, x.size ≤ 140737488355328
/-- Which are versions' texts, and which are not. -/
def versOf (L : List ByteArray) : List Ver := L.filterMap fun s => parseV (vb s)
def restOf (L : List ByteArray) : List ByteArray := L.filter fun s => (parseV (vb s)).isNone
theorem versOf_snoc (L : List ByteArray) (s : ByteArray) {v : Ver} (h : parseV (vb s) = some v) : versOf (L ++ [s]) = versOf L ++ [v] ∧ restOf (L ++ [s]) = restOf L := by
  unfold versOf restOf
  rw [List.filterMap_append, List.filter_append]
  simp [h]
theorem restOf_snoc (L : List ByteArray) (s : ByteArray) (h : parseV (vb s) = none) : versOf (L ++ [s]) = versOf L ∧ restOf (L ++ [s]) = restOf L ++ [s] := by
  unfold versOf restOf
  rw [List.filterMap_append, List.filter_append]
  simp [h]
theorem versOf_len (L : List ByteArray) : (versOf L).length + (restOf L).length = L.length := by
  unfold versOf restOf
  induction L with
  | nil => rfl
  | cons s L ih =>
    cases h : parseV (vb s) with
    | none => simp only [List.filterMap_cons, h, List.filter_cons, Option.isNone_none, if_true, List.length_cons]; omega
    | some v => simp only [List.filterMap_cons, h, List.filter_cons, Option.isNone_some, List.length_cons]; simp; omega
/-- What holds behind k texts. -/
structure SoR (w wr : World) (L : List ByteArray) (k : Nat) (vv ov : Value) : Prop where
  vers : wr.ownsRow w.heap.size 24 6 vv (versOf (L.take k)).length (flatV (versOf (L.take k)))
  rest : wr.ownsRow w.heap.size 9 1 ov (restOf (L.take k)).length ((restOf (L.take k)).map Value.string)
  bel : Below w.heap.size w wr
  tab : Pw wr
  glob : 1 < w.heap.size
theorem SoR.next {w wr w' : World} {L : List ByteArray} {k : Nat} {vv ov : Value} (h : SoR w wr L k vv ov) (hb : Below wr.heap.size wr w') : SoR w w' L k vv ov :=
  ⟨own_below h.vers hb, own_below h.rest hb, h.bel.trans (hb.mono h.bel.size), h.tab.keep hb h.tab.lt, h.glob⟩
theorem own_apart {w : World} {B n m : Nat} {v v' : Value} {xs ys : List Value} (h : w.ownsRow B 24 6 v n xs) (h' : w.ownsRow B 9 1 v' m ys) : v.ownBlock = none ∨ v.ownBlock ≠ v'.ownBlock := by
  cases e : v.ownBlock with
  | none => exact Or.inl rfl
  | some k =>
    refine Or.inr fun e' => ?_
    obtain ⟨C, hC⟩ := ownsRow_row h k e
    obtain ⟨D, hD⟩ := ownsRow_row h' k e'.symm
    rw [hC] at hD
    simp at hD
theorem below_own {w w' : World} {B : Nat} {row : Option Nat} (hg : w.grownBy w' row) (hB : B ≤ w.heap.size) (hr : ∀ k, row = some k → B ≤ k) : Below B w w' :=
  ⟨hg.os, hg.tape, hg.output, hg.size, fun k hk => hg.block k (by omega) fun e => by have := hr k e.symm; omega⟩
theorem SoR.ver {w w1 w' : World} {L : List ByteArray} {k : Nat} {vv ov vv' : Value} {v : Ver} (h : SoR w w1 L k vv ov) (hk : k < L.length) (hp : parseV (vb L[k]) = some v) (ho : w'.ownsRow w.heap.size 24 6 vv' ((versOf (L.take k)).length + 1) (flatV (versOf (L.take k)) ++ encV v)) (hg : w1.grownBy w' vv.ownBlock) : SoR w w' L (k + 1) vv' ov := by
  have e : L.take (k + 1) = L.take k ++ [L[k]] := by rw [List.take_add_one, List.getElem?_eq_getElem hk]; rfl
  obtain ⟨e1, e2⟩ := versOf_snoc (L.take k) L[k] hp
  have hb : Below w.heap.size w1 w' := below_own hg h.bel.size (fun j hj => (h.vers.lt j hj).1)
  refine ⟨?_, ?_, h.bel.trans hb, h.tab.keep hb h.glob, h.glob⟩
  · rw [e, e1, flatV_snoc, List.length_append]
    exact ho
  · rw [e, e2]
    exact h.rest.kept hg (by
      rcases own_apart h.vers h.rest with h1 | h1
      · cases e3 : ov.ownBlock with
        | none => exact Or.inl rfl
        | some j => exact Or.inr (by rw [h1]; simp)
      · exact Or.inr (Ne.symm h1))
theorem SoR.none {w w1 w' : World} {L : List ByteArray} {k : Nat} {vv ov ov' : Value} (h : SoR w w1 L k vv ov) (hk : k < L.length) (hp : parseV (vb L[k]) = none) (ho : w'.ownsRow w.heap.size 9 1 ov' ((restOf (L.take k)).length + 1) ((restOf (L.take k)).map Value.string ++ [.string L[k]])) (hg : w1.grownBy w' ov.ownBlock) : SoR w w' L (k + 1) vv ov' := by
  have e : L.take (k + 1) = L.take k ++ [L[k]] := by rw [List.take_add_one, List.getElem?_eq_getElem hk]; rfl
  obtain ⟨e1, e2⟩ := restOf_snoc (L.take k) L[k] hp
  have hb : Below w.heap.size w1 w' := below_own hg h.bel.size (fun j hj => (h.rest.lt j hj).1)
  refine ⟨?_, ?_, h.bel.trans hb, h.tab.keep hb h.glob, h.glob⟩
  · rw [e, e1]
    exact h.vers.kept hg (own_apart h.vers h.rest)
  · rw [e, e2, List.map_append, List.length_append]
    exact ho
end Go.Proofs.YtecbagiionhpjaaDoor
