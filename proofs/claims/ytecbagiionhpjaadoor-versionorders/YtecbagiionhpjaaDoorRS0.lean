/- My own work: the document's Sort: insertion, the mathematics, and rows of texts of one's own. -/
import Derived.Test.YtecbagiionhpjaaDoorVL0
import Derived.Test.YtecbagiionhpjaaDoorR5
import Derived.Test.YtecbagiionhpjaaDoorPermA
namespace Go.Proofs.YtecbagiionhpjaaDoor
open Go.RowKit

/-- A version put in at a place. -/
def insV (us : List Ver) (k : Nat) (v : Ver) : List Ver := us.take k ++ v :: us.drop k
theorem insV_len (us : List Ver) (k : Nat) (v : Ver) (h : k ≤ us.length) : (insV us k v).length = us.length + 1 := by
  unfold insV
  rw [List.length_append, List.length_cons, List.length_take, List.length_drop]
  omega
theorem insV_perm {us P : List Ver} (k : Nat) (v : Ver) (h : us.Perm P) : (insV us k v).Perm (P ++ [v]) := by
  unfold insV
  refine List.perm_middle.trans ?_
  rw [List.take_append_drop]
  exact (h.cons v).trans (List.perm_append_singleton v P).symm
theorem insV_falls {us : List Ver} {k : Nat} {v : Ver} (hf : Falls us) (h1 : ∀ j (hj : j < us.length), j < k → 0 ≤ cmpV us[j] v) (h2 : ∀ hk : k < us.length, cmpV us[k] v < 0) : Falls (insV us k v) := by
  unfold insV Falls
  rw [List.pairwise_append]
  have hs : (us.take k ++ us.drop k).Pairwise fun a b => 0 ≤ cmpV a b := by rw [List.take_append_drop]; exact hf
  obtain ⟨p1, p2, p3⟩ := List.pairwise_append.1 hs
  refine ⟨p1, List.Pairwise.cons (fun b hb => ?_) p2, fun a ha b hb => ?_⟩
  · obtain ⟨j, hj, rfl⟩ := List.mem_iff_getElem.1 hb
    rw [List.getElem_drop]
    have hk : k < us.length := by rw [List.length_drop] at hj; omega
    have a2 := h2 hk
    have e : ∀ i (hi : i < us.length), k ≤ i → cmpV us[i] us[k] ≤ 0 := fun i hi hki => by
      by_cases he : i = k
      · subst he
        rw [(cmpV_zero _ _).2 rfl]
        exact Int.le_refl 0
      · have := List.pairwise_iff_getElem.1 hf k i hk hi (by omega)
        have := preV.anti us[k] us[i]
        omega
    have a3 := e (k + j) (by rw [List.length_drop] at hj; omega) (by omega)
    have a4 := preV.tr (us[k + j]'(by rw [List.length_drop] at hj; omega)) us[k] v a3 (by omega)
    have a5 := preV.anti (us[k + j]'(by rw [List.length_drop] at hj; omega)) v
    omega
  · rcases List.mem_cons.1 hb with rfl | hb
    · obtain ⟨j, hj, rfl⟩ := List.mem_iff_getElem.1 ha
      rw [List.getElem_take]
      rw [List.length_take] at hj
      exact h1 j (by omega) (by omega)
    · exact p3 a ha b hb
abbrev txV (us : List Ver) : List Value := us.map fun v => Value.string (tx (textV v))
theorem own_take {w : World} {B n k c : Nat} {a : Option Addr} {xs : List Value} (h : w.ownsRow B 9 1 (.slice a n c) n xs) (hk : k ≤ n) : w.ownsRow B 9 1 (.slice a k c) k (xs.take k) := by
  obtain ⟨hl, ⟨h1, h0⟩ | ⟨g, cap, cur, h1, hb, hrow, hnc, hcm, hsz, htk⟩⟩ := h
  · simp only [Value.slice.injEq] at h1
    obtain ⟨rfl, _, rfl⟩ := h1
    obtain rfl : k = 0 := by omega
    exact ⟨by simp, Or.inl ⟨rfl, rfl⟩⟩
  · simp only [Value.slice.injEq] at h1
    obtain ⟨rfl, _, rfl⟩ := h1
    refine ⟨by rw [List.length_take, hl]; omega, Or.inr ⟨g, c, cur, rfl, hb, hrow, by omega, hcm, hsz, ?_⟩⟩
    rw [← htk, List.take_take, Nat.mul_one, Nat.mul_one, Nat.min_eq_left hk]
/-- What holds ahead of each round. -/
structure RsW (w wr : World) (L : List ByteArray) (i : Nat) (us : List Ver) (ov rv : Value) : Prop where
  perm : us.Perm (versOf (L.take i))
  falls : Falls us
  out : wr.ownsRow w.heap.size 9 1 ov us.length (txV us)
  rest : wr.ownsRow w.heap.size 9 1 rv (restOf (L.take i)).length ((restOf (L.take i)).map Value.string)
  sep : ∀ k, ov.ownBlock = some k → rv.ownBlock ≠ some k
  old : Below w.heap.size w wr
theorem own_belowS {w w' : World} {B n : Nat} {v : Value} {xs : List Value} (h : w.ownsRow B 9 1 v n xs) (hb : Below w.heap.size w w') : w'.ownsRow B 9 1 v n xs := by
  obtain ⟨h0, h1 | ⟨g, cap, cur, rfl, hB, hrow, r⟩⟩ := h
  · exact ⟨h0, Or.inl h1⟩
  · exact ⟨h0, Or.inr ⟨g, cap, cur, rfl, hB, (hb.block g (Array.getElem?_eq_some_iff.1 hrow).1).trans hrow, r⟩⟩
theorem RsW.next {w wr w' : World} {L : List ByteArray} {i : Nat} {us : List Ver} {ov rv : Value} (h : RsW w wr L i us ov rv) (hb : Below wr.heap.size wr w') : RsW w w' L i us ov rv :=
  ⟨h.perm, h.falls, own_belowS h.out hb, own_belowS h.rest hb, h.sep, h.old.trans (hb.mono h.old.size)⟩
theorem own_lt {w : World} {B n : Nat} {v : Value} {xs : List Value} (h : w.ownsRow B 9 1 v n xs) : ∀ k, v.ownBlock = some k → B ≤ k ∧ k < w.heap.size := fun k hk => by
  obtain ⟨h0, ⟨rfl, _⟩ | ⟨g, cap, cur, rfl, hb, hrow, r⟩⟩ := h
  · cases hk
  · simp only [Value.ownBlock, Option.some.injEq] at hk
    subst hk
    exact ⟨hb, (Array.getElem?_eq_some_iff.1 hrow).1⟩
theorem own_keepG {w w' : World} {B n : Nat} {v : Value} {xs : List Value} {row : Option Nat} (h : w.ownsRow B 9 1 v n xs) (hg : w.grownBy w' row) (hs : ∀ k, v.ownBlock = some k → row ≠ some k) : w'.ownsRow B 9 1 v n xs := by
  obtain ⟨h0, h1 | ⟨g, cap, cur, rfl, hB, hrow, r⟩⟩ := h
  · exact ⟨h0, Or.inl h1⟩
  · exact ⟨h0, Or.inr ⟨g, cap, cur, rfl, hB, (hg.block g (Array.getElem?_eq_some_iff.1 hrow).1 (fun e => hs g rfl e.symm)).trans hrow, r⟩⟩
theorem wpList_ap_oneS {w w1 : World} {ops : Array Oper} {rest : List Oper} {o : Oper} {a : Act} {Q : Exit → Act → World → Prop} (hgd : o.guard = none) (dd : Option Tmp) (hdd : o.dst = dd) (s x : Operand) (ho : o.op = .call { callee := .builtin .append, args := #[s, x], argTypes := #[25, 25] }) (B : Nat) (v : Value) (n : Nat) (xs : List Value) (hs : a.eval s = v) (t : ByteArray) (hw : w1 = w.alloc (.cells #[.string t] 9)) (g : Nat) (hg : g = w.heap.size) (hown : w1.ownsRow B 9 1 v n xs) (hx : a.eval x = .slice (some ⟨g, 0, none⟩) 1 1) (hB : B ≤ w.heap.size) (hby : (n + 1) * 16 ≤ 140737488355328)
    (h : ∀ v' w', w'.ownsRow B 9 1 v' (n + 1) (xs ++ [.string t]) → w1.grownBy w' v.ownBlock → (v'.ownBlock = v.ownBlock ∨ v'.ownBlock = some w1.heap.size) → wpList Tryd.prog ops Q rest (a.put dd v') w') : wpList Tryd.prog ops Q (o :: rest) a w1 := by
  subst hw hg
  refine wpList_plain hgd fun K hK => wp_append_any dd hdd s x 25 9 (.string ⟨#[]⟩) 1 16 Tryd.underlying25 info9 rfl (by decide) ho B v n xs hs hown (some ⟨w.heap.size, 0, none⟩) w.heap.size 0 1 1 [.string t] rfl hx (fun _ => rfl) (fun j u hj => ?_) (fun u hu => by rw [List.mem_singleton.1 hu]; rfl) (fun h => nomatch h) (by unfold maxLen; omega) hby (by simp; omega) (fun v' w' h1 h2 h3 => hK _ _ (h v' w' h1 h2 h3))
  rw [Nat.zero_add, Row.cell (Row.new w #[.string t] 9) j]
  show ([Value.string t].toArray)[j]? = _
  rw [List.getElem?_toArray]
  exact hj
end Go.Proofs.YtecbagiionhpjaaDoor
