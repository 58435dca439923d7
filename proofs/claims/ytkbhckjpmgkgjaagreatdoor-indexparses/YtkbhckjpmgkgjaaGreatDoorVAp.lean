/- My own work: append to a row of one's own, a text or a version (after stage 12's text). -/
import Derived.Test.YtkbhckjpmgkgjaaGreatDoorV9
import Derived.Deep.DeepAppendWide
import Derived.Laws.AppendOwnNone
import Derived.Maps.AppendAt
namespace Go.Proofs.YtkbhckjpmgkgjaaGreatDoor
open Go.RowKit

/-- 'append(v, xs...)', v a row of one's own, xs a slice in memory, nil or not: as an operation alone. -/
theorem wp_append_any {w : World} {o : Oper} {a : Act} {K : Act → World → Prop} {Q : Exit → Act → World → Prop} (dd : Option Tmp) (hdd : o.dst = dd) (s x : Operand) (t e : TypeId) (z : Value) (size bytes : Nat) (ht : Tryz.prog.underlying t = some (.slice e)) (hi : (Tryz.prog.info? e).map (fun i => (i.zero, i.size, i.bytes)) = some (some z, size, bytes)) (hzs : z.cells.size = size) (hsz : 0 < size)
    (ho : o.op = .call { callee := .builtin .append, args := #[s, x], argTypes := #[t, t] }) (base : Nat) (v : Value) (n : Nat) (xs : List Value) (hs : a.eval s = v) (hown : w.ownsRow base e size v n xs)
    (aa : Option Addr) (b off len cap : Nat) (news : List Value) (hl : news.length = len * size) (hx : a.eval x = .slice aa len cap) (hat : 0 < len → aa = some ⟨b, off, none⟩) (hcell : ∀ j u, news[j]? = some u → w.cell? ⟨b, off + j, none⟩ = some u) (hone : ∀ u ∈ news, u.oneCell' = true) (hnone : aa = none → len = 0 ∧ cap = 0) (hln : n + len ≤ maxLen) (hby : (n + len) * bytes ≤ 140737488355328) (hbase : base ≤ w.heap.size)
    (h : ∀ v' w', w'.ownsRow base e size v' (n + len) (xs ++ news) → w.grownBy w' v.ownBlock → (v'.ownBlock = v.ownBlock ∨ v'.ownBlock = some w.heap.size) → K (a.put dd v') w') : o.wp Tryz.prog a w K Q := by
  subst hdd
  obtain ⟨i0, hi0, hz0, hz1, hz2⟩ := info_parts hi
  cases aa with
  | none =>
    obtain ⟨rfl, rfl⟩ := hnone rfl
    have hnil : news = [] := List.eq_nil_of_length_eq_zero (by simpa using hl)
    subst hnil
    have hrun := run_append_owned_none (P := Tryz.prog) (w := w) base t o.type e i0 size ht hi0 v n xs hown
    unfold Oper.wp
    simp [execOp, ho, resolve, invoke, builtin, hs, hx, hrun, Result.andThen, Oper.upon]
    exact h v w (by simpa using hown) ⟨rfl, rfl, rfl, Nat.le_refl _, fun _ _ _ => rfl⟩ (.inl rfl)
  | some ad =>
    have hnews : ∀ j u, news[j]? = some u → w.cell? (ad.add j) = some u := fun j u hj => by
      have hjl : j < news.length := (List.getElem?_eq_some_iff.1 hj).1
      have hlen : 0 < len := by
        rcases Nat.eq_zero_or_pos len with h0 | h0
        · subst h0; omega
        · exact h0
      have e1 : ad = ⟨b, off, none⟩ := Option.some.inj (hat hlen)
      subst e1
      have hp : (⟨b, off, none⟩ : Addr).add j = ⟨b, off + j, none⟩ := by unfold Addr.add; split <;> simp_all
      rw [hp]
      exact hcell j u hj
    obtain ⟨v', w', hr, h2, h3, _, h5⟩ := run_append_own_at (P := Tryz.prog) w base t o.type e i0 z size bytes ht hi0 hz0 hz1 hz2 hzs hsz v n xs hown ad len cap news hl hnews hone hln hby hbase
    unfold Oper.wp execOp
    simp only [ho, resolve, invoke, builtin, Sem.run_bind, Sem.run_pure, Result.andThen_ok, List.map_toArray, List.map_cons, List.map_nil, hs, hx, hr]
    exact h v' w' h2 h3 h5
theorem info9 : (Tryz.prog.info? 9).map (fun i => (i.zero, i.size, i.bytes)) = some (some (.string ⟨#[]⟩), 1, 16) := by kernel_rfl
theorem ownsRow_row {w : World} {base n s : Nat} {e : TypeId} {v : Value} {xs : List Value} (h : w.ownsRow base e s v n xs) : ∀ k, v.ownBlock = some k → ∃ C, w.heap[k]? = some (.cells C e (0, 0)) := fun k hk => by
  obtain ⟨_, ⟨rfl, _⟩ | ⟨g, c, cur, rfl, h2, e3, _⟩⟩ := h
  · cases hk
  · simp [Value.ownBlock] at hk
    subst hk
    exact ⟨cur, e3⟩
/-- One text is appended to a row of one's own. -/
theorem ap_one {w : World} {o : Oper} {a : Act} {K : Act → World → Prop} {Q : Exit → Act → World → Prop} (dd : Option Tmp) (hdd : o.dst = dd) (s x : Operand) (ho : o.op = .call { callee := .builtin .append, args := #[s, x], argTypes := #[38, 38] }) (B : Nat) (v : Value) (n : Nat) (xs : List Value) (hs : a.eval s = v) (t : ByteArray) (hown : (w.alloc (.cells #[.string t] 9)).ownsRow B 9 1 v n xs) (hx : a.eval x = .slice (some ⟨w.heap.size, 0, none⟩) 1 1) (hB : B ≤ w.heap.size) (hby : (n + 1) * 16 ≤ 140737488355328)
    (h : ∀ v' w', w'.ownsRow B 9 1 v' (n + 1) (xs ++ [.string t]) → (w.alloc (.cells #[.string t] 9)).grownBy w' v.ownBlock → K (a.put dd v') w') : o.wp Tryz.prog a (w.alloc (.cells #[.string t] 9)) K Q := by
  refine wp_append_any dd hdd s x 38 9 (.string ⟨#[]⟩) 1 16 Tryz.underlying38 info9 rfl (by decide) ho B v n xs hs hown (some ⟨w.heap.size, 0, none⟩) w.heap.size 0 1 1 [.string t] rfl hx (fun _ => rfl) (fun j u hj => ?_) (fun u hu => ?_) (fun h => nomatch h) (by unfold maxLen; omega) hby (by simp; omega) (fun v' w' h1 h2 _ => h v' w' h1 h2)
  · cases j with
    | zero => simp at hj; subst hj; exact (Row.cell (Row.new w #[.string t] 9) 0).trans rfl
    | succ j => simp at hj
  · simp at hu; subst hu; rfl
theorem wpList_ap_one {w w1 : World} {ops : Array Oper} {rest : List Oper} {o : Oper} {a : Act} {Q : Exit → Act → World → Prop} (hgd : o.guard = none) (dd : Option Tmp) (hdd : o.dst = dd) (s x : Operand) (ho : o.op = .call { callee := .builtin .append, args := #[s, x], argTypes := #[38, 38] }) (B : Nat) (v : Value) (n : Nat) (xs : List Value) (hs : a.eval s = v) (t : ByteArray) (hw : w1 = w.alloc (.cells #[.string t] 9)) (g : Nat) (hg : g = w.heap.size) (hown : w1.ownsRow B 9 1 v n xs) (hx : a.eval x = .slice (some ⟨g, 0, none⟩) 1 1) (hB : B ≤ w.heap.size) (hby : (n + 1) * 16 ≤ 140737488355328)
    (h : ∀ v' w', w'.ownsRow B 9 1 v' (n + 1) (xs ++ [.string t]) → w1.grownBy w' v.ownBlock → wpList Tryz.prog ops Q rest (a.put dd v') w') : wpList Tryz.prog ops Q (o :: rest) a w1 := by
  subst hw hg
  exact wpList_plain hgd fun K hK => ap_one dd hdd s x ho B v n xs hs t hown hx hB hby fun v' w' h1 h2 => hK _ _ (h v' w' h1 h2)
end Go.Proofs.YtkbhckjpmgkgjaaGreatDoor
