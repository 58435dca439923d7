/- Nodes and the blocks that they lie in; own rows of bytes, texts and nodes. -/
import Derived.Test.YthidlckipiamkaaDoorRefRight
import Derived.Test.YthidlckipiamkaaDoorLate
import Derived.Test.YthidlckipiamkaaDoorByts
namespace Go.Proofs.YthidlckipiamkaaDoor
open Go.RowKit

/-- A node as five cells, all that it has in blocks of F. -/
inductive NodeOn (w : World) (F : Nat → Prop) : Nd → Array Value → Prop
  | mk {k : Int} {e : Bool} {d : ByteArray} {ns : List ByteArray} {ks : List Nd} {da : Option Addr} {db doff dc : Nat} {na : Option Addr} {nb noff nc : Nat} {ka : Option Addr} {kb koff kc : Nat} {Cs : Nat → Array Value}
      (hk : -9223372036854775808 ≤ k ∧ k ≤ 9223372036854775807)
      (hd : (0 < d.size → da = some ⟨db, doff, none⟩) ∧ (∀ i, i < d.size → w.cell? ⟨db, doff + i, none⟩ = some (.int .u8 (bf d i))) ∧ (da = none → d.size = 0 ∧ dc = 0) ∧ d.size ≤ dc ∧ dc ≤ maxLen ∧ d.size ≤ big ∧ (0 < d.size → F db))
      (hn : (0 < ns.length → na = some ⟨nb, noff, none⟩) ∧ (∀ i (h : i < ns.length), w.cell? ⟨nb, noff + i, none⟩ = some (.string ns[i])) ∧ (na = none → ns.length = 0 ∧ nc = 0) ∧ ns.length ≤ nc ∧ nc ≤ maxLen ∧ ns.length * 16 ≤ big ∧ (∀ s ∈ ns, s.size ≤ big) ∧ (0 < ns.length → F nb))
      (hks : KidsAt w ka kb koff ks.length kc Cs) (hkf : 0 < ks.length → F kb) (each : ∀ i (h : i < ks.length), NodeOn w F ks[i] (Cs i)) :
      NodeOn w F (.mk k e d ns ks) (nodeV k e da d.size dc na ns.length nc ka ks.length kc)
section
variable {w w' : World} {F G : Nat → Prop} {n : Nd} {C : Array Value}
theorem NodeOn.at' (h : NodeOn w F n C) : NodeAt w n C := by
  induction h with
  | mk hk hd hn hks _ _ ih => exact .mk hk ⟨⟨_, _, hd.1, hd.2.1⟩, hd.2.2.1, hd.2.2.2.1, hd.2.2.2.2.1, hd.2.2.2.2.2.1⟩ ⟨⟨_, _, hn.1, hn.2.1⟩, hn.2.2.1, hn.2.2.2.1, hn.2.2.2.2.1, hn.2.2.2.2.2.1, hn.2.2.2.2.2.2.1⟩ hks ih
theorem NodeOn.keep (h : NodeOn w F n C) (hb : ∀ b, F b → w'.heap[b]? = w.heap[b]?) : NodeOn w' F n C := by
  induction h with
  | mk hk hd hn hks hkf _ ih =>
    exact .mk hk ⟨hd.1, fun i hi => (World.cell?_of_block (w := w) (hb _ (hd.2.2.2.2.2.2 (by omega)))).trans (hd.2.1 i hi), hd.2.2⟩ ⟨hn.1, fun i hi => (World.cell?_of_block (w := w) (hb _ (hn.2.2.2.2.2.2.2 (by omega)))).trans (hn.2.1 i hi), hn.2.2⟩
      ⟨hks.at', fun i hi j hj => (World.cell?_of_block (w := w) (hb _ (hkf (by omega)))).trans (hks.cell i hi j hj), hks.size, hks.nil, hks.le, hks.cap⟩ hkf ih
theorem NodeOn.mono (h : NodeOn w F n C) (hFG : ∀ b, F b → G b) : NodeOn w G n C := by
  induction h with
  | mk hk hd hn hks hkf _ ih => exact .mk hk ⟨hd.1, hd.2.1, hd.2.2.1, hd.2.2.2.1, hd.2.2.2.2.1, hd.2.2.2.2.2.1, fun h => hFG _ (hd.2.2.2.2.2.2 h)⟩ ⟨hn.1, hn.2.1, hn.2.2.1, hn.2.2.2.1, hn.2.2.2.2.1, hn.2.2.2.2.2.1, hn.2.2.2.2.2.2.1, fun h => hFG _ (hn.2.2.2.2.2.2.2 h)⟩ hks (fun h => hFG _ (hkf h)) ih
end

theorem Try.info5 : (Tryd.prog.info? 5).map (fun i => (i.zero, i.size, i.bytes)) = some (some (.int .u8 0), 1, 1) := by kernel_rfl
theorem Try.info9 : (Tryd.prog.info? 9).map (fun i => (i.zero, i.size, i.bytes)) = some (some (.string ⟨#[]⟩), 1, 16) := by kernel_rfl
theorem own_empty (w : World) (e : TypeId) (s : Nat) (base : Nat) (hb : base ≤ w.heap.size) : (w.alloc (.cells #[] e)).ownsRow base e s (.slice (some ⟨w.heap.size, 0, none⟩) 0 0) 0 [] := by
  have h := World.ownsRow_lit (base := base) (e := e) (size := s) w #[] 0 (by simpa using hb) (by decide) (by simp)
  simpa using h
theorem row_ne {w : World} {k k' : Nat} {C C' : Array Value} {t t' : TypeId} (h : Row w k C t) (h' : Row w k' C' t') (ht : t ≠ t') : k ≠ k' := fun e => by
  subst e
  have := h.symm.trans h'
  simp at this
  exact ht this.2
/-- A row of one's own stays where one of another element's type grows. -/
theorem ownsRow_grown {w w' : World} {B B' n s n' s' : Nat} {e e' : TypeId} {v v' : Value} {xs xs' : List Value} (h : w.ownsRow B e s v n xs) (h' : w.ownsRow B' e' s' v' n' xs') (hg : w.grownBy w' v'.ownBlock) (hne : e ≠ e') : w'.ownsRow B e s v n xs :=
  ownsRow_keep h fun k hk hlt => hg.block k hlt (fun e1 => by
    obtain ⟨_, _, c1, r1⟩ := ownsRow_lt h k hk
    obtain ⟨_, _, c2, r2⟩ := ownsRow_lt h' k e1.symm
    exact row_ne r1 r2 hne rfl)
/-- 'append(v, xs...)', v a row of one's own, xs a slice in memory, nil or not: as an operation alone. -/
theorem wp_append_any {w : World} {o : Oper} {a : Act} {K : Act → World → Prop} {Q : Exit → Act → World → Prop} (dd : Option Tmp) (hdd : o.dst = dd) (s x : Operand) (t e : TypeId) (z : Value) (size bytes : Nat) (ht : Tryd.prog.underlying t = some (.slice e)) (hi : (Tryd.prog.info? e).map (fun i => (i.zero, i.size, i.bytes)) = some (some z, size, bytes)) (hzs : z.cells.size = size) (hsz : 0 < size)
    (ho : o.op = .call { callee := .builtin .append, args := #[s, x], argTypes := #[t, t] }) (base : Nat) (v : Value) (n : Nat) (xs : List Value) (hs : a.eval s = v) (hown : w.ownsRow base e size v n xs)
    (aa : Option Addr) (b off len cap : Nat) (news : List Value) (hl : news.length = len * size) (hx : a.eval x = .slice aa len cap) (hat : 0 < len → aa = some ⟨b, off, none⟩) (hcell : ∀ j u, news[j]? = some u → w.cell? ⟨b, off + j, none⟩ = some u) (hone : ∀ u ∈ news, u.oneCell' = true) (hnone : aa = none → len = 0 ∧ cap = 0) (hln : n + len ≤ maxLen) (hby : (n + len) * bytes ≤ 140737488355328) (hbase : base ≤ w.heap.size)
    (h : ∀ v' w', w'.ownsRow base e size v' (n + len) (xs ++ news) → w.grownBy w' v.ownBlock → (v'.ownBlock = v.ownBlock ∨ v'.ownBlock = some w.heap.size) → K (a.put dd v') w') : o.wp Tryd.prog a w K Q := by
  subst hdd
  obtain ⟨i0, hi0, hz0, hz1, hz2⟩ := info_parts hi
  cases aa with
  | none =>
    obtain ⟨rfl, rfl⟩ := hnone rfl
    have hnil : news = [] := List.eq_nil_of_length_eq_zero (by simpa using hl)
    subst hnil
    have hrun := run_append_owned_none (P := Tryd.prog) (w := w) base t o.type e i0 size ht hi0 v n xs hown
    unfold Oper.wp
    simp [execOp, ho, resolve, invoke, builtin, hs, hx, hrun, Result.andThen, Oper.upon]
    exact h v w (by simpa using hown) ⟨rfl, rfl, rfl, Nat.le_refl _, fun _ _ _ => rfl⟩ (.inl rfl)
  | some ad =>
    have hnews : ∀ j u, news[j]? = some u → w.cell? (ad.add j) = some u := fun j u hj => by
      have hjl : j < news.length := (List.getElem?_eq_some_iff.1 hj).1
      have hlen : 0 < len := by
        rcases Nat.eq_zero_or_pos len with h0 | h0
        · subst h0; omega
        · exact h0
      have e1 : ad = ⟨b, off, none⟩ := Option.some.inj (hat hlen)
      subst e1
      have hp : (⟨b, off, none⟩ : Addr).add j = ⟨b, off + j, none⟩ := by unfold Addr.add; split <;> simp_all
      rw [hp]
      exact hcell j u hj
    obtain ⟨v', w', hr, h2, h3, _, h5⟩ := run_append_own_at (P := Tryd.prog) w base t o.type e i0 z size bytes ht hi0 hz0 hz1 hz2 hzs hsz v n xs hown ad len cap news hl hnews hone hln hby hbase
    unfold Oper.wp execOp
    simp only [ho, resolve, invoke, builtin, Sem.run_bind, Sem.run_pure, Result.andThen_ok, List.map_toArray, List.map_cons, List.map_nil, hs, hx, hr]
    exact h v' w' h2 h3 h5
end Go.Proofs.YthidlckipiamkaaDoor
