/- What BlockPlays' walk wants besides: a copy of bools; both disks where a row of another's changes. -/
import Derived.Test.YtpdcmhfmicemnaaPlaysKit
namespace Go.Proofs.Ytpdcmhfmicemnaa
open Go.RowKit

/-- n bools as cells. -/
def bls (f : Nat → Bool) (n : Nat) : List Value := (List.range n).map fun i => Value.bool (f i)
theorem bls_at (f : Nat → Bool) (n i : Nat) (h : i < n) : (bls f n)[i]? = some (.bool (f i)) := by simp [bls, h]
theorem bls_one (f : Nat → Bool) (n : Nat) : ∀ u ∈ bls f n, u.oneCell' = true := by
  intro u hu
  simp only [bls, List.mem_map] at hu
  obtain ⟨i, _, rfl⟩ := hu
  rfl
/-- 'append(v, xs...)', v the call's own, xs bools that lie in memory, nil or not. -/
theorem wpList_append_bools {w : World} {ops : Array Oper} {rest : List Oper} {o : Oper} {act : Act} {Q : Exit → Act → World → Prop} (hgd : o.guard = none) (s x : Operand)
    (ho : o.op = .call { callee := .builtin .append, args := #[s, x], argTypes := #[32, 32] }) (base : Nat) (v : Value) (n : Nat) (xs : List Value) (hs : act.eval s = v) (hown : w.ownsRow base 4 1 v n xs)
    (a : Option Addr) (b off len cap : Nat) (f : Nat → Bool) (hx : act.eval x = .slice a len cap) (hB : Bl w a b off len f) (hnone : a = none → len = 0 ∧ cap = 0) (hl : n + len ≤ 140737488351232) (hbase : base ≤ w.heap.size)
    (h : ∀ v' w', w'.ownsRow base 4 1 v' (n + len) (xs ++ bls f len) → w.grownBy w' v.ownBlock → (v ≠ .slice none 0 0 → v' ≠ .slice none 0 0) → wpList Try.prog ops Q rest (act.put o.dst v') w') : wpList Try.prog ops Q (o :: rest) act w := by
  obtain ⟨i0, hi, hz0, hz1, hz2⟩ := info_parts Try.info4
  cases a with
  | none =>
    obtain ⟨rfl, rfl⟩ := hnone rfl
    exact wpList_append_own_none hgd s x 32 ho base 4 i0 1 Try.underlying32 hi v n xs hs hown hx (h v w (by simpa [bls] using hown) ⟨rfl, rfl, rfl, Nat.le_refl _, fun _ _ _ => rfl⟩ id)
  | some ad =>
    refine wpList_append_own_wide w hgd s x 32 ho base 4 i0 (.bool false) 1 1 Try.underlying32 hi hz0 hz1 hz2 rfl (by decide) v n xs hs hown ad len cap (bls f len) hx (by simp [bls]) ?_ (bls_one _ _) (by unfold maxLen; omega) (by omega) hbase
      (fun v' w' h1 h2 h3 => h v' w' h1 h2 (fun h4 h5 => h4 (h3.1 h5).1))
    intro j u hj
    have hjl : j < len := by
      rcases Nat.lt_or_ge j len with h | h
      · exact h
      · rw [List.getElem?_eq_none (by simpa [bls] using h)] at hj; cases hj
    have e : ad = ⟨b, off, none⟩ := Option.some.inj (hB.at' (by omega))
    subst e
    have hp : (⟨b, off, none⟩ : Addr).add j = ⟨b, off + j, none⟩ := by unfold Addr.add; split <;> simp_all
    rw [hp, hB.cell j hjl]
    rw [bls_at _ _ _ hjl] at hj
    exact hj

theorem own_empty (w : World) (e : TypeId) : (w.alloc (.cells #[] e)).ownsRow w.heap.size e 1 (.slice (some ⟨w.heap.size, 0, none⟩) 0 0) 0 [] := by
  have h := World.ownsRow_lit (base := w.heap.size) (e := e) (size := 1) w #[] 0 (by simp) (by decide) rfl
  simpa using h
/-- Both disks stay where a row of bytes of another's changes. -/
theorem Two.apart {w w' : World} {base g g1 c1 g2 c2 : Nat} {ev : Value} {D : Dk} {gr : Nat} {fv lv : Value} {R : Rk} (h : Two w base g g1 c1 g2 c2 ev D gr fv lv R) (gi : Nat) (C : Array Value) (hr : Row w gi C 5) (h1 : g1 ≠ gi) (h2 : g2 ≠ gi) (hk : ∀ q, q ≠ gi → w'.heap[q]? = w.heap[q]?) : Two w' base g g1 c1 g2 c2 ev D gr fv lv R := by
  refine ⟨h.d.keep fun k hq => hk k ?_, h.r.keep fun k hq => hk k ?_⟩
  · rcases hq with rfl | rfl | rfl | hq
    · exact row_ne h.d.row hr (by decide)
    · exact h1
    · exact h2
    · obtain ⟨_, _, cur, r3⟩ := ownsRow_lt h.d.evs k hq
      exact row_ne r3 hr (by decide)
  · rcases hq with rfl | hq | hq
    · exact row_ne h.r.row hr (by decide)
    · obtain ⟨_, _, cur, r3⟩ := ownsRow_lt h.r.first k hq
      exact row_ne r3 hr (by decide)
    · obtain ⟨_, _, cur, r3⟩ := ownsRow_lt h.r.evs k hq
      exact row_ne r3 hr (by decide)
/-- Bytes, whatever they are. -/
def anyBytes (C : Array Value) (n : Nat) : Prop := n ≤ C.size ∧ ∀ j, j < n → ∃ z, C[j]? = some (.int .u8 z)
theorem anyBytes.set {C : Array Value} {n : Nat} (h : anyBytes C n) (k : Nat) (z : Int) : anyBytes (C.setIfInBounds k (.int .u8 z)) n := by
  refine ⟨by rw [Array.size_setIfInBounds]; exact h.1, fun j hj => ?_⟩
  have hs := h.1
  by_cases e : k = j
  · subst e
    exact ⟨z, by rw [Array.getElem?_setIfInBounds_self_of_lt (by omega)]⟩
  · obtain ⟨y, hy⟩ := h.2 j hj
    exact ⟨y, by rw [Array.getElem?_setIfInBounds_ne e]; exact hy⟩
theorem take_any (cur : Array Value) (f : Nat → Int) (n : Nat) (hs : n ≤ cur.size) (h : cur.toList.take n = byts f n) : anyBytes cur n ∧ ∀ i, i < n → cur[i]? = some (.int .u8 (f i)) := by
  have key : ∀ i, i < n → cur[i]? = some (.int .u8 (f i)) := fun i hi => by
    rw [← Array.getElem?_toList, ← byts_at f n i hi, ← h, List.getElem?_take_of_lt hi]
  exact ⟨⟨hs, fun j hj => ⟨_, key j hj⟩⟩, key⟩
theorem Twin.evOk {D : Dk} {R : Rk} (h : Twin D R) (ho : D.ok) (k : Nat) (hk : k ≤ D.E.length) : ∀ i, i < k → (R.ev i).n < 0 ∨ (0 ≤ (R.ev i).n ∧ (R.ev i).n < R.F.length) := fun i hi => by
  rw [h.ev i (by omega), h.len]
  rcases ok_cases (D.ev_ok ho i (by omega)) with ⟨h1, _⟩ | h1
  · exact .inl h1
  · exact .inr h1
end Go.Proofs.Ytpdcmhfmicemnaa
