/- Bytes that came in, and the walk of sector: an act's bytes, filled up. -/
import Derived.Test.YtdbnnljlbfjobaaGreatDoorByts
import Derived.Deep.DeepAppendWide
import Derived.Laws.AppendOwnNone
import Derived.Maps.AppendAt
namespace Go.Proofs.YtdbnnljlbfjobaaGreatDoor
open Go.RowKit

theorem Tryz.info5 : (Tryz.prog.info? 5).map (fun i => (i.zero, i.size, i.bytes)) = some (some (.int .u8 0), 1, 1) := by kernel_rfl

theorem byts_len (f : Nat → Int) (n : Nat) : (byts f n).length = n := by simp [byts]
theorem byts_succ (f : Nat → Int) (n : Nat) : byts f (n + 1) = byts f n ++ [.int .u8 (f n)] := by simp [byts, List.range_succ]
theorem byts_congr (f g : Nat → Int) (n : Nat) (h : ∀ i, i < n → f i = g i) : byts f n = byts g n := by
  unfold byts
  apply List.map_congr_left
  intro i hi
  rw [List.mem_range] at hi
  rw [h i hi]
/-- Bytes that lie in memory: their numbers by the place. -/
structure Bs (w : World) (a : Option Addr) (b off len : Nat) (f : Nat → Int) : Prop where
  at' : 0 < len → a = some ⟨b, off, none⟩
  cell : ∀ i, i < len → w.cell? ⟨b, off + i, none⟩ = some (.int .u8 (f i))
  bd : ∀ i, 0 ≤ f i ∧ f i < 256

theorem Bs.lt {w : World} {a : Option Addr} {b off len : Nat} {f : Nat → Int} (h : Bs w a b off len f) (hl : 0 < len) : b < w.heap.size := World.block_lt_of_cell? _ _ (h.cell 0 hl)
theorem Bs.keep {w wr : World} {a : Option Addr} {b off len : Nat} {f : Nat → Int} (h : Bs w a b off len f) (hb : 0 < len → wr.heap[b]? = w.heap[b]?) : Bs wr a b off len f :=
  ⟨h.at', fun i hi => (World.cell?_of_block (w := w) (hb (by omega))).trans (h.cell i hi), h.bd⟩
theorem Bs.below {w wr : World} {a : Option Addr} {b off len B : Nat} {f : Nat → Int} (h : Bs w a b off len f) (hb : Below B w wr) (hB : 0 < len → b < B) : Bs wr a b off len f :=
  h.keep fun hl => hb.block b (hB hl)
theorem Bs.belowAll {w wr : World} {a : Option Addr} {b off len : Nat} {f : Nat → Int} (h : Bs w a b off len f) (hb : Below w.heap.size w wr) : Bs wr a b off len f :=
  h.below hb h.lt

theorem ownsRow_below {w w' : World} {B n s : Nat} {e : TypeId} {v : Value} {xs : List Value} (h : w.ownsRow B e s v n xs) (hb : Below w.heap.size w w') : w'.ownsRow B e s v n xs :=
  ownsRow_keep h fun g _ hg => hb.block g hg
/-- 'append(v, xs...)', v the call's own, xs bytes that lie in memory, nil or not. -/
theorem wpList_append_bytes {w : World} {ops : Array Oper} {rest : List Oper} {o : Oper} {act : Act} {Q : Exit → Act → World → Prop} (hgd : o.guard = none) (s x : Operand)
    (ho : o.op = .call { callee := .builtin .append, args := #[s, x], argTypes := #[31, 31] }) (base : Nat) (v : Value) (n : Nat) (xs : List Value) (hs : act.eval s = v) (hown : w.ownsRow base 5 1 v n xs)
    (a : Option Addr) (b off len cap : Nat) (f : Nat → Int) (hx : act.eval x = .slice a len cap) (hB : Bs w a b off len f) (hnone : a = none → len = 0 ∧ cap = 0) (hl : n + len ≤ 140737488351232) (hbase : base ≤ w.heap.size)
    (h : ∀ v' w', w'.ownsRow base 5 1 v' (n + len) (xs ++ byts f len) → w.grownBy w' v.ownBlock → (v ≠ .slice none 0 0 → v' ≠ .slice none 0 0) → wpList Tryz.prog ops Q rest (act.put o.dst v') w') : wpList Tryz.prog ops Q (o :: rest) act w := by
  obtain ⟨i0, hi, hz0, hz1, hz2⟩ := info_parts Tryz.info5
  cases a with
  | none =>
    obtain ⟨rfl, rfl⟩ := hnone rfl
    exact wpList_append_own_none hgd s x 31 ho base 5 i0 1 Tryz.underlying31 hi v n xs hs hown hx (h v w (by simpa [byts] using hown) ⟨rfl, rfl, rfl, Nat.le_refl _, fun _ _ _ => rfl⟩ id)
  | some ad =>
    refine wpList_append_own_wide w hgd s x 31 ho base 5 i0 (.int .u8 0) 1 1 Tryz.underlying31 hi hz0 hz1 hz2 rfl (by decide) v n xs hs hown ad len cap (byts f len) hx (by simp [byts]) ?_ (byts_one _ _) (by unfold maxLen; omega) (by omega) hbase
      (fun v' w' h1 h2 h3 => h v' w' h1 h2 (fun h4 h5 => h4 (h3.1 h5).1))
    intro j u hj
    have hjl : j < len := by
      rcases Nat.lt_or_ge j len with h | h
      · exact h
      · rw [List.getElem?_eq_none (by simpa [byts] using h)] at hj; cases hj
    have e : ad = ⟨b, off, none⟩ := Option.some.inj (hB.at' (by omega))
    subst e
    have hp : (⟨b, off, none⟩ : Addr).add j = ⟨b, off + j, none⟩ := by unfold Addr.add; split <;> simp_all
    rw [hp, hB.cell j hjl]
    rw [byts_at _ _ _ hjl] at hj
    exact hj

/-- A sector's bytes: those of the act, and behind them the one that fills up. -/
def secOf (len : Nat) (f : Nat → Int) (fill : Int) (i : Nat) : Int := if i < len then f i else fill

/-- How long a slice is: for a loop's measure. -/
def lenOf : Value → Nat | .slice _ m _ => m | _ => 0

/-- An act as a value. -/
abbrev actV (kind n back : Int) (a : Option Addr) (len cap : Nat) (fill : Int) (ka : Option Addr) (klen kcap : Nat) : Array Value :=
  #[.int .i64 kind, .int .i64 n, .int .i64 back, .slice a len cap, .int .u8 fill, .slice ka klen kcap]

end Go.Proofs.YtdbnnljlbfjobaaGreatDoor
