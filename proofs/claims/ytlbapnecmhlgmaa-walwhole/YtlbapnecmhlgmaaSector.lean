/- Bytes that came in, and the walk of sector: an act's bytes, filled up. -/
import Derived.Test.YtlbapnecmhlgmaaBase
import Derived.Deep.DeepAppendWide
import Derived.Laws.AppendOwnNone
import Derived.Maps.AppendAt
namespace Go.Proofs.Ytlbapnecmhlgmaa
open Go.RowKit

theorem Try.info5 : (Try.prog.info? 5).map (fun i => (i.zero, i.size, i.bytes)) = some (some (.int .u8 0), 1, 1) := by kernel_rfl

/-- n bytes as cells. -/
def byts (f : Nat → Int) (n : Nat) : List Value := (List.range n).map fun i => Value.int .u8 (f i)
theorem byts_len (f : Nat → Int) (n : Nat) : (byts f n).length = n := by simp [byts]
theorem byts_at (f : Nat → Int) (n i : Nat) (h : i < n) : (byts f n)[i]? = some (.int .u8 (f i)) := by simp [byts, h]
theorem byts_succ (f : Nat → Int) (n : Nat) : byts f (n + 1) = byts f n ++ [.int .u8 (f n)] := by simp [byts, List.range_succ]
theorem byts_congr (f g : Nat → Int) (n : Nat) (h : ∀ i, i < n → f i = g i) : byts f n = byts g n := by
  unfold byts
  apply List.map_congr_left
  intro i hi
  rw [List.mem_range] at hi
  rw [h i hi]
theorem byts_one (f : Nat → Int) (n : Nat) : ∀ u ∈ byts f n, u.oneCell' = true := by
  intro u hu
  simp only [byts, List.mem_map] at hu
  obtain ⟨i, _, rfl⟩ := hu
  rfl

/-- Bytes that lie in memory: their numbers by the place. -/
structure Bs (w : World) (a : Option Addr) (b off len : Nat) (f : Nat → Int) : Prop where
  at' : 0 < len → a = some ⟨b, off, none⟩
  cell : ∀ i, i < len → w.cell? ⟨b, off + i, none⟩ = some (.int .u8 (f i))
  bd : ∀ i, 0 ≤ f i ∧ f i < 256

theorem Bs.lt {w : World} {a : Option Addr} {b off len : Nat} {f : Nat → Int} (h : Bs w a b off len f) (hl : 0 < len) : b < w.heap.size := World.block_lt_of_cell? _ _ (h.cell 0 hl)
theorem Bs.keep {w wr : World} {a : Option Addr} {b off len : Nat} {f : Nat → Int} (h : Bs w a b off len f) (hb : 0 < len → wr.heap[b]? = w.heap[b]?) : Bs wr a b off len f :=
  ⟨h.at', fun i hi => (World.cell?_of_block (w := w) (hb (by omega))).trans (h.cell i hi), h.bd⟩
theorem Bs.below {w wr : World} {a : Option Addr} {b off len B : Nat} {f : Nat → Int} (h : Bs w a b off len f) (hb : Below B w wr) (hB : 0 < len → b < B) : Bs wr a b off len f :=
  h.keep fun hl => hb.block b (hB hl)
theorem Bs.belowAll {w wr : World} {a : Option Addr} {b off len : Nat} {f : Nat → Int} (h : Bs w a b off len f) (hb : Below w.heap.size w wr) : Bs wr a b off len f :=
  h.below hb h.lt

theorem ownsRow_keep {w w' : World} {B n s : Nat} {e : TypeId} {v : Value} {xs : List Value} (h : w.ownsRow B e s v n xs) (hb : ∀ g, v.ownBlock = some g → g < w.heap.size → w'.heap[g]? = w.heap[g]?) : w'.ownsRow B e s v n xs := by
  obtain ⟨h1, h2 | ⟨g, cap, cur, e1, e2, e3, e4⟩⟩ := h
  · exact ⟨h1, .inl h2⟩
  · refine ⟨h1, .inr ⟨g, cap, cur, e1, e2, ?_, e4⟩⟩
    obtain ⟨hlt, _⟩ := Array.getElem?_eq_some_iff.1 e3
    exact (hb g (by rw [e1]; rfl) hlt).trans e3
theorem ownsRow_below {w w' : World} {B n s : Nat} {e : TypeId} {v : Value} {xs : List Value} (h : w.ownsRow B e s v n xs) (hb : Below w.heap.size w w') : w'.ownsRow B e s v n xs :=
  ownsRow_keep h fun g _ hg => hb.block g hg
theorem own_grown {B : Nat} {w wr w1 : World} {e : TypeId} {s : Nat} {v : Value} {n : Nat} {xs : List Value} (hown : wr.ownsRow B e s v n xs) (hb : Below B w wr) (hB : B ≤ wr.heap.size) (hgrow : wr.grownBy w1 v.ownBlock) : Below B w w1 := by
  refine hb.grown hgrow hB (fun r hr => ?_)
  obtain ⟨_, ⟨rfl, _⟩ | ⟨g', cap, cur, rfl, hle, _⟩⟩ := hown
  · cases hr
  · simp [Value.ownBlock] at hr; omega

/-- 'append(v, xs...)', v the call's own, xs bytes that lie in memory, nil or not. -/
theorem wpList_append_bytes {w : World} {ops : Array Oper} {rest : List Oper} {o : Oper} {act : Act} {Q : Exit → Act → World → Prop} (hgd : o.guard = none) (s x : Operand)
    (ho : o.op = .call { callee := .builtin .append, args := #[s, x], argTypes := #[40, 40] }) (base : Nat) (v : Value) (n : Nat) (xs : List Value) (hs : act.eval s = v) (hown : w.ownsRow base 5 1 v n xs)
    (a : Option Addr) (b off len cap : Nat) (f : Nat → Int) (hx : act.eval x = .slice a len cap) (hB : Bs w a b off len f) (hnone : a = none → len = 0 ∧ cap = 0) (hl : n + len ≤ 140737488351232) (hbase : base ≤ w.heap.size)
    (h : ∀ v' w', w'.ownsRow base 5 1 v' (n + len) (xs ++ byts f len) → w.grownBy w' v.ownBlock → (v ≠ .slice none 0 0 → v' ≠ .slice none 0 0) → wpList Try.prog ops Q rest (act.put o.dst v') w') : wpList Try.prog ops Q (o :: rest) act w := by
  obtain ⟨i0, hi, hz0, hz1, hz2⟩ := info_parts Try.info5
  cases a with
  | none =>
    obtain ⟨rfl, rfl⟩ := hnone rfl
    exact wpList_append_own_none hgd s x 40 ho base 5 i0 1 Try.underlying40 hi v n xs hs hown hx (h v w (by simpa [byts] using hown) ⟨rfl, rfl, rfl, Nat.le_refl _, fun _ _ _ => rfl⟩ id)
  | some ad =>
    refine wpList_append_own_wide w hgd s x 40 ho base 5 i0 (.int .u8 0) 1 1 Try.underlying40 hi hz0 hz1 hz2 rfl (by decide) v n xs hs hown ad len cap (byts f len) hx (by simp [byts]) ?_ (byts_one _ _) (by unfold maxLen; omega) (by omega) hbase
      (fun v' w' h1 h2 h3 => h v' w' h1 h2 (fun h4 h5 => h4 (h3.1 h5).1))
    intro j u hj
    have hjl : j < len := by
      rcases Nat.lt_or_ge j len with h | h
      · exact h
      · rw [List.getElem?_eq_none (by simpa [byts] using h)] at hj; cases hj
    have e : ad = ⟨b, off, none⟩ := Option.some.inj (hB.at' (by omega))
    subst e
    have hp : (⟨b, off, none⟩ : Addr).add j = ⟨b, off + j, none⟩ := by unfold Addr.add; split <;> simp_all
    rw [hp, hB.cell j hjl]
    rw [byts_at _ _ _ hjl] at hj
    exact hj

/-- A sector's bytes: those of the act, and behind them the one that fills up. -/
def secOf (len : Nat) (f : Nat → Int) (fill : Int) (i : Nat) : Int := if i < len then f i else fill

/-- How long a slice is: for a loop's measure. -/
def lenOf : Value → Nat | .slice _ m _ => m | _ => 0

/-- An act as a value. -/
abbrev actV (kind n back : Int) (a : Option Addr) (len cap : Nat) (fill : Int) (ka : Option Addr) (klen kcap : Nat) : Array Value :=
  #[.int .i64 kind, .int .i64 n, .int .i64 back, .slice a len cap, .int .u8 fill, .slice ka klen kcap]

set_option maxRecDepth 20000 in
set_option maxHeartbeats 1000000 in
theorem sector_any (kind n back : Int) (a : Option Addr) (b off len cap : Nat) (f : Nat → Int) (fill : Int) (ka : Option Addr) (klen kcap : Nat) (w : World) (hl : len ≤ 140737488351232) (hB : Bs w a b off len f) (hnone : a = none → len = 0 ∧ cap = 0) :
    Calls Try.prog 12 #[.agg (actV kind n back a len cap fill ka klen kcap)] w fun e w' => ∃ g c, e = .returned (.slice (some ⟨g, 0, none⟩) 256 c) ∧ 256 ≤ c ∧ c ≤ maxLen ∧ w.heap.size ≤ g ∧
      (∃ cur, Row w' g cur 5) ∧ (∀ i, i < 256 → w'.cell? ⟨g, i, none⟩ = some (.int .u8 (secOf len f fill i))) ∧ Below w.heap.size w w' := by
  obtain ⟨i0, hi, hz0, hz1, hz2⟩ := info_parts Try.info5
  obtain ⟨A, hA⟩ : ∃ A, A = actV kind n back a len cap fill ka klen kcap := ⟨_, rfl⟩
  have hR := Row.new w A 43
  have hb0 : Below w.heap.size w (w.alloc (.cells A 43)) := (Below.refl _ _).alloc (Nat.le_refl _) _
  have h2 : A[3]? = some (.slice a len cap) := by rw [hA]; rfl
  have h3 : A[4]? = some (.int .u8 fill) := by rw [hA]; rfl
  rw [← hA]
  clear hA
  have HB : Hid _ := hB
  have HN : Hid _ := hnone
  clear hB hnone
  go_enter Try.func12, Try.ntmps12
  have hb1 : Below w.heap.size w ((w.alloc (.cells A 43)).alloc (.cells #[] 5)) := hb0.alloc (by simp) _
  have hR1 : Row ((w.alloc (.cells A 43)).alloc (.cells #[] 5)) w.heap.size A 43 := hR.alloc _
  have c2 := (hR1.cell 3).trans h2
  have own0 : ((w.alloc (.cells A 43)).alloc (.cells #[] 5)).ownsRow w.heap.size 5 1 (.slice (some ⟨w.heap.size + 1, 0, none⟩) 0 0) 0 [] := by
    have h := World.ownsRow_lit (base := w.heap.size) (e := 5) (size := 1) (w.alloc (.cells A 43)) #[] 0 (by simp) (by decide) rfl
    simpa using h
  have hBs := HB.out.belowAll hb1
  have HBs : Hid _ := hBs
  clear hBs
  go_wp2_with (at_builtin; refine wpList_append_bytes rfl (.tmp 4) (.tmp 6) rfl w.heap.size _ 0 [] rfl own0 a b off len cap f rfl HBs.out HN.out (by omega) (by simp; omega) ?_)
  intro v1 w1 own1 grow1 ne1
  have hb2 : Below w.heap.size w w1 := own_grown own0 hb1 (by simp; omega) grow1
  have hs2 := hb2.size
  have hR2 : Row w1 w.heap.size A 43 := (grow1.block w.heap.size (by simp; omega) (by simp [Value.ownBlock])).trans hR1
  have hg1 : ∃ g c, v1 = .slice (some ⟨g, 0, none⟩) len c ∧ w.heap.size < g := by
    obtain ⟨_, ⟨h1, h2⟩ | ⟨g, c, cur, h1, h2, h3, _⟩⟩ := own1
    · exact (ne1 h1).elim
    · refine ⟨g, c, by simpa using h1, ?_⟩
      rcases Nat.lt_or_ge w.heap.size g with h | h
      · exact h
      · have : g = w.heap.size := by omega
        subst this
        have e := hR2.symm.trans h3
        simp at e
  rw [byts_congr f (secOf len f fill) len (fun i hi => by unfold secOf; rw [if_pos hi])] at own1
  clear own0 grow1 ne1 hR1 c2 HBs HN HB hb1 hb0 hR h2
  have c3 := (hR2.cell 4).trans h3
  go_wp2
  go_loopw [3] (fun v wr => ∃ m : Nat, len ≤ m ∧ (m = len ∨ m ≤ 256) ∧ (∃ g c, v = .slice (some ⟨g, 0, none⟩) m c ∧ w.heap.size < g) ∧ wr.ownsRow w.heap.size 5 1 v m (byts (secOf len f fill) m) ∧ Row wr w.heap.size A 43 ∧ Below w.heap.size w wr) (fun v _ => 256 - lenOf v)
  case atStart => exact ⟨len, Nat.le_refl _, .inl rfl, hg1, own1, hR2, hb2⟩
  case round =>
    obtain ⟨m, hm1, hm2, ⟨g, c, rfl, hg⟩, own, hR, hb⟩ := hrel
    have hs := hb.size
    have Hm2 : Hid _ := hm2
    have Hown : Hid (wr.ownsRow w.heap.size 5 1 (.slice (some ⟨g, 0, none⟩) m c) m (byts (secOf len f fill) m)) := own
    clear hm2 own own1 hg1 c3 hR2 hb2 hs2
    by_cases hlt : m < 256
    · have c3 := (hR.cell 4).trans h3
      have hb' := hb.alloc hs (.cells #[.int .u8 fill] 5)
      have own' := Hown.out.alloc (.cells #[.int .u8 fill] 5)
      go_wp2_with (at_builtin; refine wpList_append_own_wide _ rfl (.tmp 11) (.tmp 14) 40 rfl w.heap.size 5 i0 (.int .u8 0) 1 1 Try.underlying40 hi hz0 hz1 hz2 rfl (by decide) _ _ _ rfl own' ⟨wr.heap.size, 0, none⟩ 1 1 [.int .u8 fill] rfl rfl ?c1 ?c2 ?c3 ?c4 ?c5 ?_)
      case c1 => exact cell_one_new _ _ _
      case c2 => intro u hu; simp at hu; subst hu; rfl
      case c3 => unfold maxLen; omega
      case c4 => omega
      case c5 => simp; omega
      intro v2 w2 own2 grow2 ne2
      have hb3 : Below w.heap.size w w2 := own_grown own' hb' (by simp; omega) grow2
      have hR3 : Row w2 w.heap.size A 43 := (grow2.block w.heap.size (by simp; omega) (by simp [Value.ownBlock]; omega)).trans (hR.alloc _)
      have e2 : byts (secOf len f fill) m ++ [.int .u8 fill] = byts (secOf len f fill) (m + 1) := by rw [byts_succ]; congr 2; unfold secOf; rw [if_neg (by omega)]
      rw [e2] at own2
      have hg2 : ∃ g c, v2 = .slice (some ⟨g, 0, none⟩) (m + 1) c ∧ w.heap.size < g := by
        obtain ⟨_, ⟨_, h2⟩ | ⟨g, c, cur, h1, h2, h3, _⟩⟩ := own2
        · omega
        · refine ⟨g, c, h1, ?_⟩
          rcases Nat.lt_or_ge w.heap.size g with h | h
          · exact h
          · have : g = w.heap.size := by omega
            subst this
            have e := hR3.symm.trans h3
            simp at e
      go_wp2
      go_roundw
      case rel => exact ⟨m + 1, by omega, .inr (by omega), hg2, own2, hR3, hb3⟩
      case measure => obtain ⟨g2, c2, rfl, _⟩ := hg2; simp [lenOf]; omega
    · have own1' := Hown.out
      have hc : m ≤ c ∧ c ≤ maxLen ∧ ∃ cur, Row wr g cur 5 := by
        obtain ⟨_, ⟨h1, _⟩ | ⟨g', c', cur, h1, _, e3, e4, e5, e6, e7⟩⟩ := Hown.out
        · cases h1
        simp only [Value.slice.injEq, Option.some.injEq, Addr.mk.injEq, and_true, true_and] at h1
        obtain ⟨rfl, rfl⟩ := h1
        exact ⟨e4, e5, cur, e3⟩
      obtain ⟨e4, e5, cur, e3⟩ := hc
      have h256 : 256 ≤ c := by omega
      go_wp2
      go_ret
      refine ⟨g, c, by simp, by simpa using h256, e5, by omega, ⟨cur, e3⟩, fun i hi => ?_, hb⟩
      have hi' : i < 256 := by simpa using hi
      rw [own1'.cellAt i (by omega), byts_at _ _ _ (by omega)]
end Go.Proofs.Ytlbapnecmhlgmaa
