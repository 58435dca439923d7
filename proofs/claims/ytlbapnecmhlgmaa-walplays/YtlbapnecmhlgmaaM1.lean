/- Rows of cells; and statements that draw their order, in which some operations only read, in a class of worlds that all keep, and the others stand alone when they come up. Bytes that came in, and the walk of sector: an act's bytes, filled up. Acts that came in, opened. -/
import Derived.Test.YtlbapnecmhlgmaaRows
import Derived.WalkKit
import Derived.Below
import Derived.OrdersHeld
import Derived.BigQuiet
import Derived.Deep.WholeRow
import Derived.Deep.MidRow
import Derived.Laws.Closers25b
import Derived.Laws.CopyOwn
import Derived.Deep.DeepAppendWide
import Derived.Laws.AppendOwnNone
import Derived.Maps.AppendAt
import Derived.ProofKit
import Derived.OpenShut
import Derived.ShutString
import Derived.ChangeOld
import Derived.SizedLaws
import Derived.Deep.DeepHandedRow
import Derived.Deep.Slices
import Derived.Deep.Grids
namespace Go.Proofs.Ytlbapnecmhlgmaa
open Go.RowKit

/-- Block g holds these cells, and they may be written. -/
abbrev Row (w : World) (g : Nat) (C : Array Value) (t : TypeId) : Prop := w.heap[g]? = some (.cells C t (0, 0))
theorem Row.new (w : World) (C : Array Value) (t : TypeId) : Row (w.alloc (.cells C t)) w.heap.size C t := heap_alloc_new w _
theorem Row.lt {w : World} {g : Nat} {C : Array Value} {t : TypeId} (h : Row w g C t) : g < w.heap.size := (Array.getElem?_eq_some_iff.1 h).1
theorem Row.alloc {w : World} {g : Nat} {C : Array Value} {t : TypeId} (h : Row w g C t) (o : Obj) : Row (w.alloc o) g C t := (Below.heap_alloc w o g h.lt).trans h
theorem Row.below {w w' : World} {g B : Nat} {C : Array Value} {t : TypeId} (h : Row w g C t) (hb : Below B w w') (hB : g < B) : Row w' g C t := (hb.block g hB).trans h
theorem Row.setRow {w : World} {g : Nat} {C C' : Array Value} {t : TypeId} (h : Row w g C t) : Row (w.setRow g C') g C' t := setRow_heap w g C C' t _ h
theorem Row.other {w : World} {g k : Nat} {C C' : Array Value} {t : TypeId} (h : Row w g C t) (hk : g ≠ k) : Row (w.setRow k C') g C t := (setRow_other w k g C' hk).trans h
theorem Row.setCell {w : World} {g i : Nat} {C : Array Value} {t : TypeId} (h : Row w g C t) (v : Value) : Row (w.setCell ⟨g, i, none⟩ v) g (C.setIfInBounds i v) t := by
  rw [setCell_eq_setRow w g i C t (0, 0) v h]
  exact h.setRow
theorem Row.setCell_other {w : World} {g k i : Nat} {C : Array Value} {t : TypeId} (h : Row w g C t) (hk : g ≠ k) (v : Value) : Row (w.setCell ⟨k, i, none⟩ v) g C t := (heap_setCell_other w ⟨k, i, none⟩ g v hk).trans h
theorem Row.cell {w : World} {g : Nat} {C : Array Value} {t : TypeId} (h : Row w g C t) (i : Nat) : w.cell? ⟨g, i, none⟩ = C[i]? := cell_of_row w g i C t (0, 0) h
theorem Row.frozen {w : World} {g : Nat} {C : Array Value} {t : TypeId} (h : Row w g C t) (i : Nat) : w.frozen? ⟨g, i, none⟩ = false := frozen_of_row w g i C t h
theorem Row.drew {w : World} {g : Nat} {C : Array Value} {t : TypeId} (h : Row w g C t) : Row w.drew g C t := h

section
variable {P : Program} {ops : Array Oper} {md : Region.Mode} {S : World → Prop}

/-- The walk in the text's order: false: the operation only reads; true: it stands alone. -/
def wpMix (P : Program) (ops : Array Oper) (S : World → Prop) (Q : Act → World → Prop) : List Bool → List Oper → Act → World → Prop
  | _, [], a, w => Q a w
  | [], _ :: _, _, _ => False
  | true :: fs, o :: rest, a, w => Region.wanted o (yielded ops a.tmps) = true ∧ o.wp P a w (fun a' w' => S w' ∧ wpMix P ops S Q fs rest a' w') (fun _ _ _ => False)
  | false :: fs, o :: rest, a, w => ∃ v, YieldsIf P ops S o v a ∧ wpMix P ops S Q fs rest (a.put o.dst v) w

def mixB (md : Region.Mode) (ops : Array Oper) : List Bool → Nat → Array Bool → Bool
  | [], _, listed => (Region.ready md ops listed).isEmpty
  | true :: fs, k, listed => decide (Region.ready md ops listed = [k]) && mixB md ops fs (k + 1) (listed.setIfInBounds k true)
  | false :: fs, k, listed => (Region.ready md ops listed).contains k && Region.free md ops listed k && mixB md ops fs (k + 1) (listed.setIfInBounds k true)

/-- Only the common end. -/
def Only (Q : Act → World → Prop) : Exit → Act → World → Prop
  | .normal, a, w => Q a w
  | _, _, _ => False

theorem wp_monoQ {o : Oper} {a : Act} {w : World} {K : Act → World → Prop} {Q Q' : Exit → Act → World → Prop} (h : ∀ e a w, Q e a w → Q' e a w) (hh : o.wp P a w K Q) : o.wp P a w K Q' := by
  unfold Oper.wp at *
  generalize (execOp a.eval o).run P w = r at *
  cases r with
  | ok n w' =>
    cases n <;> simp only [Oper.upon] at hh ⊢ <;>
      first
        | exact hh
        | exact Calls.mono hh (fun e w'' he => by
            cases e
            · exact he
            · exact h _ _ _ he
            · obtain ⟨a, w, he⟩ := he; exact ⟨a, w, h _ _ _ he⟩)
  | halt x w' => cases x <;> simp only [Oper.upon] at hh ⊢ <;> exact h _ _ _ hh

theorem wpOp_monoQ {i : Nat} {a : Act} {w : World} {K : Act → World → Prop} {Q Q' : Exit → Act → World → Prop} (h : ∀ e a w, Q e a w → Q' e a w) (hh : wpOp P ops Q i K a w) : wpOp P ops Q' i K a w := by
  unfold wpOp at *
  split
  · simpa [*] using hh
  · rename_i o ho
    simp only [ho] at hh
    split
    · rename_i hw
      simp only [hw, if_true] at hh
      exact hh.imp (wp_monoQ h) (fun ⟨h1, a, w, h2⟩ => ⟨h1, a, w, h _ _ _ h2⟩)
    · rename_i hw; simp only [hw] at hh; exact hh

theorem wpAny_monoQ {Q Q' : Exit → Act → World → Prop} (h : ∀ e a w, Q e a w → Q' e a w) : ∀ (fuel : Nat) (listed : Array Bool) (a : Act) (w : World), wpAny P md ops Q fuel listed a w → wpAny P md ops Q' fuel listed a w
  | 0, _, _, _, hh => ⟨hh.1, h _ _ _ hh.2⟩
  | fuel + 1, _, _, _, hh => ⟨fun h0 => h _ _ _ (hh.1 h0), fun i hi => wpOp_monoQ h (wpOp_mono (fun a w h1 => wpAny_monoQ h fuel _ a w h1) (hh.2 i hi))⟩

theorem wpAnyH_mix {Q : Act → World → Prop} (hs : Region.noSelect ops = true) : ∀ (fs : List Bool) (l : List Oper) (k : Nat) (listed : Array Bool) (a : Act) (w : World), fs.length = l.length → (∀ j, l[j]? = ops[k + j]?) →
    mixB md ops fs k listed = true → S w → wpMix P ops S Q fs l a w → wpAnyH P md ops (Only Q) S l.length listed a w
  | [], [], _, listed, a, w, _, _, hB, _, h => ⟨by simpa [mixB] using hB, h⟩
  | [], _ :: _, _, _, _, _, hl, _, _, _, _ => by simp at hl
  | _ :: _, [], _, _, _, _, hl, _, _, _, _ => by simp at hl
  | true :: fs, o :: l, k, listed, a, w, hl, hj, hB, hS, h => by
    have h0 : ops[k]? = some o := by simpa using (hj 0).symm
    simp only [mixB, Bool.and_eq_true, decide_eq_true_eq] at hB
    refine wpAnyH_all hB.1 (by simp) fun i hi => ?_
    have hik : i = k := by simpa using hi
    subst hik
    obtain ⟨hw, hwp⟩ := h
    unfold wpOp
    simp only [h0, hw, if_true]
    refine .inl (wp_monoQ (fun _ _ _ h => h.elim) (Oper.wp_mono (fun a' w' h' => ?_) hwp))
    exact ⟨h'.1, wpAnyH_mix hs fs l (i + 1) _ a' w' (by simpa using hl) (fun j => by have := hj (j + 1); simpa [Nat.add_assoc, Nat.add_comm 1 j] using this) hB.2 h'.1 h'.2⟩
  | false :: fs, o :: l, k, listed, a, w, hl, hj, hB, hS, h => by
    have h0 : ops[k]? = some o := by simpa using (hj 0).symm
    simp only [mixB, Bool.and_eq_true] at hB
    obtain ⟨v, hy, h'⟩ := h
    refine wpAnyH_take h0 hs hB.1.2 hB.1.1 (fun _ _ _ h => h.elim) hy hS ?_
    exact wpAnyH_mix hs fs l (k + 1) _ _ w (by simpa using hl) (fun j => by have := hj (j + 1); simpa [Nat.add_assoc, Nat.add_comm 1 j] using this) hB.2 hS h'

theorem wp_region_mix {id : Nat} {Q : Exit → Act → World → Prop} {a : Act} {w : World} {l : List Oper} (fs : List Bool) (S : World → Prop) (hm : P.follows .mixedOrders = true)
    (hB : (Region.noSelect l.toArray && (decide (fs.length = l.length) && mixB .any l.toArray fs 0 (Array.replicate l.length false))) = true) (hS : S w.drew)
    (h : wpMix P l.toArray S (Q .normal) fs l a w.drew) : (Code.region id l.toArray true).wp P Q a w := by
  simp only [Bool.and_eq_true, decide_eq_true_eq] at hB
  refine wp_region_any hm ?_
  have h1 := wpAnyH_mix (md := .any) (Q := Q .normal) hB.1 fs l 0 _ a w.drew hB.2.1 (fun j => by simp) hB.2.2 hS h
  have h2 := wpAny_monoQ (Q' := Q) (fun e a w h => by cases e <;> first | exact h | exact h.elim) _ _ _ _ (wpAny_of_held _ _ _ _ h1)
  simpa using h2

variable {Q : Act → World → Prop} {a : Act} {w : World} {o : Oper} {rest : List Oper} {fs : List Bool}

theorem m_value (v : Value) (hw : Region.wanted o (yielded ops a.tmps) = true) (h : ∀ w, S w → (execOp a.eval o).run P w = .ok (.value v) w) (k : wpMix P ops S Q fs rest (a.put o.dst v) w) : wpMix P ops S Q (false :: fs) (o :: rest) a w :=
  ⟨v, .inl ⟨hw, h⟩, k⟩
theorem m_skip (hw : Region.wanted o (yielded ops a.tmps) = false) (k : wpMix P ops S Q fs rest (a.put o.dst undef) w) : wpMix P ops S Q (false :: fs) (o :: rest) a w :=
  ⟨undef, .inr ⟨hw, rfl⟩, k⟩
theorem m_move (x : Operand) (ho : o.op = .move x) (hw : Region.wanted o (yielded ops a.tmps) = true) (k : wpMix P ops S Q fs rest (a.put o.dst (a.eval x)) w) : wpMix P ops S Q (false :: fs) (o :: rest) a w :=
  m_value _ hw (fun w _ => by unfold execOp; simp only [ho]; rfl) k
theorem m_assign (x : Operand) (ho : o.op = .assign x) (hw : Region.wanted o (yielded ops a.tmps) = true) (k : wpMix P ops S Q fs rest (a.put o.dst (a.eval x)) w) : wpMix P ops S Q (false :: fs) (o :: rest) a w :=
  m_value _ hw (fun w _ => by unfold execOp; simp only [ho]; rfl) k
theorem m_load (ty : TypeId) (x : Operand) (ho : o.op = .load ty x) (hw : Region.wanted o (yielded ops a.tmps) = true) (g : Nat) (cs : Array Value) (t : TypeId) (d : TypeDesc) (hx : a.eval x = .pointer (some ⟨g, 0, none⟩))
    (hC : ∀ w, S w → Row w g cs t) (hu : P.underlying ty = some d) (hd : (match d with | .struct _ | .array _ _ => true | _ => false) = true) (hi : (P.info? ty).map (·.size) = some cs.size)
    (k : wpMix P ops S Q fs rest (a.put o.dst (.agg cs)) w) : wpMix P ops S Q (false :: fs) (o :: rest) a w :=
  m_value (.agg cs) hw (fun w hw' => by
    unfold execOp
    simp only [ho, hx, Instr.loadAt, Instr.sureAddr, Sem.run_bind, Sem.run_pure, Result.andThen_ok, run_loadVar_row w g t ty cs (0, 0) d (hC w hw') hu hd hi]) k
/-- A call that stands alone. -/
theorem m_call (hw : Region.wanted o (yielded ops a.tmps) = true) (f : FuncId) (args : Array Value) (h : (execOp a.eval o).run P w = .ok (.enter f args) w)
    (hc : Calls P f args w fun e w' => ∃ v, e = .returned v ∧ S w' ∧ wpMix P ops S Q fs rest (a.put o.dst v) w') : wpMix P ops S Q (true :: fs) (o :: rest) a w := by
  refine ⟨hw, ?_⟩
  unfold Oper.wp
  rw [h]
  simp only [Oper.upon]
  refine hc.mono ?_
  rintro e w' ⟨v, rfl, h1, h2⟩
  exact ⟨h1, h2⟩
/-- An operation that makes or writes memory, alone. -/
theorem m_alone (v : Value) (w' : World) (hw : Region.wanted o (yielded ops a.tmps) = true) (h : (execOp a.eval o).run P w = .ok (.value v) w') (hS : S w')
    (k : wpMix P ops S Q fs rest (a.put o.dst v) w') : wpMix P ops S Q (true :: fs) (o :: rest) a w := by
  refine ⟨hw, ?_⟩
  unfold Oper.wp
  rw [h]
  exact ⟨hS, k⟩
theorem m_done (h : Q a w) : wpMix P ops S Q [] [] a w := h
end
end Go.Proofs.Ytlbapnecmhlgmaa
namespace Go.Proofs.Ytlbapnecmhlgmaa
open Go.RowKit

theorem Try.info5 : (Try.prog.info? 5).map (fun i => (i.zero, i.size, i.bytes)) = some (some (.int .u8 0), 1, 1) := by kernel_rfl

/-- n bytes as cells. -/
def byts (f : Nat → Int) (n : Nat) : List Value := (List.range n).map fun i => Value.int .u8 (f i)
theorem byts_len (f : Nat → Int) (n : Nat) : (byts f n).length = n := by simp [byts]
theorem byts_at (f : Nat → Int) (n i : Nat) (h : i < n) : (byts f n)[i]? = some (.int .u8 (f i)) := by simp [byts, h]
theorem byts_succ (f : Nat → Int) (n : Nat) : byts f (n + 1) = byts f n ++ [.int .u8 (f n)] := by simp [byts, List.range_succ]
theorem byts_congr (f g : Nat → Int) (n : Nat) (h : ∀ i, i < n → f i = g i) : byts f n = byts g n := by
  unfold byts
  apply List.map_congr_left
  intro i hi
  rw [List.mem_range] at hi
  rw [h i hi]
theorem byts_one (f : Nat → Int) (n : Nat) : ∀ u ∈ byts f n, u.oneCell' = true := by
  intro u hu
  simp only [byts, List.mem_map] at hu
  obtain ⟨i, _, rfl⟩ := hu
  rfl

/-- Bytes that lie in memory: their numbers by the place. -/
structure Bs (w : World) (a : Option Addr) (b off len : Nat) (f : Nat → Int) : Prop where
  at' : 0 < len → a = some ⟨b, off, none⟩
  cell : ∀ i, i < len → w.cell? ⟨b, off + i, none⟩ = some (.int .u8 (f i))
  bd : ∀ i, 0 ≤ f i ∧ f i < 256

theorem Bs.lt {w : World} {a : Option Addr} {b off len : Nat} {f : Nat → Int} (h : Bs w a b off len f) (hl : 0 < len) : b < w.heap.size := World.block_lt_of_cell? _ _ (h.cell 0 hl)
theorem Bs.keep {w wr : World} {a : Option Addr} {b off len : Nat} {f : Nat → Int} (h : Bs w a b off len f) (hb : 0 < len → wr.heap[b]? = w.heap[b]?) : Bs wr a b off len f :=
  ⟨h.at', fun i hi => (World.cell?_of_block (w := w) (hb (by omega))).trans (h.cell i hi), h.bd⟩
theorem Bs.below {w wr : World} {a : Option Addr} {b off len B : Nat} {f : Nat → Int} (h : Bs w a b off len f) (hb : Below B w wr) (hB : 0 < len → b < B) : Bs wr a b off len f :=
  h.keep fun hl => hb.block b (hB hl)
theorem Bs.belowAll {w wr : World} {a : Option Addr} {b off len : Nat} {f : Nat → Int} (h : Bs w a b off len f) (hb : Below w.heap.size w wr) : Bs wr a b off len f :=
  h.below hb h.lt

theorem ownsRow_keep {w w' : World} {B n s : Nat} {e : TypeId} {v : Value} {xs : List Value} (h : w.ownsRow B e s v n xs) (hb : ∀ g, v.ownBlock = some g → g < w.heap.size → w'.heap[g]? = w.heap[g]?) : w'.ownsRow B e s v n xs := by
  obtain ⟨h1, h2 | ⟨g, cap, cur, e1, e2, e3, e4⟩⟩ := h
  · exact ⟨h1, .inl h2⟩
  · refine ⟨h1, .inr ⟨g, cap, cur, e1, e2, ?_, e4⟩⟩
    obtain ⟨hlt, _⟩ := Array.getElem?_eq_some_iff.1 e3
    exact (hb g (by rw [e1]; rfl) hlt).trans e3
theorem ownsRow_below {w w' : World} {B n s : Nat} {e : TypeId} {v : Value} {xs : List Value} (h : w.ownsRow B e s v n xs) (hb : Below w.heap.size w w') : w'.ownsRow B e s v n xs :=
  ownsRow_keep h fun g _ hg => hb.block g hg
theorem own_grown {B : Nat} {w wr w1 : World} {e : TypeId} {s : Nat} {v : Value} {n : Nat} {xs : List Value} (hown : wr.ownsRow B e s v n xs) (hb : Below B w wr) (hB : B ≤ wr.heap.size) (hgrow : wr.grownBy w1 v.ownBlock) : Below B w w1 := by
  refine hb.grown hgrow hB (fun r hr => ?_)
  obtain ⟨_, ⟨rfl, _⟩ | ⟨g', cap, cur, rfl, hle, _⟩⟩ := hown
  · cases hr
  · simp [Value.ownBlock] at hr; omega

/-- 'append(v, xs...)', v the call's own, xs bytes that lie in memory, nil or not. -/
theorem wpList_append_bytes {w : World} {ops : Array Oper} {rest : List Oper} {o : Oper} {act : Act} {Q : Exit → Act → World → Prop} (hgd : o.guard = none) (s x : Operand)
    (ho : o.op = .call { callee := .builtin .append, args := #[s, x], argTypes := #[40, 40] }) (base : Nat) (v : Value) (n : Nat) (xs : List Value) (hs : act.eval s = v) (hown : w.ownsRow base 5 1 v n xs)
    (a : Option Addr) (b off len cap : Nat) (f : Nat → Int) (hx : act.eval x = .slice a len cap) (hB : Bs w a b off len f) (hnone : a = none → len = 0 ∧ cap = 0) (hl : n + len ≤ 140737488351232) (hbase : base ≤ w.heap.size)
    (h : ∀ v' w', w'.ownsRow base 5 1 v' (n + len) (xs ++ byts f len) → w.grownBy w' v.ownBlock → (v ≠ .slice none 0 0 → v' ≠ .slice none 0 0) → wpList Try.prog ops Q rest (act.put o.dst v') w') : wpList Try.prog ops Q (o :: rest) act w := by
  obtain ⟨i0, hi, hz0, hz1, hz2⟩ := info_parts Try.info5
  cases a with
  | none =>
    obtain ⟨rfl, rfl⟩ := hnone rfl
    exact wpList_append_own_none hgd s x 40 ho base 5 i0 1 Try.underlying40 hi v n xs hs hown hx (h v w (by simpa [byts] using hown) ⟨rfl, rfl, rfl, Nat.le_refl _, fun _ _ _ => rfl⟩ id)
  | some ad =>
    refine wpList_append_own_wide w hgd s x 40 ho base 5 i0 (.int .u8 0) 1 1 Try.underlying40 hi hz0 hz1 hz2 rfl (by decide) v n xs hs hown ad len cap (byts f len) hx (by simp [byts]) ?_ (byts_one _ _) (by unfold maxLen; omega) (by omega) hbase
      (fun v' w' h1 h2 h3 => h v' w' h1 h2 (fun h4 h5 => h4 (h3.1 h5).1))
    intro j u hj
    have hjl : j < len := by
      rcases Nat.lt_or_ge j len with h | h
      · exact h
      · rw [List.getElem?_eq_none (by simpa [byts] using h)] at hj; cases hj
    have e : ad = ⟨b, off, none⟩ := Option.some.inj (hB.at' (by omega))
    subst e
    have hp : (⟨b, off, none⟩ : Addr).add j = ⟨b, off + j, none⟩ := by unfold Addr.add; split <;> simp_all
    rw [hp, hB.cell j hjl]
    rw [byts_at _ _ _ hjl] at hj
    exact hj

/-- A sector's bytes: those of the act, and behind them the one that fills up. -/
def secOf (len : Nat) (f : Nat → Int) (fill : Int) (i : Nat) : Int := if i < len then f i else fill

/-- How long a slice is: for a loop's measure. -/
def lenOf : Value → Nat | .slice _ m _ => m | _ => 0

/-- An act as a value. -/
abbrev actV (kind n back : Int) (a : Option Addr) (len cap : Nat) (fill : Int) (ka : Option Addr) (klen kcap : Nat) : Array Value :=
  #[.int .i64 kind, .int .i64 n, .int .i64 back, .slice a len cap, .int .u8 fill, .slice ka klen kcap]

set_option maxRecDepth 20000 in
set_option maxHeartbeats 1000000 in
theorem sector_any (kind n back : Int) (a : Option Addr) (b off len cap : Nat) (f : Nat → Int) (fill : Int) (ka : Option Addr) (klen kcap : Nat) (w : World) (hl : len ≤ 140737488351232) (hB : Bs w a b off len f) (hnone : a = none → len = 0 ∧ cap = 0) :
    Calls Try.prog 12 #[.agg (actV kind n back a len cap fill ka klen kcap)] w fun e w' => ∃ g c, e = .returned (.slice (some ⟨g, 0, none⟩) 256 c) ∧ 256 ≤ c ∧ c ≤ maxLen ∧ w.heap.size ≤ g ∧
      (∃ cur, Row w' g cur 5) ∧ (∀ i, i < 256 → w'.cell? ⟨g, i, none⟩ = some (.int .u8 (secOf len f fill i))) ∧ Below w.heap.size w w' := by
  obtain ⟨i0, hi, hz0, hz1, hz2⟩ := info_parts Try.info5
  obtain ⟨A, hA⟩ : ∃ A, A = actV kind n back a len cap fill ka klen kcap := ⟨_, rfl⟩
  have hR := Row.new w A 43
  have hb0 : Below w.heap.size w (w.alloc (.cells A 43)) := (Below.refl _ _).alloc (Nat.le_refl _) _
  have h2 : A[3]? = some (.slice a len cap) := by rw [hA]; rfl
  have h3 : A[4]? = some (.int .u8 fill) := by rw [hA]; rfl
  rw [← hA]
  clear hA
  have HB : Hid _ := hB
  have HN : Hid _ := hnone
  clear hB hnone
  go_enter Try.func12, Try.ntmps12
  have hb1 : Below w.heap.size w ((w.alloc (.cells A 43)).alloc (.cells #[] 5)) := hb0.alloc (by simp) _
  have hR1 : Row ((w.alloc (.cells A 43)).alloc (.cells #[] 5)) w.heap.size A 43 := hR.alloc _
  have c2 := (hR1.cell 3).trans h2
  have own0 : ((w.alloc (.cells A 43)).alloc (.cells #[] 5)).ownsRow w.heap.size 5 1 (.slice (some ⟨w.heap.size + 1, 0, none⟩) 0 0) 0 [] := by
    have h := World.ownsRow_lit (base := w.heap.size) (e := 5) (size := 1) (w.alloc (.cells A 43)) #[] 0 (by simp) (by decide) rfl
    simpa using h
  have hBs := HB.out.belowAll hb1
  have HBs : Hid _ := hBs
  clear hBs
  go_wp2_with (at_builtin; refine wpList_append_bytes rfl (.tmp 4) (.tmp 6) rfl w.heap.size _ 0 [] rfl own0 a b off len cap f rfl HBs.out HN.out (by omega) (by simp; omega) ?_)
  intro v1 w1 own1 grow1 ne1
  have hb2 : Below w.heap.size w w1 := own_grown own0 hb1 (by simp; omega) grow1
  have hs2 := hb2.size
  have hR2 : Row w1 w.heap.size A 43 := (grow1.block w.heap.size (by simp; omega) (by simp [Value.ownBlock])).trans hR1
  have hg1 : ∃ g c, v1 = .slice (some ⟨g, 0, none⟩) len c ∧ w.heap.size < g := by
    obtain ⟨_, ⟨h1, h2⟩ | ⟨g, c, cur, h1, h2, h3, _⟩⟩ := own1
    · exact (ne1 h1).elim
    · refine ⟨g, c, by simpa using h1, ?_⟩
      rcases Nat.lt_or_ge w.heap.size g with h | h
      · exact h
      · have : g = w.heap.size := by omega
        subst this
        have e := hR2.symm.trans h3
        simp at e
  rw [byts_congr f (secOf len f fill) len (fun i hi => by unfold secOf; rw [if_pos hi])] at own1
  clear own0 grow1 ne1 hR1 c2 HBs HN HB hb1 hb0 hR h2
  have c3 := (hR2.cell 4).trans h3
  go_wp2
  go_loopw [3] (fun v wr => ∃ m : Nat, len ≤ m ∧ (m = len ∨ m ≤ 256) ∧ (∃ g c, v = .slice (some ⟨g, 0, none⟩) m c ∧ w.heap.size < g) ∧ wr.ownsRow w.heap.size 5 1 v m (byts (secOf len f fill) m) ∧ Row wr w.heap.size A 43 ∧ Below w.heap.size w wr) (fun v _ => 256 - lenOf v)
  case atStart => exact ⟨len, Nat.le_refl _, .inl rfl, hg1, own1, hR2, hb2⟩
  case round =>
    obtain ⟨m, hm1, hm2, ⟨g, c, rfl, hg⟩, own, hR, hb⟩ := hrel
    have hs := hb.size
    have Hm2 : Hid _ := hm2
    have Hown : Hid (wr.ownsRow w.heap.size 5 1 (.slice (some ⟨g, 0, none⟩) m c) m (byts (secOf len f fill) m)) := own
    clear hm2 own own1 hg1 c3 hR2 hb2 hs2
    by_cases hlt : m < 256
    · have c3 := (hR.cell 4).trans h3
      have hb' := hb.alloc hs (.cells #[.int .u8 fill] 5)
      have own' := Hown.out.alloc (.cells #[.int .u8 fill] 5)
      go_wp2_with (at_builtin; refine wpList_append_own_wide _ rfl (.tmp 11) (.tmp 14) 40 rfl w.heap.size 5 i0 (.int .u8 0) 1 1 Try.underlying40 hi hz0 hz1 hz2 rfl (by decide) _ _ _ rfl own' ⟨wr.heap.size, 0, none⟩ 1 1 [.int .u8 fill] rfl rfl ?c1 ?c2 ?c3 ?c4 ?c5 ?_)
      case c1 => exact cell_one_new _ _ _
      case c2 => intro u hu; simp at hu; subst hu; rfl
      case c3 => unfold maxLen; omega
      case c4 => omega
      case c5 => simp; omega
      intro v2 w2 own2 grow2 ne2
      have hb3 : Below w.heap.size w w2 := own_grown own' hb' (by simp; omega) grow2
      have hR3 : Row w2 w.heap.size A 43 := (grow2.block w.heap.size (by simp; omega) (by simp [Value.ownBlock]; omega)).trans (hR.alloc _)
      have e2 : byts (secOf len f fill) m ++ [.int .u8 fill] = byts (secOf len f fill) (m + 1) := by rw [byts_succ]; congr 2; unfold secOf; rw [if_neg (by omega)]
      rw [e2] at own2
      have hg2 : ∃ g c, v2 = .slice (some ⟨g, 0, none⟩) (m + 1) c ∧ w.heap.size < g := by
        obtain ⟨_, ⟨_, h2⟩ | ⟨g, c, cur, h1, h2, h3, _⟩⟩ := own2
        · omega
        · refine ⟨g, c, h1, ?_⟩
          rcases Nat.lt_or_ge w.heap.size g with h | h
          · exact h
          · have : g = w.heap.size := by omega
            subst this
            have e := hR3.symm.trans h3
            simp at e
      go_wp2
      go_roundw
      case rel => exact ⟨m + 1, by omega, .inr (by omega), hg2, own2, hR3, hb3⟩
      case measure => obtain ⟨g2, c2, rfl, _⟩ := hg2; simp [lenOf]; omega
    · have own1' := Hown.out
      have hc : m ≤ c ∧ c ≤ maxLen ∧ ∃ cur, Row wr g cur 5 := by
        obtain ⟨_, ⟨h1, _⟩ | ⟨g', c', cur, h1, _, e3, e4, e5, e6, e7⟩⟩ := Hown.out
        · cases h1
        simp only [Value.slice.injEq, Option.some.injEq, Addr.mk.injEq, and_true, true_and] at h1
        obtain ⟨rfl, rfl⟩ := h1
        exact ⟨e4, e5, cur, e3⟩
      obtain ⟨e4, e5, cur, e3⟩ := hc
      have h256 : 256 ≤ c := by omega
      go_wp2
      go_ret
      refine ⟨g, c, by simp, by simpa using h256, e5, by omega, ⟨cur, e3⟩, fun i hi => ?_, hb⟩
      have hi' : i < 256 := by simpa using hi
      rw [own1'.cellAt i (by omega), byts_at _ _ _ (by omega)]
end Go.Proofs.Ytlbapnecmhlgmaa
namespace Go.Proofs.Ytlbapnecmhlgmaa
open Go.ChangeShapes Go.WideShapes Go.ChangeAt Go.RowKit Go.Deep

theorem own : ownKnob Try.prog.godebug = none := by kernel_rfl
theorem laidOut : laidOutB Try.prog = true := by kernel_rfl
theorem cells3 : Try.prog.cellsOf 3 = 1 := by kernel_rfl
theorem cells4 : Try.prog.cellsOf 4 = 1 := by kernel_rfl
theorem cells5 : Try.prog.cellsOf 5 = 1 := by kernel_rfl
theorem cells31 : Try.prog.cellsOf 40 = 1 := by kernel_rfl
theorem cells32 : Try.prog.cellsOf 41 = 1 := by kernel_rfl
theorem cells34 : Try.prog.cellsOf 43 = 6 := by kernel_rfl
theorem bytes5 : Try.prog.bytesOf 5 = 1 := by kernel_rfl
theorem bytes4 : Try.prog.bytesOf 4 = 1 := by kernel_rfl

/-- Bools that lie in memory. -/
structure Bl (w : World) (a : Option Addr) (b off len : Nat) (f : Nat → Bool) : Prop where
  at' : 0 < len → a = some ⟨b, off, none⟩
  cell : ∀ i, i < len → w.cell? ⟨b, off + i, none⟩ = some (.bool (f i))
theorem Bl.lt {w : World} {a : Option Addr} {b off len : Nat} {f : Nat → Bool} (h : Bl w a b off len f) (hl : 0 < len) : b < w.heap.size := World.block_lt_of_cell? _ _ (h.cell 0 hl)
theorem Bl.keep {w wr : World} {a : Option Addr} {b off len : Nat} {f : Nat → Bool} (h : Bl w a b off len f) (hb : 0 < len → wr.heap[b]? = w.heap[b]?) : Bl wr a b off len f :=
  ⟨h.at', fun i hi => (World.cell?_of_block (w := w) (hb (by omega))).trans (h.cell i hi)⟩
theorem Bl.belowAll {w wr : World} {a : Option Addr} {b off len : Nat} {f : Nat → Bool} (h : Bl w a b off len f) (hb : Below w.heap.size w wr) : Bl wr a b off len f :=
  h.keep fun hl => hb.block b (h.lt hl)

/-- An act: what it holds, and where its bytes and bools lie. -/
structure ActD where
  kind : Int
  n : Int
  back : Int
  a : Option Addr
  b : Nat
  off : Nat
  len : Nat
  cap : Nat
  f : Nat → Int
  fill : Int
  ka : Option Addr
  kb : Nat
  koff : Nat
  klen : Nat
  kcap : Nat
  kf : Nat → Bool
instance : Inhabited ActD := ⟨⟨0, 0, 0, none, 0, 0, 0, 0, fun _ => 0, 0, none, 0, 0, 0, 0, fun _ => false⟩⟩
def ActD.cells (x : ActD) : Array Value := actV x.kind x.n x.back x.a x.len x.cap x.fill x.ka x.klen x.kcap
structure ActD.In (x : ActD) (W : World) : Prop where
  bytes : Bs W x.a x.b x.off x.len x.f
  nil : x.a = none → x.len = 0 ∧ x.cap = 0
  len : x.len ≤ 140737488351232
  keep : Bl W x.ka x.kb x.koff x.klen x.kf
  knil : x.ka = none → x.klen = 0 ∧ x.kcap = 0
  klen : x.klen ≤ 140737488351232
  kind : -9223372036854775808 ≤ x.kind ∧ x.kind ≤ 9223372036854775807
  n : -9223372036854775808 ≤ x.n ∧ x.n ≤ 9223372036854775807
  back : -9223372036854775808 ≤ x.back ∧ x.back ≤ 9223372036854775807
  fill : 0 ≤ x.fill ∧ x.fill < 256
theorem ActD.In.below {x : ActD} {w w' : World} (h : x.In w) (hb : Below w.heap.size w w') : x.In w' :=
  ⟨h.bytes.belowAll hb, h.nil, h.len, h.keep.belowAll hb, h.knil, h.klen, h.kind, h.n, h.back, h.fill⟩

section
variable {H : Type} {enc : TypeId × Value → H} {W : World}

theorem int_bd {k : Int} (h : (Lit.int .i64 k).wf = true) : -9223372036854775808 ≤ k ∧ k ≤ 9223372036854775807 := by
  simp only [Lit.wf, IntKind.min, IntKind.max, IntKind.signed, IntKind.bits, Bool.and_eq_true] at h
  simp at h
  omega
theorem byte_bd {k : Int} (h : (Lit.int .u8 k).wf = true) : 0 ≤ k ∧ k < 256 := by
  simp only [Lit.wf, IntKind.min, IntKind.max, IntKind.signed, IntKind.bits, Bool.and_eq_true] at h
  simp at h
  omega

theorem spot_none {x : Addr} {v : Value} (h : W.cell? (x.add 0) = some v) : x = ⟨x.block, x.off, none⟩ := by
  obtain ⟨b, off, spot⟩ := x
  have hs : spot = none := by simpa [Addr.add] using World.cell?_spot h
  rw [hs]
theorem add_plain (b off i : Nat) : (⟨b, off, none⟩ : Addr).add i = ⟨b, off + i, none⟩ := by unfold Addr.add; split <;> simp_all

theorem open_bytes {fuel : Nat} {v : Value} {x : DataW H × List MemPlace} (h : DataW.trod enc Try.prog W 0 (fun _ => true) true fuel 40 [v] = some x) (hw : ∀ n ∈ x.1.weights Try.prog 40, n ≤ reachBytes) :
    ∃ a b off len cap f, v = .slice a len cap ∧ Bs W a b off len f ∧ (a = none → len = 0 ∧ cap = 0) ∧ len ≤ 140737488351232 := by
  rcases open_ints Try.underlying40 Try.underlying5 cells5 h with ⟨hcs, _⟩ | ⟨x', l, c, zs, hcs, _, hl, hm, hz, hx, hcell, hwz⟩
  · simp at hcs
    exact ⟨none, 0, 0, 0, 0, fun _ => 0, hcs, ⟨fun h => absurd h (by omega), fun i hi => absurd hi (by omega), fun _ => by decide⟩, fun _ => ⟨rfl, rfl⟩, by omega⟩
  · simp at hcs
    have hz' : zs.length = c := by simpa using hz
    have hbd : ∀ i, 0 ≤ zs.getD i 0 ∧ zs.getD i 0 < 256 := fun i => by
      by_cases hi : i < zs.length
      · exact byte_bd (hwz (zs.getD i 0) (by simp [List.getD, List.getElem?_eq_getElem hi]))
      · rw [List.getD, List.getElem?_eq_none (by omega)]; decide
    refine ⟨some x', x'.block, x'.off, l, c, fun i => zs.getD i 0, hcs, ⟨fun h0 => congrArg some (spot_none (hcell 0 (by omega))), fun i hi => ?_, hbd⟩, (fun h => nomatch h), ?_⟩
    · have h := hcell i (by omega)
      rw [spot_none (hcell 0 (by omega)), add_plain] at h
      exact h
    · have h := hw ((zs.take l).length * 1 + (zs.drop l).length * 1) (by
        rw [hx]
        simp only [DataW.weights, Try.underlying40, bytes5, List.mem_cons]
        left
        simp [lits])
      simp only [reachBytes, List.length_take, List.length_drop] at h
      omega

theorem open_keep {fuel : Nat} {v : Value} {x : DataW H × List MemPlace} (h : DataW.trod enc Try.prog W 0 (fun _ => true) true fuel 41 [v] = some x) (hw : ∀ n ∈ x.1.weights Try.prog 41, n ≤ reachBytes) :
    ∃ a b off len cap f, v = .slice a len cap ∧ Bl W a b off len f ∧ (a = none → len = 0 ∧ cap = 0) ∧ len ≤ 140737488351232 := by
  rcases open_bools Try.underlying41 Try.underlying4 cells4 h with ⟨hcs, _⟩ | ⟨x', l, c, B, hcs, _, hl, hm, hx, hcell⟩
  · simp at hcs
    exact ⟨none, 0, 0, 0, 0, fun _ => false, hcs, ⟨fun h => absurd h (by omega), fun i hi => absurd hi (by omega)⟩, fun _ => ⟨rfl, rfl⟩, by omega⟩
  · simp at hcs
    refine ⟨some x', x'.block, x'.off, l, c, B, hcs, ⟨fun h0 => congrArg some (spot_none (hcell 0 (by omega))), fun i hi => ?_⟩, (fun h => nomatch h), ?_⟩
    · have h := hcell i (by omega)
      rw [spot_none (hcell 0 (by omega)), add_plain] at h
      exact h
    · have h := hw (l + (c - l)) (by
        rw [hx]
        simp only [boolRow, DataW.weights, Try.underlying41, bytes4, List.mem_cons]
        left
        simp)
      simp only [reachBytes] at h
      omega

set_option maxRecDepth 20000 in
theorem open_act {fuel : Nat} {cs : List Value} {x : DataW H × List MemPlace} (h : DataW.trod enc Try.prog W 0 (fun _ => true) true fuel 43 cs = some x) (hw : ∀ n ∈ x.1.weights Try.prog 43, n ≤ reachBytes) :
    ∃ X : ActD, cs = X.cells.toList ∧ X.In W := by
  obtain ⟨xs, m, _, hx, hl, hxl, hall⟩ := DataW.trod_struct Try.underlying43 h
  rw [cells34] at hl
  match cs, hl with
  | [v0, v1, v2, v3, v4, v5], _ =>
  have hxl' : xs.length = 6 := by rw [hxl]; rfl
  match xs, hxl' with
  | [y0, y1, y2, y3, y4, y5], _ =>
  have g0 := hall 0 _ rfl
  have g1 := hall 1 _ rfl
  have g2 := hall 2 _ rfl
  have g3 := hall 3 _ rfl
  have g4 := hall 4 _ rfl
  have g5 := hall 5 _ rfl
  simp [cells3, cells5, cells31, cells32] at g0 g1 g2 g3 g4 g5
  have hwe : ∀ n ∈ DataW.weightsEach Try.prog [3, 3, 3, 40, 5, 41] [y0.1, y1.1, y2.1, y3.1, y4.1, y5.1], n ≤ reachBytes := by
    intro n hn
    refine hw n ?_
    rw [hx]
    simp only [DataW.weights, Try.underlying43]
    exact hn
  obtain ⟨k, e0, _, b0⟩ := DataW.trod_int Try.underlying3 g0
  obtain ⟨n, e1, _, b1⟩ := DataW.trod_int Try.underlying3 g1
  obtain ⟨back, e2, _, b2⟩ := DataW.trod_int Try.underlying3 g2
  obtain ⟨a, b, off, len, cap, f, e3, hB, hnil, hlen⟩ := open_bytes g3 (fun n hn => hwe n (DataW.weights_mem_each (j := 3) rfl rfl n hn))
  obtain ⟨fill, e4, _, b4⟩ := DataW.trod_int Try.underlying5 g4
  obtain ⟨ka, kb, koff, klen, kcap, kf, e5, hK, hknil, hklen⟩ := open_keep g5 (fun n hn => hwe n (DataW.weights_mem_each (j := 5) rfl rfl n hn))
  simp at e0 e1 e2 e4
  subst e0 e1 e2 e3 e4 e5
  exact ⟨⟨k, n, back, a, b, off, len, cap, f, fill, ka, kb, koff, klen, kcap, kf⟩, rfl, ⟨hB, hnil, hlen, hK, hknil, hklen, int_bd b0, int_bd b1, int_bd b2, byte_bd b4⟩⟩

/-- A list of acts that came in. -/
structure Acts (W : World) (a : Option Addr) (b off len : Nat) (X : Nat → ActD) : Prop where
  at' : 0 < len → a = some ⟨b, off, none⟩
  cell : ∀ i, i < len → ∀ j, j < 6 → W.cell? ⟨b, off + i * 6 + j, none⟩ = (X i).cells[j]?
  is : ∀ i, i < len → (X i).In W
theorem Acts.belowAll {w w' : World} {a : Option Addr} {b off len : Nat} {X : Nat → ActD} (h : Acts w a b off len X) (hb : Below w.heap.size w w') : Acts w' a b off len X :=
  ⟨h.at', fun i hi j hj => by
    have hc := h.cell i hi j hj
    have hlt : b < w.heap.size := by
      have e : (X i).cells[j]? = some ((X i).cells[j]'hj) := Array.getElem?_eq_getElem _
      rw [e] at hc
      exact World.block_lt_of_cell? _ ⟨b, off + i * 6 + j, none⟩ hc
    rw [hb.cell (p := ⟨b, off + i * 6 + j, none⟩) hlt]
    exact hc, fun i hi => (h.is i hi).below hb⟩

theorem open_acts {a : Option Addr} {len cap fuel : Nat} {x : DataW H × List MemPlace} (h : DataW.trod enc Try.prog W 0 (fun _ => true) true fuel 22 [.slice a len cap] = some x) (hw : ∀ n ∈ x.1.weights Try.prog 22, n ≤ reachBytes) :
    ∃ b off X, Acts W a b off len X ∧ len ≤ cap ∧ cap ≤ maxLen ∧ (a = none → len = 0 ∧ cap = 0) := by
  rcases open_slice Try.underlying22 h with ⟨hcs, _⟩ | ⟨x', l, c, m, n, D, Pl, hcs, _, hl, hm, hmm, hx, hall⟩
  · simp at hcs
    obtain ⟨rfl, rfl, rfl⟩ := hcs
    exact ⟨0, 0, fun _ => ⟨0, 0, 0, none, 0, 0, 0, 0, fun _ => 0, 0, none, 0, 0, 0, 0, fun _ => false⟩, ⟨fun h => absurd h (by omega), fun i hi => absurd hi (by omega), fun i hi => absurd hi (by omega)⟩, by omega, by decide, fun _ => ⟨rfl, rfl⟩⟩
  · simp at hcs
    obtain ⟨rfl, rfl, rfl⟩ := hcs
    simp only [if_true] at hmm
    subst hmm
    rw [cells34] at hall
    have hsp0 : 0 < len → x' = ⟨x'.block, x'.off, none⟩ := fun h0 => by
      obtain ⟨cs', h1, h2⟩ := hall 0 (by omega)
      obtain ⟨_, hlen6, hcell⟩ := World.cells?_some h1
      have h3 := hcell 0 (by omega)
      rw [List.getElem?_eq_getElem (by omega)] at h3
      obtain ⟨bb, oo, sp⟩ := x'
      have hs : sp = none := by simpa [Addr.add] using World.cell?_spot h3
      rw [hs]
    have each : ∀ i, i < len → ∃ X : ActD, X.In W ∧ ∀ j, j < 6 → W.cell? ⟨x'.block, x'.off + i * 6 + j, none⟩ = X.cells[j]? ∧ x' = ⟨x'.block, x'.off, none⟩ := by
      intro i hi
      obtain ⟨cs', h1, h2⟩ := hall i (by omega)
      obtain ⟨X, hX, hin⟩ := open_act h2 (fun n hn => hw n (by
        rw [hx]
        simp only [DataW.weights, Try.underlying22, List.mem_cons, List.mem_append]
        right; left
        have hmem : D i ∈ (List.range len).map D := List.mem_map.2 ⟨i, List.mem_range.2 hi, rfl⟩
        revert hmem
        generalize (List.range len).map D = L
        intro hmem
        induction L with
        | nil => cases hmem
        | cons d r ih =>
          simp only [DataW.weightsAll, List.mem_append]
          rcases List.mem_cons.1 hmem with e | e
          · left; rw [← e]; exact hn
          · right; exact ih e))
      obtain ⟨_, hlen6, hcell⟩ := World.cells?_some h1
      have hsp := hsp0 (by omega)
      refine ⟨X, hin, fun j hj => ⟨?_, hsp⟩⟩
      have hc := hcell j (by omega)
      rw [hsp, add_plain, add_plain, hX] at hc
      rw [hc]
      simp
    obtain ⟨X, hX⟩ := choose_lt each
    exact ⟨x'.block, x'.off, X, ⟨fun h0 => congrArg some ((hX 0 h0).2 0 (by omega)).2, fun i hi j hj => ((hX i hi).2 j hj).1, fun i hi => (hX i hi).1⟩, hl, hm, fun h => nomatch h⟩
end
end Go.Proofs.Ytlbapnecmhlgmaa
