/- My own work: cuts in a row of one's own; what holds while two sets are gone through together. -/
import Derived.Test.YtkbhckjpmgkgjaaGreatDoorSP5
import Derived.Test.YtkbhckjpmgkgjaaGreatDoorVAp
import Derived.Test.YtkbhckjpmgkgjaaGreatDoorPerm
import Derived.Great.BuildSlice
namespace Go.Proofs.YtkbhckjpmgkgjaaGreatDoor
open Go.RowKit

/-- Cells of cuts, one behind another. -/
def flatC (L : List Cut) : List Value := (L.map encC).flatten
theorem flatC_len (L : List Cut) : (flatC L).length = L.length * 7 := by
  induction L with
  | nil => rfl
  | cons v L ih =>
    have h7 : (encC v).length = 7 := rfl
    show (encC v ++ flatC L).length = (L.length + 1) * 7
    rw [List.length_append, ih, h7]
    omega
theorem flatC_snoc (L : List Cut) (v : Cut) : flatC (L ++ [v]) = flatC L ++ encC v := by
  unfold flatC
  rw [List.map_append, List.flatten_append]
  simp
theorem flatC_at : ∀ (L : List Cut) (i : Nat) (hi : i < L.length) (j : Nat), j < 7 → (flatC L)[i * 7 + j]? = (encC L[i])[j]? := by
  intro L
  induction L with
  | nil => exact fun i hi => absurd hi (by simp)
  | cons c r ih =>
    intro i hi j hj
    have h7 : (encC c).length = 7 := rfl
    show (encC c ++ flatC r)[i * 7 + j]? = _
    cases i with
    | zero => rw [Nat.zero_mul, Nat.zero_add, List.getElem?_append_left (by rw [h7]; exact hj)]; rfl
    | succ i =>
      rw [List.getElem?_append_right (by rw [h7]; omega), h7, show (i + 1) * 7 + j - 7 = i * 7 + j by omega]
      exact ih i (by simpa using hi) j hj
theorem cuts_own {w : World} {B : Nat} {v : Value} {L : List Cut} (h : w.ownsRow B 216 7 v L.length (flatC L)) : CutsAt w v L w.heap.size := by
  have h' := h
  obtain ⟨hl, ⟨rfl, h0⟩ | ⟨g, cap, cur, rfl, _, hrow, hnc, _, _, _⟩⟩ := h
  · exact ⟨none, 0, 0, 0, by rw [h0], fun h => absurd h (by omega), by omega, fun _ => rfl, fun i hi => absurd hi (by omega)⟩
  · refine ⟨some ⟨g, 0, none⟩, g, 0, cap, rfl, fun _ => ⟨rfl, (Array.getElem?_eq_some_iff.1 hrow).1⟩, hnc, (fun h => by cases h), fun i hi j u hj => ?_⟩
    have hj7 : j < 7 := (List.getElem?_eq_some_iff.1 hj).1
    rw [Nat.zero_add, h'.cellAt (i * 7 + j) (by omega), flatC_at L i hi j hj7]
    exact hj
theorem own_same {w w' : World} {B s n : Nat} {e : TypeId} {v : Value} {xs : List Value} (h : w.ownsRow B e s v n xs) (hk : ∀ k, v.ownBlock = some k → w'.heap[k]? = w.heap[k]?) : w'.ownsRow B e s v n xs := by
  obtain ⟨h0, h1 | ⟨g, cap, cur, rfl, hb, hrow, r⟩⟩ := h
  · exact ⟨h0, Or.inl h1⟩
  · exact ⟨h0, Or.inr ⟨g, cap, cur, rfl, hb, (hk g rfl).trans hrow, r⟩⟩
theorem own_block {w : World} {B s n : Nat} {e : TypeId} {v : Value} {xs : List Value} (h : w.ownsRow B e s v n xs) : ∀ k, v.ownBlock = some k → B ≤ k ∧ k < w.heap.size := fun k hk => by
  obtain ⟨h0, ⟨rfl, _⟩ | ⟨g, cap, cur, rfl, hb, hrow, r⟩⟩ := h
  · cases hk
  · simp only [Value.ownBlock, Option.some.injEq] at hk
    subst hk
    exact ⟨hb, (Array.getElem?_eq_some_iff.1 hrow).1⟩
theorem CutsAt.tail {w : World} {g off cap B : Nat} {c : Cut} {r : List Cut} (h : CutsAt w (.slice (some ⟨g, off, none⟩) (r.length + 1) cap) (c :: r) B) (cap' : Nat) (hc : r.length ≤ cap') : CutsAt w (.slice (some ⟨g, off + 7, none⟩) r.length cap') r B := by
  obtain ⟨a, g', off', cap2, h1, h2, h3, h5, h4⟩ := h.ex
  obtain ⟨ha, hg⟩ := h2 (by simp)
  simp only [List.length_cons, Value.slice.injEq] at h1
  obtain ⟨h1, _, _⟩ := h1
  rw [ha] at h1
  simp only [Option.some.injEq, Addr.mk.injEq, and_true] at h1
  obtain ⟨rfl, rfl⟩ := h1
  refine ⟨some ⟨g, off + 7, none⟩, g, off + 7, cap', rfl, fun _ => ⟨rfl, hg⟩, hc, (fun h => by cases h), fun i hi => ?_⟩
  have := h4 (i + 1) (by simpa using hi)
  rw [show off + (i + 1) * 7 = off + 7 + i * 7 by omega] at this
  exact this
theorem CutsAt.rest {w : World} {g off cap n B : Nat} {c : Cut} {r : List Cut} (h : CutsAt w (.slice (some ⟨g, off, none⟩) (n + 1) cap) (c :: r) B) (hn : n = r.length) : CutsAt w (.slice (if cap = 1 then some ⟨g, off, none⟩ else some ⟨g, off + 7, none⟩) n (cap - 1)) r B := by
  subst hn
  have hc : r.length + 1 ≤ cap := by
    obtain ⟨g', off', cap', h1, _, h3, _⟩ := cuts_head h
    simp only [Value.slice.injEq] at h1
    omega
  by_cases e : cap = 1
  · rw [if_pos e]
    have hr : r.length = 0 := by omega
    exact ⟨_, 0, 0, _, rfl, fun h => absurd h (by omega), by omega, (fun h => by cases h), fun i hi => absurd hi (by omega)⟩
  · rw [if_neg e]
    exact h.tail (cap - 1) (by omega)
theorem head_range {w : World} {g off n cap B : Nat} {c : Cut} {r : List Cut} (h : CutsAt w (.slice (some ⟨g, off, none⟩) n cap) (c :: r) B) : w.rangeAt g off (encC c) := by
  obtain ⟨g', off', cap', h1, _, _, h4⟩ := cuts_head h
  simp only [Value.slice.injEq, Option.some.injEq, Addr.mk.injEq, and_true] at h1
  obtain ⟨⟨rfl, rfl⟩, _⟩ := h1
  exact h4
theorem one_cut (c : Cut) (w : World) : (Instr.buildSlice 211 1 #[(0, cutV c)]).run Tryz.prog w = .ok (.slice (some ⟨w.heap.size, 0, none⟩) 1 1) (w.alloc (.cells (cutC c) 216)) := by
  obtain ⟨i0, hi, hz0, hz1, _⟩ := info_parts infoCz
  refine run_buildSlice w 211 216 1 _ _ i0 _ Tryz.underlying211 hi hz0 (by rw [hz1]; decide) (by rw [hz1]; decide) ?_
  rw [hz1]
  kernel_rfl
theorem tog_nil (f : Bool → Bool → Bool) (n : Nat) (x y z : Bool) : tog f n [] [] x y z = [] := by
  cases n with
  | zero => rfl
  | succ n => unfold tog; rw [if_pos ⟨rfl, rfl⟩]
/-- The length of a slice. -/
def lenV : Value → Nat
  | .slice _ n _ => n
  | _ => 0
/-- What holds ahead of each round of together. -/
structure Tg (f : Bool → Bool → Bool) (w : World) (R : List Cut) (RA RB M : List Cut) (x y z : Bool) (mv : Value) (n : Nat) (va vb : Value) (wq : World) : Prop where
  made : Row wq w.heap.size #[.bool true, mv] 213
  own : wq.ownsRow (w.heap.size + 1) 216 7 mv M.length (flatC M)
  ra : CutsAt wq va RA w.heap.size
  rb : CutsAt wq vb RB w.heap.size
  oka : ∀ c ∈ RA, CutOk c
  okb : ∀ c ∈ RB, CutOk c
  cnt : RA.length + RB.length ≤ n
  tot : M.length + RA.length + RB.length ≤ 99999
  eq : M ++ tog f n RA RB x y z = R
  old : Below w.heap.size w wq
theorem below_own' {w w' : World} {B : Nat} {row : Option Nat} (hg : w.grownBy w' row) (hB : B ≤ w.heap.size) (hr : ∀ k, row = some k → B ≤ k) : Below B w w' :=
  ⟨hg.os, hg.tape, hg.output, hg.size, fun k hk => hg.block k (by omega) fun e => by have := hr k e.symm; omega⟩
/-- What holds within a round: the cut lies boxed. -/
structure TgC (w : World) (M : List Cut) (mv va vb : Value) (RA RB : List Cut) (c : Cut) (k : Nat) (wq : World) : Prop where
  made : Row wq w.heap.size #[.bool true, mv] 213
  own : wq.ownsRow (w.heap.size + 1) 216 7 mv M.length (flatC M)
  sep : ∀ b, mv.ownBlock = some b → b < k
  ra : CutsAt wq va RA w.heap.size
  rb : CutsAt wq vb RB w.heap.size
  box : Row wq k (cutC c) 216
  kk : w.heap.size < k
  old : Below w.heap.size w wq
theorem TgC.drew {w : World} {M : List Cut} {mv va vb : Value} {RA RB : List Cut} {c : Cut} {k : Nat} {wq : World} (h : TgC w M mv va vb RA RB c k wq) : TgC w M mv va vb RA RB c k wq.drew :=
  ⟨h.made, own_same h.own fun _ _ => rfl, h.sep, h.ra.keep ((Below.refl _ _).drew), h.rb.keep ((Below.refl _ _).drew), h.box, h.kk, h.old.drew⟩
theorem tg_box {f : Bool → Bool → Bool} {w : World} {R RA RB M : List Cut} {x y z : Bool} {mv : Value} {n : Nat} {va vb : Value} {wq w1 : World} (h : Tg f w R RA RB M x y z mv n va vb wq) (hb : Below wq.heap.size wq w1) (c : Cut) : TgC w M mv va vb RA RB c w1.heap.size (w1.alloc (.cells (cutC c) 216)) := by
  have hb2 : Below wq.heap.size wq (w1.alloc (.cells (cutC c) 216)) := hb.alloc hb.size _
  have hlt := h.made.lt
  exact ⟨h.made.below hb2 h.made.lt, own_same h.own fun k hk => hb2.block k (own_block h.own k hk).2, fun b hb' => Nat.lt_of_lt_of_le (own_block h.own b hb').2 hb.size, h.ra.keep (hb2.mono (Nat.le_of_lt hlt)), h.rb.keep (hb2.mono (Nat.le_of_lt hlt)), Row.new _ _ _, Nat.lt_of_lt_of_le hlt hb.size, h.old.trans (hb2.mono h.old.size)⟩
/-- The set with one cut more, laid into its field. -/
theorem tg_more {w : World} {M : List Cut} {mv va vb : Value} {RA RB : List Cut} {c : Cut} {k : Nat} {wq w4 : World} {v' : Value} (h : TgC w M mv va vb RA RB c k wq) (ho : w4.ownsRow (w.heap.size + 1) 216 7 v' (M.length + 1) (flatC M ++ encC c)) (hg : (wq.drew.alloc (.cells (cutC c) 216)).grownBy w4 mv.ownBlock) :
    Row w4 w.heap.size #[.bool true, mv] 213 ∧ Row w4 k (cutC c) 216 ∧ Row (w4.setCell ⟨w.heap.size, 1, none⟩ v') w.heap.size #[.bool true, v'] 213 ∧ (w4.setCell ⟨w.heap.size, 1, none⟩ v').ownsRow (w.heap.size + 1) 216 7 v' (M ++ [c]).length (flatC (M ++ [c])) ∧ CutsAt (w4.setCell ⟨w.heap.size, 1, none⟩ v') va RA w.heap.size ∧ CutsAt (w4.setCell ⟨w.heap.size, 1, none⟩ v') vb RB w.heap.size ∧ Below w.heap.size w (w4.setCell ⟨w.heap.size, 1, none⟩ v') := by
  have hb3 : Below wq.heap.size wq (wq.drew.alloc (.cells (cutC c) 216)) := ((Below.refl _ _).drew).alloc (Nat.le_refl _) _
  have hlt := h.made.lt
  have hob := fun b hb => own_block h.own b hb
  have hb4 : Below (w.heap.size + 1) (wq.drew.alloc (.cells (cutC c) 216)) w4 := below_own' hg (by have := hb3.size; omega) fun b hb => (hob b hb).1
  have hr4 : Row w4 w.heap.size #[.bool true, mv] 213 := (h.made.below hb3 hlt).below hb4 (by omega)
  have hbx : Row w4 k (cutC c) 216 := by
    have h1 := h.box.below hb3 h.box.lt
    refine (hg.block k h1.lt fun e => ?_).trans h1
    have := h.sep k e.symm
    omega
  have hbw : Below w.heap.size wq w4 := (hb3.mono (by omega)).trans (hb4.mono (by omega))
  have hset : Below w.heap.size w4 (w4.setCell ⟨w.heap.size, 1, none⟩ v') := ⟨rfl, rfl, rfl, by simp [World.setCell], fun j hj => Below.heap_setCell _ _ _ _ (by show j ≠ w.heap.size; omega)⟩
  refine ⟨hr4, hbx, hr4.setCell v', ?_, (h.ra.keep hbw).keep hset, (h.rb.keep hbw).keep hset, h.old.trans (hbw.trans hset)⟩
  rw [List.length_append, flatC_snoc]
  exact own_same ho fun j hj => by
    have := (own_block ho j hj).1
    exact Below.heap_setCell _ _ _ _ (by show j ≠ w.heap.size; omega)
end Go.Proofs.YtkbhckjpmgkgjaaGreatDoor
