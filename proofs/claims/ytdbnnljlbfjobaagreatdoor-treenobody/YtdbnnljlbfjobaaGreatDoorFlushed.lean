/- An event compared with the one that stands for a flush; the walks of flushed, kept and redo. -/
import Derived.Test.YtdbnnljlbfjobaaGreatDoorWrite2
import Derived.Test.YtdbnnljlbfjobaaGreatDoorPermA
import Derived.Test.YtdbnnljlbfjobaaGreatDoorKitB
import Derived.Test.YtdbnnljlbfjobaaGreatDoorEqFlush
import Derived.DeepKeys
namespace Go.Proofs.YtdbnnljlbfjobaaGreatDoor
open Go.RowKit

theorem eq_other (e : Ev) (h : 0 ≤ e.n) (w : World) : (Op.equalIn 10000 101 (.agg (evA e)) (.agg (evA flushEv))).run Tryz.prog w = .ok false w := by
  have hf : Tryz.prog.underlying 101 = some (.struct (Tryz.prog.fieldsOf 101)) := by simp only [Program.fieldsOf, Tryz.underlying101]
  rw [run_equalIn_struct w 9999 101 _ _ hf (by kernel_rfl)]
  simp only [Program.fieldsOf, Tryz.underlying101, Op.eqFields]
  have p1 : (part 3 (evA e) 0).run Tryz.prog w = .ok (.int .i64 e.n) w := by simp [part, isAgg, run_underlying Tryz.underlying3, evA, Ev.cells]
  have p2 : (part 3 (evA flushEv) 0).run Tryz.prog w = .ok (.int .i64 (-1)) w := by simp [part, isAgg, run_underlying Tryz.underlying3, evA, Ev.cells, flushEv]
  have p3 := run_equalIn_int (P := Tryz.prog) w 9998 3 .i64 .i64 e.n (-1) Tryz.underlying3
  have hq : (e.n == -1) = false := by simp; omega
  simp [p1, p2, p3, hq]
/-- Is it a flush? -/
def Ev.isFl (e : Ev) : Bool := decide (e.n < 0)
theorem eq_ev {s : Nat} (e : Ev) (he : e.ok s) (w : World) : (Op.equalIn 10000 101 (.agg (evA e)) (.agg (evA flushEv))).run Tryz.prog w = .ok e.isFl w := by
  rcases he.2 with rfl | h
  · exact eq_flush w
  · rw [eq_other e h.1 w]
    simp [Ev.isFl]
    omega

/-- Events in memory, from the head of a block on. -/
structure Evs (w : World) (a : Option Addr) (g3 k s : Nat) (E : Nat → Ev) : Prop where
  at' : 0 < k → a = some ⟨g3, 0, none⟩
  range : ∀ i, i < k → w.rangeAt g3 (i * 257) (E i).cells
  ok : ∀ i, i < k → (E i).ok s
theorem Evs.lt {w : World} {a : Option Addr} {g3 k s : Nat} {E : Nat → Ev} (h : Evs w a g3 k s E) (hk : 0 < k) : g3 < w.heap.size := by
  have := h.range 0 hk 0 (.int .i64 (E 0).n) rfl
  exact World.block_lt_of_cell? _ _ this
theorem Evs.keep {w w' : World} {a : Option Addr} {g3 k s : Nat} {E : Nat → Ev} (h : Evs w a g3 k s E) (hb : 0 < k → w'.heap[g3]? = w.heap[g3]?) : Evs w' a g3 k s E :=
  ⟨h.at', fun i hi j v hj => (World.cell?_of_block (w := w) (hb (by omega))).trans (h.range i hi j v hj), h.ok⟩
theorem Evs.belowAll {w w' : World} {a : Option Addr} {g3 k s : Nat} {E : Nat → Ev} (h : Evs w a g3 k s E) (hb : Below w.heap.size w w') : Evs w' a g3 k s E := h.keep fun hk => hb.block g3 (h.lt hk)

/-- How many of the first k events are the last flush and those ahead of it. -/
def safeN (E : Nat → Ev) : Nat → Nat
  | 0 => 0
  | k + 1 => if (E k).isFl then k + 1 else safeN E k
theorem safeN_le (E : Nat → Ev) (k : Nat) : safeN E k ≤ k := by
  induction k with
  | zero => exact Nat.le_refl _
  | succ k ih => unfold safeN; split <;> omega

theorem info65c (e : Ev) : (Tryz.prog.info? 101).map (·.size) = some e.cells.length := by rw [Ev.cells_len]; exact info65s

set_option maxRecDepth 20000 in
set_option maxHeartbeats 2000000 in
theorem flushed_any (a : Option Addr) (g3 k c s : Nat) (E : Nat → Ev) (w : World) (hE : Evs w a g3 k s E) (hk : k ≤ 1000000) :
    Calls Tryz.prog 61 #[.slice a k c] w fun e w' => e = .returned (.int .i64 (safeN E k)) ∧ Below w.heap.size w w' := by
  have HE : Hid _ := hE
  clear hE
  go_enter Tryz.func61, Tryz.ntmps61
  go_wp2
  go_loopw [3] (fun i wr => ∃ j : Nat, j ≤ k ∧ i = .int .i64 j ∧ Hid (safeN E k = safeN E j) ∧ Below w.heap.size w wr) (fun i _ => (intOf i).toNat)
  case atStart => exact ⟨k, Nat.le_refl _, rfl, rfl, Below.refl _ _⟩
  case round =>
    obtain ⟨j, hj, rfl, hs, hb⟩ := hrel
    by_cases h0 : 0 < j
    · obtain ⟨i, rfl⟩ : ∃ i, j = i + 1 := ⟨j - 1, by omega⟩
      obtain rfl := HE.out.at' (by omega)
      have hEr := HE.out.belowAll hb
      have hrg := hEr.range i (by omega)
      have heq := eq_ev (E i) (hEr.ok i (by omega))
      have hel := info65c (E i)
      have HL : Hid _ := hrg
      clear hrg hEr
      have hsi : ((i + 1 : Nat) : Int) - 1 = (i : Int) := by omega
      have hwr : IntKind.i64.wrap (i : Int) = i := by unfold IntKind.wrap; simp [IntKind.signed, IntKind.bits]; omega
      have hik : i < k := by omega
      have hA : evA (E i) = (E i).cells.toArray := rfl
      rw [hA] at heq
      have hfl : safeN E (i + 1) = if (E i).isFl then i + 1 else safeN E i := rfl
      have HFL : Hid _ := hfl
      generalize (E i).cells = L at *
      generalize (E i).isFl = fl at *
      clear hfl hA
      go_wp2_with fail
      refine wp_region_permA [(false, 0), (false, 1), (false, 2), (false, 3), (false, 4), (true, 5), (false, 6)] (fun wx => wx.rangeAt g3 (i * 257) L ∧ Below w.heap.size w wx) (by kernel_rfl) (by kernel_rfl) ⟨HL.out, hb.drew⟩ ?_
      refine a_move (some 10) _ rfl rfl rfl (by rfl) ?_
      simp only [Act.put, List.setIfInBounds_toArray, List.set_cons_zero, List.set_cons_succ]
      refine a_move (some 11) _ rfl rfl rfl (by rfl) ?_
      simp only [Act.put, List.setIfInBounds_toArray, List.set_cons_zero, List.set_cons_succ]
      refine a_value (some 12) ?_ rfl rfl (by rfl) (fun w hw => ?_) ?_
      rotate_left
      · go_simp
        with_reducible rfl
      simp only [Act.put, List.setIfInBounds_toArray, List.set_cons_zero, List.set_cons_succ]
      refine a_value (some 13) ?_ rfl rfl (by rfl) (fun w hw => ?_) ?_
      rotate_left
      · go_simp
        with_reducible rfl
      simp only [Act.put, List.setIfInBounds_toArray, List.set_cons_zero, List.set_cons_succ]
      refine a_load_mid (some 14) 101 _ rfl rfl rfl (by rfl) g3 (i * 257) rfl L _ (fun w h => h.1) Tryz.underlying101 rfl hel ?_
      simp only [Act.put, List.setIfInBounds_toArray, List.set_cons_zero, List.set_cons_succ]
      refine a_call (some 15) rfl rfl (by rfl) 83 #[] (by go_simp) ((flush_any _).mono fun e w' ⟨he, hw'⟩ => ⟨_, he, ?_, ?_⟩)
      · rw [hw']
        refine ⟨fun x v hv => ?_, hb.drew.alloc hb.size _⟩
        have hc : wr.drew.cell? ⟨g3, i * 257 + x, none⟩ = some v := HL.out x v hv
        rw [World.cell?_alloc_lt _ _ _ (World.block_lt_of_cell? _ _ hc)]
        exact hc
      subst hw'
      simp only [Act.put, List.setIfInBounds_toArray, List.set_cons_zero, List.set_cons_succ]
      refine a_value (some 16) ?_ rfl rfl (by rfl) (fun w hw => ?_) ?_
      rotate_left
      · go_simp
        with_reducible rfl
      simp only [Act.put, List.setIfInBounds_toArray, List.set_cons_zero, List.set_cons_succ]
      refine a_done ?_
      simp only [Exit.then]
      have hbN : Below w.heap.size w (wr.drew.alloc (.cells (evA flushEv) 101)) := hb.drew.alloc hb.size _
      generalize wr.drew.alloc (.cells (evA flushEv) 101) = W at *
      cases fl with
      | true =>
        go_wp2
        go_ret
        refine ⟨?_, hbN⟩
        rw [hs, HFL.out]
        simp
      | false =>
        go_wp2
        go_roundw
        case rel => exact ⟨i, by omega, by go_num, by show _ = _; rw [hs, HFL.out]; simp, hbN⟩
        case measure => simp [intOf]
    · obtain rfl : j = 0 := by omega
      go_wp2
      go_ret
      exact ⟨by rw [hs]; rfl, hb⟩

/-- Is the k-th of the later writes kept? -/
def keptB (len : Nat) (f : Nat → Bool) (k : Nat) : Bool := decide (k < len) && f k

set_option maxRecDepth 20000 in
theorem kept_any (a : Option Addr) (b off len cap k : Nat) (f : Nat → Bool) (w : World) (hK : Bl w a b off len f) (hk : k ≤ 1000000) (hl : len ≤ 281474976710656) :
    Calls Tryz.prog 63 #[.slice a len cap, .int .i64 k] w fun e w' => e = .returned (.bool (keptB len f k)) ∧ w' = w := by
  by_cases h : k < len
  · obtain rfl := hK.at' (by omega)
    have hc := hK.cell k h
    have e : keptB len f k = f k := by simp [keptB, h]
    rw [e]
    clear e hK
    go_enter Tryz.func63, Tryz.ntmps63
    go_wp2
    go_ret
    exact ⟨rfl, rfl⟩
  · have e : keptB len f k = false := by simp [keptB, h]
    rw [e]
    clear e hK
    go_enter Tryz.func63, Tryz.ntmps63
    go_wp2
    go_ret
    exact ⟨rfl, rfl⟩

/-- What an event does to bytes. -/
def redoF (e : Ev) (F : Nat → Int) : Nat → Int := if e.isFl then F else over F e.n.toNat e.f
theorem results30 : Tryz.f64.results = #[] := by kernel_rfl

/-- Of the blocks that were there only g has changed. -/
structure Lone (g : Nat) (w w' : World) : Prop where
  os : w'.os = w.os
  tape : w'.tape = w.tape
  output : w'.output = w.output
  size : w.heap.size ≤ w'.heap.size
  block : ∀ k, k < w.heap.size → k ≠ g → w'.heap[k]? = w.heap[k]?
theorem Lone.of_below {g : Nat} {w w' : World} (h : Below w.heap.size w w') : Lone g w w' := ⟨h.os, h.tape, h.output, h.size, fun k hk _ => h.block k hk⟩
theorem Lone.trans {g : Nat} {a b c : World} (h : Lone g a b) (k : Lone g b c) : Lone g a c :=
  ⟨k.os.trans h.os, k.tape.trans h.tape, k.output.trans h.output, Nat.le_trans h.size k.size, fun i hi h1 => (k.block i (Nat.lt_of_lt_of_le hi h.size) h1).trans (h.block i hi h1)⟩
theorem Lone.of_setRow {g : Nat} (w : World) (C : Array Value) : Lone g w (w.setRow g C) := ⟨rfl, rfl, rfl, by simp [World.setRow], fun k _ h2 => setRow_other w g k C h2⟩
theorem Lone.to_below {g B : Nat} {w w' : World} (h : Lone g w w') (h1 : B ≤ g) (hB : B ≤ w.heap.size) : Below B w w' := ⟨h.os, h.tape, h.output, h.size, fun k hk => h.block k (by omega) (by omega)⟩
theorem Row.lone {w w' : World} {g k : Nat} {C : Array Value} {t : TypeId} (h : Row w k C t) (hl : Lone g w w') (hk : k ≠ g) : Row w' k C t := (hl.block k h.lt hk).trans h

/-- Bytes of their own, of which one sector is written over. -/
theorem owns_over {w : World} {base g1 c1 s n : Nat} {F f : Nat → Int} (h : w.ownsRow base 5 1 (.slice (some ⟨g1, 0, none⟩) (s * 256) c1) (s * 256) (byts F (s * 256))) (hn : n < s) (cur : Array Value) (hr : Row w g1 cur 5) :
    (w.setRow g1 (cur.toList.take (n * 256) ++ byts f 256 ++ cur.toList.drop (n * 256 + 256)).toArray).ownsRow base 5 1 (.slice (some ⟨g1, 0, none⟩) (s * 256) c1) (s * 256) (byts (over F n f) (s * 256)) := by
  obtain ⟨h1, _, h3, h4, cur', hr', hs, ht⟩ := ownsRow_slice h
  obtain rfl : cur' = cur := by have := hr'.symm.trans hr; simpa using this
  have hs' : cur'.size = c1 := by omega
  refine ⟨by simp [byts_len], .inr ⟨g1, c1, _, rfl, h1, hr.setRow, h3, h4, ?_, ?_⟩⟩
  · simp [byts_len]
    omega
  · show ((cur'.toList.take (n * 256) ++ byts f 256 ++ cur'.toList.drop (n * 256 + 256)).toArray.toList).take (s * 256 * 1) = _
    rw [Nat.mul_one]
    exact over_take cur' F f s n c1 hs' h3 hn (by rw [Nat.mul_one] at ht; exact ht)
end Go.Proofs.YtdbnnljlbfjobaaGreatDoor
