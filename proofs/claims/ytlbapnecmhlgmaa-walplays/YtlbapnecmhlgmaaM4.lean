/- The walks of Clone, holding, New, Read and Events. Events as values; the walk of flush. The walks of Flush and Write. -/
import Derived.Test.YtlbapnecmhlgmaaM3
import Derived.Deep.OwnRows
import Derived.Laws.CopyRow
import Derived.Laws.Cover3
import Derived.Test.YtlbapnecmhlgmaaM2
import Derived.Great.FillDense
import Derived.Great.BuildSlice
namespace Go.Proofs.Ytlbapnecmhlgmaa
open Go.RowKit

theorem info5s : (Try.prog.info? 5).map (·.size) = some 1 := by kernel_rfl
theorem made_byts (n : Nat) : (madeCells #[.int .u8 0] n).toList = byts (fun _ => 0) n := by
  apply List.ext_getElem?
  intro i
  by_cases hi : i < n
  · rw [byts_at _ _ _ hi]
    simp [madeCells, hi, Nat.mod_one]
  · rw [List.getElem?_eq_none (by simpa [madeCells] using hi), List.getElem?_eq_none (by rw [byts_len]; omega)]

theorem slice_nil (x : Addr) (n c : Nat) (w : World) : (binOp .eql 40 (.slice (some x) n c) (.slice none 0 0)).run Try.prog w = .ok (.bool false) w := by
  unfold binOp
  simp only [Sem.run_bind, run_equal_slice_nil w 40 5 (some x) n c Try.underlying40, Result.andThen_ok]
  rfl
theorem ownsRow_base {w : World} {B B' n s : Nat} {e : TypeId} {v : Value} {xs : List Value} (h : w.ownsRow B e s v n xs) (hb : B' ≤ B) : w.ownsRow B' e s v n xs := by
  obtain ⟨h1, h2 | ⟨g, cap, cur, e1, e2, e3⟩⟩ := h
  · exact ⟨h1, .inl h2⟩
  · exact ⟨h1, .inr ⟨g, cap, cur, e1, by omega, e3⟩⟩

set_option maxRecDepth 20000 in
set_option maxHeartbeats 1000000 in
/-- A copy of bytes that are not nil. -/
theorem clone_any (b off len cap : Nat) (f : Nat → Int) (w : World) (hB : Bs w (some ⟨b, off, none⟩) b off len f) (hl : len ≤ 1048576) (h0 : 0 < len) :
    Calls Try.prog 53 #[.slice (some ⟨b, off, none⟩) len cap] w fun e w' => ∃ g c, e = .returned (.slice (some ⟨g, 0, none⟩) len c) ∧ w'.ownsRow w.heap.size 5 1 (.slice (some ⟨g, 0, none⟩) len c) len (byts f len) ∧ Below w.heap.size w w' := by
  have hb1 : Below w.heap.size w (w.alloc (.cells #[] 5)) := (Below.refl _ _).alloc (Nat.le_refl _) _
  have own0 : (w.alloc (.cells #[] 5)).ownsRow w.heap.size 5 1 (.slice (some ⟨w.heap.size, 0, none⟩) 0 0) 0 [] := World.ownsRow_lit (base := w.heap.size) (e := 5) (size := 1) w #[] 0 (Nat.le_refl _) (by decide) rfl
  have HBs : Hid _ := hB.belowAll hb1
  clear hB
  have hq := slice_nil ⟨b, off, none⟩ len cap w
  go_enter Try.func53, Try.ntmps53
  go_wp2_with (at_builtin; refine wpList_append_bytes rfl (.tmp 5) (.tmp 6) rfl w.heap.size _ 0 [] rfl own0 (some ⟨b, off, none⟩) b off len cap f rfl HBs.out (fun h => nomatch h) (by omega) (by simp) ?_)
  intro v1 w1 own1 grow1 ne1
  have hb2 : Below w.heap.size w w1 := own_grown own0 hb1 (by simp) grow1
  have own1' : w1.ownsRow w.heap.size 5 1 v1 len (byts f len) := by simpa using own1
  clear own1
  obtain ⟨g, c, rfl⟩ : ∃ g c, v1 = .slice (some ⟨g, 0, none⟩) len c := by
    obtain ⟨_, ⟨_, h2⟩ | ⟨g, c, cur, h1, _⟩⟩ := own1'
    · omega
    · exact ⟨g, c, h1⟩
  go_wp2
  go_ret
  exact ⟨g, c, rfl, own1', hb2⟩

/-- A new disk's state: these bytes, no events. -/
def freshD (s : Nat) (f : Nat → Int) : Dk := ⟨s, f, f, []⟩

set_option maxRecDepth 20000 in
set_option maxHeartbeats 1000000 in
theorem holding_any (base g1 c1 s : Nat) (f : Nat → Int) (w : World) (h : w.ownsRow base 5 1 (.slice (some ⟨g1, 0, none⟩) (s * 256) c1) (s * 256) (byts f (s * 256))) (h0 : 1 ≤ s) (h1 : s ≤ 2048) (hf : ∀ i, 0 ≤ f i ∧ f i < 256) (hbase : base ≤ w.heap.size) :
    Calls Try.prog 29 #[.slice (some ⟨g1, 0, none⟩) (s * 256) c1] w fun e w' => ∃ g g2 c2, e = .returned (.pointer (some ⟨g, 0, none⟩)) ∧ DiskAt w' base g g1 c1 g2 c2 (.slice none 0 0) (freshD s f) ∧ Below w.heap.size w w' := by
  have hB : Bs w (some ⟨g1, 0, none⟩) g1 0 (s * 256) f := ⟨fun _ => rfl, fun i hi => by rw [Nat.zero_add, h.cellAt i (by omega), byts_at _ _ _ hi], hf⟩
  have HC := clone_any g1 0 (s * 256) c1 f w hB (by omega) (by omega)
  have hlt : g1 < w.heap.size := by obtain ⟨_, _, _, _, cur, hr, _⟩ := ownsRow_slice h; exact hr.lt
  clear hB
  have HH : Hid _ := h
  have HF : Hid _ := hf
  clear h hf
  obtain ⟨m, hm⟩ : ∃ m, m = s * 256 := ⟨_, rfl⟩
  rw [← hm] at HC ⊢
  have HM : Hid _ := hm
  clear hm
  go_enter Try.func29, Try.ntmps29
  go_wp2_with fail
  refine HC.mono ?_
  rintro e w1 ⟨g2, c2, rfl, own2, hb⟩
  clear HC
  have HO : Hid _ := own2
  clear own2
  go_wp2
  go_ret
  have hs := hb.size
  obtain rfl := HM.out
  obtain ⟨o1, _, _, _, cur, o2, _⟩ := ownsRow_slice HO.out
  refine ⟨w1.heap.size, g2, c2, rfl, ⟨Row.new w1 _ 64, ownsRow_below (ownsRow_below HH.out hb) ((Below.refl _ _).alloc (Nat.le_refl _) _), ?_, ⟨rfl, .inl ⟨rfl, rfl⟩⟩, by omega, by omega, ⟨h0, h1, HF.out, HF.out, fun e he => by cases he⟩⟩, hb.alloc hs _⟩
  exact ownsRow_base (ownsRow_below HO.out ((Below.refl _ _).alloc (Nat.le_refl _) _)) hbase

set_option maxRecDepth 20000 in
set_option maxHeartbeats 1000000 in
theorem new_ok (s : Nat) (w : World) (h0 : 1 ≤ s) (h1 : s ≤ 2048) :
    Calls Try.prog 7 #[.int .i64 s] w fun e w' => ∃ g g1 c1 g2 c2, e = .returned (.tuple #[.pointer (some ⟨g, 0, none⟩), .int .i64 0]) ∧ DiskAt w' w.heap.size g g1 c1 g2 c2 (.slice none 0 0) (freshD s fun _ => 0) ∧ Below w.heap.size w w' := by
  have hmk := run_make_row' (P := Try.prog) 40 5 (.int .u8 0) 1 Try.underlying40 Try.info5 rfl .i64 .i64 (s * 256) (by omega) (by omega) w
  have hR := Row.new w (madeCells #[.int .u8 0] (s * 256)) 5
  have own1 : (w.alloc (.cells (madeCells #[.int .u8 0] (s * 256)) 5)).ownsRow w.heap.size 5 1 (.slice (some ⟨w.heap.size, 0, none⟩) (s * 256) (s * 256)) (s * 256) (byts (fun _ => 0) (s * 256)) := by
    have h := World.ownsRow_lit (base := w.heap.size) (e := 5) (size := 1) w (madeCells #[.int .u8 0] (s * 256)) (s * 256) (Nat.le_refl _) (by unfold maxLen; omega) (by rw [size_madeCells]; omega)
    rw [made_byts] at h
    exact h
  have HH := holding_any w.heap.size w.heap.size (s * 256) s (fun _ => 0) _ own1 h0 h1 (fun _ => by decide) (by simp)
  have hb0 : Below w.heap.size w (w.alloc (.cells (madeCells #[.int .u8 0] (s * 256)) 5)) := (Below.refl _ _).alloc (Nat.le_refl _) _
  clear own1 hR
  rw [Int.natCast_mul, show ((256 : Nat) : Int) = 256 from rfl] at hmk
  generalize madeCells #[.int .u8 0] (s * 256) = Z at *
  have HH' : Hid _ := HH
  clear HH
  go_enter Try.func7, Try.ntmps7
  go_wp2_with fail
  refine Calls.mono HH'.out ?_
  rintro e w1 ⟨g, g2, c2, rfl, hD, hb⟩
  have HD : Hid _ := hD
  clear hD hmk
  go_wp2
  go_ret2
  exact ⟨g, _, _, g2, c2, rfl, HD.out, hb0.trans (hb.mono (by simp))⟩

theorem new_bad (s : Int) (w : World) (h : s < 1 ∨ 2048 < s) : Calls Try.prog 7 #[.int .i64 s] w fun e w' => e = .returned (.tuple #[.pointer none, .int .i64 2]) ∧ w' = w := by
  by_cases h1 : s < 1
  · clear h
    go_enter Try.func7, Try.ntmps7
    go_wp2
    go_ret2
    exact ⟨rfl, rfl⟩
  · have h2 : 2048 < s := by omega
    clear h
    go_enter Try.func7, Try.ntmps7
    go_wp2
    go_ret2
    exact ⟨rfl, rfl⟩

set_option maxRecDepth 20000 in
set_option maxHeartbeats 1000000 in
theorem events_yes {w : World} {base g g1 c1 g2 c2 : Nat} {ev : Value} {D : Dk} (hD : DiskAt w base g g1 c1 g2 c2 ev D) :
    Calls Try.prog 26 #[.pointer (some ⟨g, 0, none⟩)] w fun e w' => e = .returned (.int .i64 D.E.length) ∧ w' = w := by
  have H := made_yes g g2 (D.s * 256) c2 w hD.cell1 (by have := hD.ok.lo; omega)
  have hc := hD.cell2
  obtain ⟨a, c, rfl⟩ : ∃ a c, ev = .slice a D.E.length c := by
    obtain ⟨_, ⟨h1, h2⟩ | ⟨g', c', cur, h1, _⟩⟩ := hD.evs
    · exact ⟨none, 0, by rw [h1, h2]⟩
    · exact ⟨_, _, h1⟩
  generalize D.E.length = n at *
  clear hD
  go_enter Try.func26, Try.ntmps26
  go_wp2_with fail
  refine H.mono ?_
  rintro e w' ⟨rfl, rfl⟩
  go_wp2
  go_ret
  exact ⟨rfl, rfl⟩

set_option maxRecDepth 20000 in
set_option maxHeartbeats 1000000 in
theorem read_ok {w : World} {base g g1 c1 g2 c2 : Nat} {ev : Value} {D : Dk} (hD : DiskAt w base g g1 c1 g2 c2 ev D) (n : Nat) (hn : n < D.s) :
    Calls Try.prog 28 #[.pointer (some ⟨g, 0, none⟩), .int .i64 n] w fun e w' => e = .returned (.tuple #[.slice (some ⟨w.heap.size, 0, none⟩) 256 256, .int .i64 0]) ∧ w' = w.alloc (.cells (byts (fun i => D.B (n * 256 + i)) 256).toArray 5) := by
  have h0 := hD.ok.lo
  have h1 := hD.ok.hi
  have H := made_yes g g2 (D.s * 256) c2 w hD.cell1 (by omega)
  have HH := has_any g g2 D.s c2 n w hD.cell1 h0 h1
  rw [show decide (0 ≤ (n : Int) ∧ (n : Int) < D.s) = true by simp; omega] at HH
  obtain ⟨_, _, hmc, hc63, _⟩ := ownsRow_slice hD.now
  have hmk := run_make_row' (P := Try.prog) 40 5 (.int .u8 0) 1 Try.underlying40 Try.info5 rfl .i64 .i64 256 (by omega) (by omega) w
  simp only [show ((256 : Nat) : Int) = 256 from rfl] at hmk
  have hZ := size_madeCells #[.int .u8 0] 256
  generalize madeCells #[.int .u8 0] 256 = Z at *
  have HS := sectorOf_any g2 (D.s * 256) n c2 (w.alloc (.cells Z 5)) (by omega) hmc hc63
  have hc : (w.alloc (.cells Z 5)).cell? ⟨g, 1, none⟩ = some (.slice (some ⟨g2, 0, none⟩) (D.s * 256) c2) := (hD.below ((Below.refl _ _).alloc (Nat.le_refl _) _) (Nat.le_refl _)).cell1
  have hlen := byts_len (fun i => D.B (n * 256 + i)) 256
  have hcp := run_copy_row (P := Try.prog) (w.alloc (.cells Z 5)) 40 40 3 5 w.heap.size 0 256 256 ⟨g2, n * 256, none⟩ 256 256 Z 5 (byts (fun i => D.B (n * 256 + i)) 256) Try.underlying40 info5s (heap_alloc_new w _) (by rw [hlen]; rfl) (fun j v hj => by
    have hj' : j < 256 := by rw [← hlen]; exact (List.getElem?_eq_some_iff.1 hj).1
    rw [Addr.add_mid, (hD.below ((Below.refl _ _).alloc (Nat.le_refl _) _) (Nat.le_refl _)).byte (n * 256 + j) (by omega), ← hj, byts_at _ _ _ hj']) (by rw [hlen, hZ]; omega) (byts_one _ _)
  rw [World.setRow_alloc_new, List.drop_eq_nil_of_le (by rw [hlen]; simp [hZ]), hlen] at hcp
  simp only [List.take_zero, List.nil_append, List.append_nil] at hcp
  generalize byts (fun i => D.B (n * 256 + i)) 256 = L at *
  generalize D.s * 256 = m at *
  clear hlen hZ hD h0 h1 hn hmc hc63
  go_enter Try.func28, Try.ntmps28
  go_wp2_with fail
  refine H.mono ?_
  rintro e w' ⟨rfl, rfl⟩
  go_wp2_with fail
  refine HH.mono ?_
  rintro e w' ⟨rfl, rfl⟩
  go_wp2_with fail
  refine HS.mono ?_
  rintro e w' ⟨rfl, rfl⟩
  go_wp2
  go_ret2
  exact ⟨rfl, rfl⟩

theorem read_bad {w : World} {base g g1 c1 g2 c2 : Nat} {ev : Value} {D : Dk} (hD : DiskAt w base g g1 c1 g2 c2 ev D) (n : Int) (hn : ¬ (0 ≤ n ∧ n < D.s)) :
    Calls Try.prog 28 #[.pointer (some ⟨g, 0, none⟩), .int .i64 n] w fun e w' => e = .returned (.tuple #[.slice none 0 0, .int .i64 2]) ∧ w' = w := by
  have h0 := hD.ok.lo
  have h1 := hD.ok.hi
  have H := made_yes g g2 (D.s * 256) c2 w hD.cell1 (by omega)
  have HH := has_any g g2 D.s c2 n w hD.cell1 h0 h1
  rw [show decide (0 ≤ n ∧ n < D.s) = false by simpa using hn] at HH
  clear hD hn h0 h1
  go_enter Try.func28, Try.ntmps28
  go_wp2_with fail
  refine H.mono ?_
  rintro e w' ⟨rfl, rfl⟩
  go_wp2_with fail
  refine HH.mono ?_
  rintro e w' ⟨rfl, rfl⟩
  go_wp2
  go_ret2
  exact ⟨rfl, rfl⟩
end Go.Proofs.Ytlbapnecmhlgmaa
namespace Go.Proofs.Ytlbapnecmhlgmaa
open Go.RowKit Go.Great

def evA (e : Ev) : Array Value := e.cells.toArray
theorem evA_size (e : Ev) : (evA e).size = 257 := by simp [evA, Ev.cells_len]
theorem evA_one (e : Ev) : (evA e).all (·.oneCell') = true := all_oneCell_toArray (Ev.cells_one e)
def zeroEv : Ev := ⟨0, fun _ => 0⟩
theorem info65 : (Try.prog.info? 95).map (fun i => (i.zero, i.size)) = some (some (.agg (evA zeroEv)), 257) := by kernel_rfl
theorem info65b : (Try.prog.info? 95).map (fun i => (i.zero, i.size, i.bytes)) = some (some (.agg (evA zeroEv)), 257, 264) := by kernel_rfl
theorem info65s : (Try.prog.info? 95).map (·.size) = some 257 := by kernel_rfl
theorem built_flush : Try.prog.built 95 [(0, .int .i64 (-1))] = some (evA flushEv) := by kernel_rfl

theorem places65 : (match Try.prog.underlying 95 with | some (.struct fields) => fields.toList.mapM (fun f => (Try.prog.info? f.type).map fun i => (f.offset, i.size)) | _ => none) = some [(0, 1), (1, 256)] := by kernel_rfl
set_option maxRecDepth 20000 in
theorem built_write (n : Int) (f : Nat → Int) : Try.prog.built 95 [(0, .int .i64 n), (1, .agg (byts f 256).toArray)] = some (evA ⟨n, f⟩) := by
  obtain ⟨i0, hi, hzz⟩ := Option.map_eq_some_iff.1 info65
  simp only [Prod.mk.injEq] at hzz
  have hp := places65
  unfold Program.built
  rw [hi]
  rw [Try.underlying95] at hp ⊢
  simp only [hzz.1, hp]
  have hz : (Value.agg (evA zeroEv)).cells.size = 257 := evA_size _
  have hb : (Value.agg (byts f 256).toArray).cells.size = 256 := by simp [Value.cells, byts_len]
  generalize hZ : (Value.agg (evA zeroEv)).cells = Z at *
  have hc0 : (Value.int IntKind.i64 n).cells = #[.int .i64 n] := rfl
  simp only [Instr.fill, hc0, List.size_toArray, List.length_cons, List.length_nil, hz]
  simp only [show (#[(0, 1), (1, 256)] : Array (Nat × Nat))[0]? = some (0, 1) from rfl, show (#[(0, 1), (1, 256)] : Array (Nat × Nat))[1]? = some (1, 256) from rfl]
  simp only [hb]
  have e1 : (#[Value.int IntKind.i64 n].zipIdx.foldl (fun cs (x : Value × Nat) => cs.setIfInBounds (0 + x.2) x.1) Z) = Z.setIfInBounds 0 (.int .i64 n) := by simp
  simp only [e1, Array.size_setIfInBounds, hz]
  rw [if_neg (by simp), if_neg (by simp)]
  have hA : (Value.agg (byts f 256).toArray).cells = (byts f 256).toArray := rfl
  rw [hA]
  have hf := foldl_set 1 (byts f 256) 0 (Z.setIfInBounds 0 (.int .i64 n))
  simp only [Array.size_setIfInBounds, hz, byts_len] at hf
  have hcv : ((byts f 256).toArray.zipIdx.foldl (fun cs (x : Value × Nat) => cs.setIfInBounds (1 + x.2) x.1) (Z.setIfInBounds 0 (.int .i64 n))) = (((byts f 256).zipIdx 0).foldl (fun cs (x : Value × Nat) => cs.setIfInBounds (1 + x.2) x.1) (Z.setIfInBounds 0 (.int .i64 n))) := by
    rw [← Array.foldl_toList]
    simp
  rw [hcv]
  refine congrArg some ?_
  apply Array.ext_getElem?
  intro k
  rw [hf.2 k]
  have he : (evA ⟨n, f⟩)[k]? = (Ev.cells ⟨n, f⟩)[k]? := by simp [evA]
  rw [he]
  cases k with
  | zero =>
    rw [if_neg (by omega)]
    simp [Ev.cells, hz]
  | succ k =>
    simp only [Ev.cells, List.getElem?_cons_succ]
    by_cases hk : k < 256
    · rw [if_pos (by omega), show k + 1 - (1 + 0) = k by omega]
    · rw [if_neg (by omega), List.getElem?_eq_none (by rw [byts_len]; omega), Array.getElem?_eq_none (by simp [hz]; omega)]

/-- One event as a slice of its own. -/
theorem one_event (e : Ev) (w : World) : (Instr.buildSlice 62 1 #[(0, .agg (evA e))]).run Try.prog w = .ok (.slice (some ⟨w.heap.size, 0, none⟩) 1 1) (w.alloc (.cells (evA e) 95)) := by
  obtain ⟨i0, hi, hzz⟩ := Option.map_eq_some_iff.1 info65
  simp only [Prod.mk.injEq] at hzz
  refine run_buildSlice w 62 95 1 _ _ i0 _ Try.underlying62 hi hzz.1 (by rw [hzz.2]; decide) (by rw [hzz.2]; decide) ?_
  have h := fill_whole (s := 257) (by decide) [.agg (evA e)] ((Array.range (1 * i0.size)).map ((Value.agg (evA zeroEv)).cells[· % (Value.agg (evA zeroEv)).cells.size]!)) (fun v hv => by simp at hv; subst hv; exact evA_size e) (by simp [hzz.2])
  rw [hzz.2] at h ⊢
  simpa [Value.cells] using h

section
variable {ops : Array Oper} {rest : List Oper} {o : Oper} {a : Act} {w : World} {Q : Exit → Act → World → Prop}
theorem wpList_build (hgd : o.guard = none) (t : TypeId) (ps : Array (Nat × Operand)) (ho : o.op = .build t ps) (parts : Array (Nat × Value)) (hp : (ps.map fun x => (x.1, a.eval x.2)) = parts) (C : Array Value) (hb : Try.prog.built t parts.toList = some C)
    (k : wpList Try.prog ops Q rest (a.put o.dst (.agg C)) w) : wpList Try.prog ops Q (o :: rest) a w :=
  wpList_plain hgd fun K hK => by
    subst hp
    unfold Oper.wp execOp
    simp only [ho, Sem.run_bind, run_build (P := Try.prog) w t _ C hb, Result.andThen_ok]
    exact hK _ _ k
end

theorem results26 : Try.f58.results = #[.cell 0 95] := by kernel_rfl

set_option maxRecDepth 20000 in
set_option maxHeartbeats 1000000 in
theorem flush_any (w : World) : Calls Try.prog 58 #[] w fun e w' => e = .returned (.agg (evA flushEv)) ∧ w' = w.alloc (.cells (evA flushEv) 95) := by
  have hz := (zero_of_info info65).1
  have hbl := built_flush
  have hs := evA_size flushEv
  have hone := evA_one flushEv
  have hz0 := evA_size zeroEv
  generalize evA flushEv = A at *
  generalize evA zeroEv = Z at *
  have hi : (Try.prog.info? 95).map (·.size) = some A.size := by rw [hs]; exact info65s
  have HB : Hid _ := hbl
  clear hbl
  go_enter Try.func58, Try.ntmps58
  go_wp2_with (first
    | refine wpList_build rfl 95 _ rfl #[(0, .int .i64 (-1))] (by simp only [List.map_toArray, List.map_cons, List.map_nil]; rfl) A HB.out ?_
    | (refine wpList_store_row rfl 95 _ _ rfl w.heap.size A rfl rfl 95 Z (Row.new w Z 95) hi (hz0.trans hs.symm) hone ?_; rw [World.setRow_alloc_new]))
  refine bodyPost_ret (results_cell_row results26 _ _ w.heap.size 95 _ (0, 0) _ rfl (Row.new w A 95) Try.underlying95 rfl hi) rfl ⟨rfl, rfl⟩
end Go.Proofs.Ytlbapnecmhlgmaa
namespace Go.Proofs.Ytlbapnecmhlgmaa
open Go.RowKit

/-- Of the blocks that were there only g, g2 and the events' have changed. -/
structure Chg (g g2 : Nat) (ev : Value) (w w' : World) : Prop where
  os : w'.os = w.os
  tape : w'.tape = w.tape
  output : w'.output = w.output
  size : w.heap.size ≤ w'.heap.size
  block : ∀ k, k < w.heap.size → k ≠ g → k ≠ g2 → ev.ownBlock ≠ some k → w'.heap[k]? = w.heap[k]?
theorem Chg.refl (g g2 : Nat) (ev : Value) (w : World) : Chg g g2 ev w w := ⟨rfl, rfl, rfl, Nat.le_refl _, fun _ _ _ _ _ => rfl⟩
theorem Chg.trans {g g2 : Nat} {ev : Value} {a b c : World} (h : Chg g g2 ev a b) (k : Chg g g2 ev b c) : Chg g g2 ev a c :=
  ⟨k.os.trans h.os, k.tape.trans h.tape, k.output.trans h.output, Nat.le_trans h.size k.size, fun i hi h1 h2 h3 => (k.block i (Nat.lt_of_lt_of_le hi h.size) h1 h2 h3).trans (h.block i hi h1 h2 h3)⟩
theorem Chg.of_below {g g2 : Nat} {ev : Value} {w w' : World} (h : Below w.heap.size w w') : Chg g g2 ev w w' := ⟨h.os, h.tape, h.output, h.size, fun k hk _ _ _ => h.block k hk⟩
theorem Chg.of_grown {g g2 : Nat} {ev : Value} {w w' : World} (h : w.grownBy w' ev.ownBlock) : Chg g g2 ev w w' := ⟨h.os, h.tape, h.output, h.size, fun k hk _ _ h3 => h.block k hk (fun e => h3 e.symm)⟩
theorem Chg.of_setCell {g g2 : Nat} {ev : Value} (w : World) (i : Nat) (v : Value) : Chg g g2 ev w (w.setCell ⟨g, i, none⟩ v) := ⟨rfl, rfl, rfl, by simp [World.setCell], fun k _ h1 _ _ => Below.heap_setCell _ _ _ _ h1⟩
theorem Chg.of_setRow {g g2 : Nat} {ev : Value} (w : World) (C : Array Value) : Chg g g2 ev w (w.setRow g2 C) := ⟨rfl, rfl, rfl, by simp [World.setRow], fun k _ _ h2 _ => setRow_other w g2 k C h2⟩
theorem Chg.to_below {g g2 base : Nat} {ev : Value} {w w' : World} (h : Chg g g2 ev w w') (h1 : base ≤ g) (h2 : base ≤ g2) (h3 : ∀ k, ev.ownBlock = some k → base ≤ k) (hB : base ≤ w.heap.size) : Below base w w' :=
  ⟨h.os, h.tape, h.output, h.size, fun k hk => h.block k (by omega) (by omega) (by omega) (fun e => by have := h3 k e; omega)⟩
theorem DiskAt.chg {w w' : World} {base g g1 c1 g2 c2 : Nat} {ev : Value} {D : Dk} (h : DiskAt w base g g1 c1 g2 c2 ev D) (hc : Chg g g2 ev w w') (hB : base ≤ w.heap.size) : Below base w w' :=
  hc.to_below h.ge (ownsRow_slice h.now).1 (fun k hk => (ownsRow_lt h.evs k hk).2.1) hB
theorem Row.chg {w w' : World} {g g2 k : Nat} {ev : Value} {C : Array Value} {t : TypeId} {base g1 c1 c2 : Nat} {D : Dk} (h : Row w k C t) (hD : DiskAt w base g g1 c1 g2 c2 ev D) (hc : Chg g g2 ev w w') (h45 : t ≠ 64) (h65 : t ≠ 95) (h5 : t = 5 → k ≠ g2) : Row w' k C t := by
  refine (hc.block k h.lt (fun e => ?_) (fun e => ?_) (fun e => ?_)).trans h
  · subst e
    have := hD.row.symm.trans h
    simp at this
    exact h45 this.2.symm
  · by_cases ht : t = 5
    · exact h5 ht e
    · subst e
      obtain ⟨_, _, _, _, cur, hr, _⟩ := ownsRow_slice hD.now
      have := hr.symm.trans h
      simp at this
      exact ht this.2.symm
  · obtain ⟨_, _, cur, hr⟩ := ownsRow_lt hD.evs k e
    have := hr.symm.trans h
    simp at this
    exact h65 this.2.symm

def Dk.flush (D : Dk) : Dk := { D with E := D.E ++ [flushEv] }
def over (B : Nat → Int) (n : Nat) (f : Nat → Int) (i : Nat) : Int := if n * 256 ≤ i ∧ i < n * 256 + 256 then f (i - n * 256) else B i
def Dk.write (D : Dk) (n : Nat) (f : Nat → Int) : Dk := { D with B := over D.B n f, E := D.E ++ [⟨n, f⟩] }

section
variable {P : Program} {ops : Array Oper} {S : World → Prop} {Q : Act → World → Prop} {a : Act} {w : World} {o : Oper} {i : Nat} {fs : List (Bool × Nat)}
theorem p_buildSlice (d : Option Tmp) (t : TypeId) (len : Nat) (ps : Array (Nat × Operand)) (parts : Array (Nat × Value)) (v : Value) (w' : World) (hi : ops[i]? = some o) (hd : o.dst = d) (ho : o.op = .buildSlice t len ps) (hw : Region.wanted o (yielded ops a.tmps) = true)
    (hp : (ps.map fun x => (x.1, a.eval x.2)) = parts) (hr : (Instr.buildSlice t len parts).run P w = .ok v w') (hS : fs ≠ [] → S w') (k : wpPerm P ops S Q fs (a.put d v) w') : wpPerm P ops S Q ((true, i) :: fs) a w :=
  p_alone d v w' hi hd hw (by unfold execOp; subst hp; simp only [ho, Sem.run_bind, hr, Result.andThen_ok]; rfl) hS k
theorem p_build (d : Option Tmp) (t : TypeId) (ps : Array (Nat × Operand)) (parts : Array (Nat × Value)) (C : Array Value) (hi : ops[i]? = some o) (hd : o.dst = d) (ho : o.op = .build t ps) (hw : Region.wanted o (yielded ops a.tmps) = true)
    (hp : (ps.map fun x => (x.1, a.eval x.2)) = parts) (hb : P.built t parts.toList = some C) (k : wpPerm P ops S Q fs (a.put d (.agg C)) w) : wpPerm P ops S Q ((false, i) :: fs) a w :=
  p_value d (.agg C) hi hd hw (fun w _ => by unfold execOp; subst hp; simp only [ho, Sem.run_bind, run_build (P := P) w t _ C hb, Result.andThen_ok]; rfl) k
end

/-- The events one longer, laid into the disk's block: the disk with one event more. -/
theorem DiskAt.more {w w2 : World} {base g g1 c1 g2 c2 : Nat} {ev ev' : Value} {D : Dk} (e : Ev) (hD : DiskAt w base g g1 c1 g2 c2 ev D) (he : e.ok D.s) (hc : Chg w.heap.size w.heap.size ev w w2) (hown : w2.ownsRow base 95 257 ev' (D.E.length + 1) (evCells D.E ++ e.cells)) :
    DiskAt (w2.setCell ⟨g, 2, none⟩ ev') base g g1 c1 g2 c2 ev' { D with E := D.E ++ [e] } := by
  have l0 := hD.row.lt
  have l1 := hD.lt1
  have l2 := hD.lt2
  have ty : ∀ k cur, Row w k cur 5 ∨ Row w k cur 64 → ev.ownBlock ≠ some k := fun k cur h hq => by
    obtain ⟨_, _, cur', hr⟩ := ownsRow_lt hD.evs k hq
    rcases h with h | h <;> (have := hr.symm.trans h; simp at this)
  obtain ⟨_, _, _, _, cu1, r1, _⟩ := ownsRow_slice hD.first
  obtain ⟨_, _, _, _, cu2, r2, _⟩ := ownsRow_slice hD.now
  have k0 : w2.heap[g]? = w.heap[g]? := hc.block g l0 (by omega) (by omega) (ty g _ (.inr hD.row))
  have k1 : w2.heap[g1]? = w.heap[g1]? := hc.block g1 l1 (by omega) (by omega) (ty g1 _ (.inl r1))
  have k2 : w2.heap[g2]? = w.heap[g2]? := hc.block g2 l2 (by omega) (by omega) (ty g2 _ (.inl r2))
  have hrow : Row w2 g _ 64 := k0.trans hD.row
  have n1 : g1 ≠ g := fun e => by subst e; have := r1.symm.trans hD.row; simp at this
  have n2 : g2 ≠ g := fun e => by subst e; have := r2.symm.trans hD.row; simp at this
  refine ⟨(hrow.setCell (i := 2) ev').trans (by simp), ownsRow_keep hD.first (fun k hk _ => ?_), ownsRow_keep hD.now (fun k hk _ => ?_), ?_, hD.ge, hD.ne, ⟨hD.ok.lo, hD.ok.hi, hD.ok.F, hD.ok.B, fun x hx => ?_⟩⟩
  · obtain rfl : g1 = k := by simpa [Value.ownBlock] using hk
    exact (Below.heap_setCell _ _ _ _ n1).trans k1
  · obtain rfl : g2 = k := by simpa [Value.ownBlock] using hk
    exact (Below.heap_setCell _ _ _ _ n2).trans k2
  · have h := ownsRow_keep (w' := w2.setCell ⟨g, 2, none⟩ ev') hown (fun k hk _ => by
      refine Below.heap_setCell _ _ _ _ (fun e => ?_)
      have e' : k = g := e
      subst e'
      obtain ⟨_, _, cur', hr⟩ := ownsRow_lt hown k hk
      have := hr.symm.trans hrow
      simp at this)
    rw [evCells_snoc]
    simpa using h
  · rcases List.mem_append.1 hx with h | h
    · exact hD.ok.E x h
    · simp at h
      subst h
      exact he

set_option maxRecDepth 20000 in
set_option maxHeartbeats 2000000 in
theorem flush_ok {w : World} {base g g1 c1 g2 c2 : Nat} {ev : Value} {D : Dk} (hD : DiskAt w base g g1 c1 g2 c2 ev D) (hbase : base ≤ w.heap.size) (hlen : D.E.length ≤ 1000000) :
    Calls Try.prog 41 #[.pointer (some ⟨g, 0, none⟩)] w fun e w' => e = .returned (.int .i64 0) ∧ ∃ ev', DiskAt w' base g g1 c1 g2 c2 ev' D.flush ∧ Chg g g2 ev w w' := by
  have H := made_yes g g2 (D.s * 256) c2 w hD.cell1 (by have := hD.ok.lo; omega)
  obtain ⟨i0, hi, hz0, hz1, hz2⟩ := info_parts info65b
  have hR := hD.row
  have hevs := hD.evs
  have HD : Hid _ := hD
  clear hD
  have hevA : evA flushEv = flushEv.cells.toArray := rfl
  obtain ⟨n, hn⟩ : ∃ n, n = D.E.length := ⟨_, rfl⟩
  rw [← hn] at hlen
  have HN : Hid _ := hn
  clear hn
  obtain ⟨R, hRr⟩ : ∃ R, R = #[Value.slice (some ⟨g1, 0, none⟩) (D.s * 256) c1, .slice (some ⟨g2, 0, none⟩) (D.s * 256) c2, ev] := ⟨_, rfl⟩
  have hR2 : R[2]? = some ev := by rw [hRr]; rfl
  rw [← hRr] at hR
  have hone : ∀ w, (Instr.buildSlice 62 1 #[(0, .agg (evA flushEv))]).run Try.prog w = .ok (.slice (some ⟨w.heap.size, 0, none⟩) 1 1) (w.alloc (.cells (evA flushEv) 95)) := one_event flushEv
  have HO : Hid _ := hone
  clear hone hevA hRr
  go_enter Try.func41, Try.ntmps41
  go_wp2_with fail
  refine H.mono ?_
  rintro e w' ⟨rfl, hw'⟩
  subst w'
  clear H
  go_wp2_with fail
  refine wp_region_perm [(false, 0), (false, 1), (false, 2), (false, 3), (false, 4), (true, 5), (true, 6), (true, 7), (true, 8), (true, 9), (true, 10)] (fun wx => Row wx g R 64) (by kernel_rfl) (by kernel_rfl) hR ?_
  refine p_move (some 6) _ rfl rfl rfl (by rfl) ?_
  simp only [Act.put, List.setIfInBounds_toArray, List.set_cons_zero, List.set_cons_succ]
  refine p_move (some 7) _ rfl rfl rfl (by rfl) ?_
  simp only [Act.put, List.setIfInBounds_toArray, List.set_cons_zero, List.set_cons_succ]
  refine p_value (some 8) ?_ rfl rfl (by rfl) (fun w hw => ?_) ?_
  rotate_left
  · go_simp
    with_reducible rfl
  simp only [Act.put, List.setIfInBounds_toArray, List.set_cons_zero, List.set_cons_succ]
  refine p_value (some 9) ?_ rfl rfl (by rfl) (fun w hw => ?_) ?_
  rotate_left
  · go_simp
    with_reducible rfl
  simp only [Act.put, List.setIfInBounds_toArray, List.set_cons_zero, List.set_cons_succ]
  refine p_value (some 10) ?_ rfl rfl (by rfl) (fun w hw => ?_) ?_
  rotate_left
  · have hc := (hw.cell 2).trans hR2
    go_simp
    with_reducible rfl
  simp only [Act.put, List.setIfInBounds_toArray, List.set_cons_zero, List.set_cons_succ]
  refine p_call (some 11) rfl rfl (by rfl) 58 #[] (by go_simp) ((flush_any _).mono fun e w' ⟨he, hw'⟩ => ⟨_, he, fun _ => by rw [hw']; exact hR.alloc _, ?_⟩)
  subst hw'
  simp only [Act.put, List.setIfInBounds_toArray, List.set_cons_zero, List.set_cons_succ]
  refine p_buildSlice (some 12) 62 1 _ #[(0, .agg (evA flushEv))] _ _ rfl rfl rfl (by rfl) (by simp only [List.map_toArray, List.map_cons, List.map_nil]; rfl) (HO.out _) (fun _ => (hR.alloc _).alloc _) ?_
  simp only [Act.put, List.setIfInBounds_toArray, List.set_cons_zero, List.set_cons_succ]
  have hb1 : Below w.heap.size w ((w.drew.alloc (.cells (evA flushEv) 95)).alloc (.cells (evA flushEv) 95)) := (((Below.refl _ _).drew).alloc (Nat.le_refl _) _).alloc (by simp) _
  have hev1 : ((w.drew.alloc (.cells (evA flushEv) 95)).alloc (.cells (evA flushEv) 95)).ownsRow base 95 257 ev D.E.length (evCells D.E) := ownsRow_below hevs hb1
  have hR1 : Row ((w.drew.alloc (.cells (evA flushEv) 95)).alloc (.cells (evA flushEv) 95)) g R 64 := (hR.alloc _).alloc _
  have hnew : ∀ j u, flushEv.cells[j]? = some u → ((w.drew.alloc (.cells (evA flushEv) 95)).alloc (.cells (evA flushEv) 95)).cell? ((⟨(w.drew.alloc (.cells (evA flushEv) 95)).heap.size, 0, none⟩ : Addr).add j) = some u := fun j u hj => by
    rw [Addr.add_mid, Nat.zero_add, (Row.new (w.drew.alloc (.cells (evA flushEv) 95)) (evA flushEv) 95).cell j]
    simpa [evA] using hj
  refine p_wp rfl (by rfl) ?_
  refine wp_append_own_wide _ (.tmp 10) (.tmp 12) 62 rfl base 95 i0 (.agg (evA zeroEv)) 257 264 Try.underlying62 hi hz0 hz1 hz2 (evA_size _) (by decide) ev D.E.length (evCells D.E) rfl hev1 _ 1 1 flushEv.cells rfl (by rw [Ev.cells_len]) hnew (Ev.cells_one _) (by rw [← HN.out]; unfold maxLen; omega) (by rw [← HN.out]; omega) (by simp; omega) ?_
  intro ev' w3 hown hgr _
  have hc3 : Chg w.heap.size w.heap.size ev w w3 := (Chg.of_below hb1).trans (Chg.of_grown hgr)
  have hg0 : g < w.heap.size := hR.lt
  have hgev : ev.ownBlock ≠ some g := fun hq => by
    obtain ⟨_, _, cur', hr⟩ := ownsRow_lt hevs g hq
    have := hr.symm.trans hR
    simp at this
  have hR3 : Row w3 g R 64 := (hc3.block g hg0 (by omega) (by omega) hgev).trans hR
  refine ⟨fun _ => hR3, ?_⟩
  show wpPerm _ _ _ _ _ (Act.put _ (some 13) ev') w3
  have hc3' : Chg g g2 ev w w3 := (Chg.of_below hb1).trans (Chg.of_grown hgr)
  have hfin := HD.out.more flushEv ⟨fun _ => ⟨by show (0 : Int) ≤ 0; omega, by show (0 : Int) < 256; omega⟩, .inl rfl⟩ hc3 hown
  have HF : Hid _ := hfin
  obtain ⟨xv, cv, hev'⟩ : ∃ x c, ev' = .slice x (D.E.length + 1) c := by
    obtain ⟨_, ⟨_, h2⟩ | ⟨g', c', cur, h1, _⟩⟩ := hown
    · omega
    · exact ⟨_, _, h1⟩
  subst hev'
  have hcell := hR3.cell 2
  have hfz := hR3.frozen 2
  rw [hR2] at hcell
  clear hfin hown hgr hc3 hev1 hnew hb1 hR1
  simp only [Act.put, List.setIfInBounds_toArray, List.set_cons_zero, List.set_cons_succ]
  refine p_alone (some 14) (.pointer (some ⟨g, 0, none⟩)) w3 rfl rfl (by rfl) (by go_simp) (fun _ => hR3) ?_
  simp only [Act.put, List.setIfInBounds_toArray, List.set_cons_zero, List.set_cons_succ]
  refine p_alone (some 15) (.pointer (some ⟨g, 2, none⟩)) w3 rfl rfl (by rfl) (by go_simp) (fun _ => hR3) ?_
  simp only [Act.put, List.setIfInBounds_toArray, List.set_cons_zero, List.set_cons_succ]
  refine p_store (w3.setCell ⟨g, 2, none⟩ (.slice xv (D.E.length + 1) cv)) rfl rfl (by rfl) (by go_simp) (fun h => absurd rfl h) ?_
  refine p_done ?_
  simp only [Exit.then]
  go_wp2
  go_ret
  exact ⟨rfl, ⟨_, HF.out⟩, hc3'.trans (Chg.of_setCell _ _ _)⟩
end Go.Proofs.Ytlbapnecmhlgmaa
