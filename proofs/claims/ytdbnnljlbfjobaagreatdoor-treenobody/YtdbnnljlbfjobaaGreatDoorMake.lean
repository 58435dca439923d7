/- The walks of Clone, holding, New, Read and Events. -/
import Derived.Test.YtdbnnljlbfjobaaGreatDoorDisk
import Derived.Deep.OwnRows
import Derived.Laws.CopyRow
import Derived.Laws.Cover3
namespace Go.Proofs.YtdbnnljlbfjobaaGreatDoor
open Go.RowKit

theorem info5s : (Tryz.prog.info? 5).map (·.size) = some 1 := by kernel_rfl
theorem made_byts (n : Nat) : (madeCells #[.int .u8 0] n).toList = byts (fun _ => 0) n := by
  apply List.ext_getElem?
  intro i
  by_cases hi : i < n
  · rw [byts_at _ _ _ hi]
    simp [madeCells, hi, Nat.mod_one]
  · rw [List.getElem?_eq_none (by simpa [madeCells] using hi), List.getElem?_eq_none (by rw [byts_len]; omega)]

theorem slice_nil (x : Addr) (n c : Nat) (w : World) : (binOp .eql 31 (.slice (some x) n c) (.slice none 0 0)).run Tryz.prog w = .ok (.bool false) w := by
  unfold binOp
  simp only [Sem.run_bind, run_equal_slice_nil w 31 5 (some x) n c Tryz.underlying31, Result.andThen_ok]
  rfl
theorem ownsRow_base {w : World} {B B' n s : Nat} {e : TypeId} {v : Value} {xs : List Value} (h : w.ownsRow B e s v n xs) (hb : B' ≤ B) : w.ownsRow B' e s v n xs := by
  obtain ⟨h1, h2 | ⟨g, cap, cur, e1, e2, e3⟩⟩ := h
  · exact ⟨h1, .inl h2⟩
  · exact ⟨h1, .inr ⟨g, cap, cur, e1, by omega, e3⟩⟩

set_option maxRecDepth 20000 in
set_option maxHeartbeats 1000000 in
/-- A copy of bytes that are not nil. -/
theorem clone_any (b off len cap : Nat) (f : Nat → Int) (w : World) (hB : Bs w (some ⟨b, off, none⟩) b off len f) (hl : len ≤ 1048576) (h0 : 0 < len) :
    Calls Tryz.prog 62 #[.slice (some ⟨b, off, none⟩) len cap] w fun e w' => ∃ g c, e = .returned (.slice (some ⟨g, 0, none⟩) len c) ∧ w'.ownsRow w.heap.size 5 1 (.slice (some ⟨g, 0, none⟩) len c) len (byts f len) ∧ Below w.heap.size w w' := by
  have hb1 : Below w.heap.size w (w.alloc (.cells #[] 5)) := (Below.refl _ _).alloc (Nat.le_refl _) _
  have own0 : (w.alloc (.cells #[] 5)).ownsRow w.heap.size 5 1 (.slice (some ⟨w.heap.size, 0, none⟩) 0 0) 0 [] := World.ownsRow_lit (base := w.heap.size) (e := 5) (size := 1) w #[] 0 (Nat.le_refl _) (by decide) rfl
  have HBs : Hid _ := hB.belowAll hb1
  clear hB
  have hq := slice_nil ⟨b, off, none⟩ len cap w
  go_enter Tryz.func62, Tryz.ntmps62
  go_wp2_with (at_builtin; refine wpList_append_bytes rfl (.tmp 5) (.tmp 6) rfl w.heap.size _ 0 [] rfl own0 (some ⟨b, off, none⟩) b off len cap f rfl HBs.out (fun h => nomatch h) (by omega) (by simp) ?_)
  intro v1 w1 own1 grow1 ne1
  have hb2 : Below w.heap.size w w1 := own_grown own0 hb1 (by simp) grow1
  have own1' : w1.ownsRow w.heap.size 5 1 v1 len (byts f len) := by simpa using own1
  clear own1
  obtain ⟨g, c, rfl⟩ : ∃ g c, v1 = .slice (some ⟨g, 0, none⟩) len c := by
    obtain ⟨_, ⟨_, h2⟩ | ⟨g, c, cur, h1, _⟩⟩ := own1'
    · omega
    · exact ⟨g, c, h1⟩
  go_wp2
  go_ret
  exact ⟨g, c, rfl, own1', hb2⟩

/-- A new disk's state: these bytes, no events. -/
def freshD (s : Nat) (f : Nat → Int) : Dk := ⟨s, f, f, []⟩

set_option maxRecDepth 20000 in
set_option maxHeartbeats 1000000 in
theorem holding_any (base g1 c1 s : Nat) (f : Nat → Int) (w : World) (h : w.ownsRow base 5 1 (.slice (some ⟨g1, 0, none⟩) (s * 256) c1) (s * 256) (byts f (s * 256))) (h0 : 1 ≤ s) (h1 : s ≤ 2048) (hf : ∀ i, 0 ≤ f i ∧ f i < 256) (hbase : base ≤ w.heap.size) :
    Calls Tryz.prog 26 #[.slice (some ⟨g1, 0, none⟩) (s * 256) c1] w fun e w' => ∃ g g2 c2, e = .returned (.pointer (some ⟨g, 0, none⟩)) ∧ DiskAt w' base g g1 c1 g2 c2 (.slice none 0 0) (freshD s f) ∧ Below w.heap.size w w' := by
  have hB : Bs w (some ⟨g1, 0, none⟩) g1 0 (s * 256) f := ⟨fun _ => rfl, fun i hi => by rw [Nat.zero_add, h.cellAt i (by omega), byts_at _ _ _ hi], hf⟩
  have HC := clone_any g1 0 (s * 256) c1 f w hB (by omega) (by omega)
  have hlt : g1 < w.heap.size := by obtain ⟨_, _, _, _, cur, hr, _⟩ := ownsRow_slice h; exact hr.lt
  clear hB
  have HH : Hid _ := h
  have HF : Hid _ := hf
  clear h hf
  obtain ⟨m, hm⟩ : ∃ m, m = s * 256 := ⟨_, rfl⟩
  rw [← hm] at HC ⊢
  have HM : Hid _ := hm
  clear hm
  go_enter Tryz.func26, Tryz.ntmps26
  go_wp2_with fail
  refine HC.mono ?_
  rintro e w1 ⟨g2, c2, rfl, own2, hb⟩
  clear HC
  have HO : Hid _ := own2
  clear own2
  go_wp2
  go_ret
  have hs := hb.size
  obtain rfl := HM.out
  obtain ⟨o1, _, _, _, cur, o2, _⟩ := ownsRow_slice HO.out
  refine ⟨w1.heap.size, g2, c2, rfl, ⟨Row.new w1 _ 60, ownsRow_below (ownsRow_below HH.out hb) ((Below.refl _ _).alloc (Nat.le_refl _) _), ?_, ⟨rfl, .inl ⟨rfl, rfl⟩⟩, by omega, by omega, ⟨h0, h1, HF.out, HF.out, fun e he => by cases he⟩⟩, hb.alloc hs _⟩
  exact ownsRow_base (ownsRow_below HO.out ((Below.refl _ _).alloc (Nat.le_refl _) _)) hbase

set_option maxRecDepth 20000 in
set_option maxHeartbeats 1000000 in
theorem new_ok (s : Nat) (w : World) (h0 : 1 ≤ s) (h1 : s ≤ 2048) :
    Calls Tryz.prog 8 #[.int .i64 s] w fun e w' => ∃ g g1 c1 g2 c2, e = .returned (.tuple #[.pointer (some ⟨g, 0, none⟩), .int .i64 0]) ∧ DiskAt w' w.heap.size g g1 c1 g2 c2 (.slice none 0 0) (freshD s fun _ => 0) ∧ Below w.heap.size w w' := by
  have hmk := run_make_row' (P := Tryz.prog) 31 5 (.int .u8 0) 1 Tryz.underlying31 Tryz.info5 rfl .i64 .i64 (s * 256) (by omega) (by omega) w
  have hR := Row.new w (madeCells #[.int .u8 0] (s * 256)) 5
  have own1 : (w.alloc (.cells (madeCells #[.int .u8 0] (s * 256)) 5)).ownsRow w.heap.size 5 1 (.slice (some ⟨w.heap.size, 0, none⟩) (s * 256) (s * 256)) (s * 256) (byts (fun _ => 0) (s * 256)) := by
    have h := World.ownsRow_lit (base := w.heap.size) (e := 5) (size := 1) w (madeCells #[.int .u8 0] (s * 256)) (s * 256) (Nat.le_refl _) (by unfold maxLen; omega) (by rw [size_madeCells]; omega)
    rw [made_byts] at h
    exact h
  have HH := holding_any w.heap.size w.heap.size (s * 256) s (fun _ => 0) _ own1 h0 h1 (fun _ => by decide) (by simp)
  have hb0 : Below w.heap.size w (w.alloc (.cells (madeCells #[.int .u8 0] (s * 256)) 5)) := (Below.refl _ _).alloc (Nat.le_refl _) _
  clear own1 hR
  rw [Int.natCast_mul, show ((256 : Nat) : Int) = 256 from rfl] at hmk
  generalize madeCells #[.int .u8 0] (s * 256) = Z at *
  have HH' : Hid _ := HH
  clear HH
  go_enter Tryz.func8, Tryz.ntmps8
  go_wp2_with fail
  refine Calls.mono HH'.out ?_
  rintro e w1 ⟨g, g2, c2, rfl, hD, hb⟩
  have HD : Hid _ := hD
  clear hD hmk
  go_wp2
  go_ret2
  exact ⟨g, _, _, g2, c2, rfl, HD.out, hb0.trans (hb.mono (by simp))⟩

theorem new_bad (s : Int) (w : World) (h : s < 1 ∨ 2048 < s) : Calls Tryz.prog 8 #[.int .i64 s] w fun e w' => e = .returned (.tuple #[.pointer none, .int .i64 2]) ∧ w' = w := by
  by_cases h1 : s < 1
  · clear h
    go_enter Tryz.func8, Tryz.ntmps8
    go_wp2
    go_ret2
    exact ⟨rfl, rfl⟩
  · have h2 : 2048 < s := by omega
    clear h
    go_enter Tryz.func8, Tryz.ntmps8
    go_wp2
    go_ret2
    exact ⟨rfl, rfl⟩

set_option maxRecDepth 20000 in
set_option maxHeartbeats 1000000 in
theorem events_yes {w : World} {base g g1 c1 g2 c2 : Nat} {ev : Value} {D : Dk} (hD : DiskAt w base g g1 c1 g2 c2 ev D) :
    Calls Tryz.prog 24 #[.pointer (some ⟨g, 0, none⟩)] w fun e w' => e = .returned (.int .i64 D.E.length) ∧ w' = w := by
  have H := made_yes g g2 (D.s * 256) c2 w hD.cell1 (by have := hD.ok.lo; omega)
  have hc := hD.cell2
  obtain ⟨a, c, rfl⟩ : ∃ a c, ev = .slice a D.E.length c := by
    obtain ⟨_, ⟨h1, h2⟩ | ⟨g', c', cur, h1, _⟩⟩ := hD.evs
    · exact ⟨none, 0, by rw [h1, h2]⟩
    · exact ⟨_, _, h1⟩
  generalize D.E.length = n at *
  clear hD
  go_enter Tryz.func24, Tryz.ntmps24
  go_wp2_with fail
  refine H.mono ?_
  rintro e w' ⟨rfl, rfl⟩
  go_wp2
  go_ret
  exact ⟨rfl, rfl⟩

set_option maxRecDepth 20000 in
set_option maxHeartbeats 1000000 in
theorem read_ok {w : World} {base g g1 c1 g2 c2 : Nat} {ev : Value} {D : Dk} (hD : DiskAt w base g g1 c1 g2 c2 ev D) (n : Nat) (hn : n < D.s) :
    Calls Tryz.prog 107 #[.pointer (some ⟨g, 0, none⟩), .int .i64 n] w fun e w' => e = .returned (.tuple #[.slice (some ⟨w.heap.size, 0, none⟩) 256 256, .int .i64 0]) ∧ w' = w.alloc (.cells (byts (fun i => D.B (n * 256 + i)) 256).toArray 5) := by
  have h0 := hD.ok.lo
  have h1 := hD.ok.hi
  have H := made_yes g g2 (D.s * 256) c2 w hD.cell1 (by omega)
  have HH := has_any g g2 D.s c2 n w hD.cell1 h0 h1
  rw [show decide (0 ≤ (n : Int) ∧ (n : Int) < D.s) = true by simp; omega] at HH
  obtain ⟨_, _, hmc, hc63, _⟩ := ownsRow_slice hD.now
  have hmk := run_make_row' (P := Tryz.prog) 31 5 (.int .u8 0) 1 Tryz.underlying31 Tryz.info5 rfl .i64 .i64 256 (by omega) (by omega) w
  simp only [show ((256 : Nat) : Int) = 256 from rfl] at hmk
  have hZ := size_madeCells #[.int .u8 0] 256
  generalize madeCells #[.int .u8 0] 256 = Z at *
  have HS := sectorOf_any g2 (D.s * 256) n c2 (w.alloc (.cells Z 5)) (by omega) hmc hc63
  have hc : (w.alloc (.cells Z 5)).cell? ⟨g, 1, none⟩ = some (.slice (some ⟨g2, 0, none⟩) (D.s * 256) c2) := (hD.below ((Below.refl _ _).alloc (Nat.le_refl _) _) (Nat.le_refl _)).cell1
  have hlen := byts_len (fun i => D.B (n * 256 + i)) 256
  have hcp := run_copy_row (P := Tryz.prog) (w.alloc (.cells Z 5)) 31 31 3 5 w.heap.size 0 256 256 ⟨g2, n * 256, none⟩ 256 256 Z 5 (byts (fun i => D.B (n * 256 + i)) 256) Tryz.underlying31 info5s (heap_alloc_new w _) (by rw [hlen]; rfl) (fun j v hj => by
    have hj' : j < 256 := by rw [← hlen]; exact (List.getElem?_eq_some_iff.1 hj).1
    rw [Addr.add_mid, (hD.below ((Below.refl _ _).alloc (Nat.le_refl _) _) (Nat.le_refl _)).byte (n * 256 + j) (by omega), ← hj, byts_at _ _ _ hj']) (by rw [hlen, hZ]; omega) (byts_one _ _)
  rw [World.setRow_alloc_new, List.drop_eq_nil_of_le (by rw [hlen]; simp [hZ]), hlen] at hcp
  simp only [List.take_zero, List.nil_append, List.append_nil] at hcp
  generalize byts (fun i => D.B (n * 256 + i)) 256 = L at *
  generalize D.s * 256 = m at *
  clear hlen hZ hD h0 h1 hn hmc hc63
  go_enter Tryz.func107, Tryz.ntmps107
  go_wp2_with fail
  refine H.mono ?_
  rintro e w' ⟨rfl, rfl⟩
  go_wp2_with fail
  refine HH.mono ?_
  rintro e w' ⟨rfl, rfl⟩
  go_wp2_with fail
  refine HS.mono ?_
  rintro e w' ⟨rfl, rfl⟩
  go_wp2
  go_ret2
  exact ⟨rfl, rfl⟩

theorem read_bad {w : World} {base g g1 c1 g2 c2 : Nat} {ev : Value} {D : Dk} (hD : DiskAt w base g g1 c1 g2 c2 ev D) (n : Int) (hn : ¬ (0 ≤ n ∧ n < D.s)) :
    Calls Tryz.prog 107 #[.pointer (some ⟨g, 0, none⟩), .int .i64 n] w fun e w' => e = .returned (.tuple #[.slice none 0 0, .int .i64 2]) ∧ w' = w := by
  have h0 := hD.ok.lo
  have h1 := hD.ok.hi
  have H := made_yes g g2 (D.s * 256) c2 w hD.cell1 (by omega)
  have HH := has_any g g2 D.s c2 n w hD.cell1 h0 h1
  rw [show decide (0 ≤ n ∧ n < D.s) = false by simpa using hn] at HH
  clear hD hn h0 h1
  go_enter Tryz.func107, Tryz.ntmps107
  go_wp2_with fail
  refine H.mono ?_
  rintro e w' ⟨rfl, rfl⟩
  go_wp2_with fail
  refine HH.mono ?_
  rintro e w' ⟨rfl, rfl⟩
  go_wp2
  go_ret2
  exact ⟨rfl, rfl⟩
end Go.Proofs.YtdbnnljlbfjobaaGreatDoor
