/- A disk in memory, and the calls that only read it. -/
import Derived.Test.YtdbnnljlbfjobaaGreatDoorSector
import Derived.Laws.MakeOwn
namespace Go.Proofs.YtdbnnljlbfjobaaGreatDoor
open Go.RowKit

/-- Something that happened: a sector got these bytes, or (-1) there was a flush. -/
structure Ev where
  n : Int
  f : Nat → Int
def Ev.cells (e : Ev) : List Value := .int .i64 e.n :: byts e.f 256
theorem Ev.cells_len (e : Ev) : e.cells.length = 257 := by simp [Ev.cells, byts_len]
theorem Ev.cells_one (e : Ev) : ∀ u ∈ e.cells, u.oneCell' = true := by
  intro u hu
  rcases List.mem_cons.1 hu with rfl | h
  · rfl
  · exact byts_one _ _ u h
def evCells (E : List Ev) : List Value := E.flatMap Ev.cells
theorem evCells_len (E : List Ev) : (evCells E).length = E.length * 257 := by
  induction E with
  | nil => rfl
  | cons e E ih => simp [evCells, Ev.cells_len] at ih ⊢; omega
theorem evCells_snoc (E : List Ev) (e : Ev) : evCells (E ++ [e]) = evCells E ++ e.cells := by simp [evCells]
theorem evCells_at (E : List Ev) (i : Nat) (e : Ev) (h : E[i]? = some e) (j : Nat) (hj : j < 257) : (evCells E)[i * 257 + j]? = e.cells[j]? := by
  induction E generalizing i with
  | nil => simp at h
  | cons x E ih =>
    have hc : evCells (x :: E) = x.cells ++ evCells E := rfl
    cases i with
    | zero =>
      simp at h
      subst h
      rw [hc, List.getElem?_append_left (by rw [Ev.cells_len]; omega)]
      simp
    | succ i =>
      rw [hc, List.getElem?_append_right (by rw [Ev.cells_len]; omega), Ev.cells_len, show (i + 1) * 257 + j - 257 = i * 257 + j by omega]
      exact ih i (by simpa using h)
def flushEv : Ev := ⟨-1, fun _ => 0⟩

/-- What a disk is: its sectors, its bytes at first, its bytes now, what happened. -/
structure Dk where
  s : Nat
  F : Nat → Int
  B : Nat → Int
  E : List Ev
/-- An event that may be. -/
def Ev.ok (s : Nat) (e : Ev) : Prop := (∀ i, 0 ≤ e.f i ∧ e.f i < 256) ∧ (e = flushEv ∨ (0 ≤ e.n ∧ e.n < s))
structure Dk.ok (D : Dk) : Prop where
  lo : 1 ≤ D.s
  hi : D.s ≤ 2048
  F : ∀ i, 0 ≤ D.F i ∧ D.F i < 256
  B : ∀ i, 0 ≤ D.B i ∧ D.B i < 256
  E : ∀ e ∈ D.E, e.ok D.s

/-- The disk lies in memory: its block g, its bytes at first in g1, its bytes now in g2, its events. -/
structure DiskAt (w : World) (base g g1 c1 g2 c2 : Nat) (ev : Value) (D : Dk) : Prop where
  row : Row w g #[.slice (some ⟨g1, 0, none⟩) (D.s * 256) c1, .slice (some ⟨g2, 0, none⟩) (D.s * 256) c2, ev] 60
  first : w.ownsRow base 5 1 (.slice (some ⟨g1, 0, none⟩) (D.s * 256) c1) (D.s * 256) (byts D.F (D.s * 256))
  now : w.ownsRow base 5 1 (.slice (some ⟨g2, 0, none⟩) (D.s * 256) c2) (D.s * 256) (byts D.B (D.s * 256))
  evs : w.ownsRow base 101 257 ev D.E.length (evCells D.E)
  ge : base ≤ g
  ne : g1 ≠ g2
  ok : D.ok

theorem ownsRow_slice {w : World} {base n s g c m : Nat} {e : TypeId} {xs : List Value} (h : w.ownsRow base e s (.slice (some ⟨g, 0, none⟩) m c) n xs) : base ≤ g ∧ n = m ∧ n ≤ c ∧ c ≤ maxLen ∧ ∃ cur, Row w g cur e ∧ cur.size = c * s ∧ cur.toList.take (n * s) = xs := by
  obtain ⟨_, ⟨h1, _⟩ | ⟨g', c', cur, h1, h2, e3, e4, e5, e6, e7⟩⟩ := h
  · cases h1
  simp only [Value.slice.injEq, Option.some.injEq, Addr.mk.injEq, and_true] at h1
  obtain ⟨rfl, rfl, rfl⟩ := h1
  exact ⟨h2, rfl, e4, e5, cur, e3, e6, e7⟩

section
variable {w : World} {base g g1 c1 g2 c2 : Nat} {ev : Value} {D : Dk}
theorem DiskAt.keep (h : DiskAt w base g g1 c1 g2 c2 ev D) {w' : World} (hb : ∀ k, k = g ∨ k = g1 ∨ k = g2 ∨ ev.ownBlock = some k → w'.heap[k]? = w.heap[k]?) : DiskAt w' base g g1 c1 g2 c2 ev D :=
  ⟨(hb g (.inl rfl)).trans h.row, ownsRow_keep h.first (fun k hk _ => hb k (.inr (.inl (by simpa [Value.ownBlock] using hk.symm)))), ownsRow_keep h.now (fun k hk _ => hb k (.inr (.inr (.inl (by simpa [Value.ownBlock] using hk.symm))))),
    ownsRow_keep h.evs (fun k hk _ => hb k (.inr (.inr (.inr hk)))), h.ge, h.ne, h.ok⟩
theorem DiskAt.lt1 (h : DiskAt w base g g1 c1 g2 c2 ev D) : g1 < w.heap.size := by obtain ⟨_, _, _, _, cur, hr, _⟩ := ownsRow_slice h.first; exact hr.lt
theorem DiskAt.lt2 (h : DiskAt w base g g1 c1 g2 c2 ev D) : g2 < w.heap.size := by obtain ⟨_, _, _, _, cur, hr, _⟩ := ownsRow_slice h.now; exact hr.lt
theorem DiskAt.below (h : DiskAt w base g g1 c1 g2 c2 ev D) {w' : World} {B : Nat} (hb : Below B w w') (hB : w.heap.size ≤ B) : DiskAt w' base g g1 c1 g2 c2 ev D := by
  refine h.keep fun k hk => hb.block k ?_
  rcases hk with rfl | rfl | rfl | hk
  · have := h.row.lt; omega
  · have := h.lt1; omega
  · have := h.lt2; omega
  · have := (ownsRow_lt h.evs k hk).1; omega
theorem DiskAt.cell1 (h : DiskAt w base g g1 c1 g2 c2 ev D) : w.cell? ⟨g, 1, none⟩ = some (.slice (some ⟨g2, 0, none⟩) (D.s * 256) c2) := (h.row.cell 1).trans rfl
theorem DiskAt.cell0 (h : DiskAt w base g g1 c1 g2 c2 ev D) : w.cell? ⟨g, 0, none⟩ = some (.slice (some ⟨g1, 0, none⟩) (D.s * 256) c1) := (h.row.cell 0).trans rfl
theorem DiskAt.cell2 (h : DiskAt w base g g1 c1 g2 c2 ev D) : w.cell? ⟨g, 2, none⟩ = some ev := (h.row.cell 2).trans rfl
theorem DiskAt.byte (h : DiskAt w base g g1 c1 g2 c2 ev D) (i : Nat) (hi : i < D.s * 256) : w.cell? ⟨g2, i, none⟩ = some (.int .u8 (D.B i)) := by
  rw [h.now.cellAt i (by omega), byts_at _ _ _ hi]
end

theorem made_yes (g g2 m c : Nat) (w : World) (hc : w.cell? ⟨g, 1, none⟩ = some (.slice (some ⟨g2, 0, none⟩) m c)) (h0 : 0 < m) : Calls Tryz.prog 60 #[.pointer (some ⟨g, 0, none⟩)] w fun e w' => e = .returned (.bool true) ∧ w' = w := by
  go_enter Tryz.func60, Tryz.ntmps60
  go_wp2
  go_ret
  exact ⟨rfl, rfl⟩
theorem sectors_yes (g g2 s c : Nat) (w : World) (hc : w.cell? ⟨g, 1, none⟩ = some (.slice (some ⟨g2, 0, none⟩) (s * 256) c)) (h0 : 1 ≤ s) (h1 : s ≤ 2048) : Calls Tryz.prog 65 #[.pointer (some ⟨g, 0, none⟩)] w fun e w' => e = .returned (.int .i64 s) ∧ w' = w := by
  have H := made_yes g g2 (s * 256) c w hc (by omega)
  have e : ((s * 256 : Nat) : Int).tdiv 256 = s := by
    rw [Int.natCast_mul]
    exact Int.mul_tdiv_cancel _ (by decide)
  obtain ⟨m, hm⟩ : ∃ m, m = s * 256 := ⟨_, rfl⟩
  rw [← hm] at hc e
  have hm1 : m ≤ 524288 := by omega
  have HM : Hid _ := hm
  clear hm
  go_enter Tryz.func65, Tryz.ntmps65
  go_wp2_with fail
  refine H.mono ?_
  rintro e w' ⟨rfl, rfl⟩
  go_wp2
  go_ret
  exact ⟨rfl, rfl⟩
theorem has_any (g g2 s c : Nat) (n : Int) (w : World) (hc : w.cell? ⟨g, 1, none⟩ = some (.slice (some ⟨g2, 0, none⟩) (s * 256) c)) (h0 : 1 ≤ s) (h1 : s ≤ 2048) : Calls Tryz.prog 123 #[.pointer (some ⟨g, 0, none⟩), .int .i64 n] w fun e w' => e = .returned (.bool (decide (0 ≤ n ∧ n < s))) ∧ w' = w := by
  have H := sectors_yes g g2 s c w hc h0 h1
  by_cases hn : 0 ≤ n
  · have hd : decide (0 ≤ n ∧ n < s) = decide (n < s) := by simp [hn]
    rw [hd]
    clear hd
    go_enter Tryz.func123, Tryz.ntmps123
    go_wp2_with fail
    refine H.mono ?_
    rintro e w' ⟨rfl, rfl⟩
    go_wp2
    go_ret
    exact ⟨rfl, rfl⟩
  · have hd : decide (0 ≤ n ∧ n < s) = false := by simp; omega
    rw [hd]
    clear hd H
    go_enter Tryz.func123, Tryz.ntmps123
    go_wp2
    go_ret
    exact ⟨rfl, rfl⟩
theorem sectorOf_any (a : Nat) (m n c : Nat) (w : World) (h1 : n * 256 + 256 ≤ m) (h2 : m ≤ c) (h3 : c ≤ maxLen) : Calls Tryz.prog 106 #[.slice (some ⟨a, 0, none⟩) m c, .int .i64 n] w fun e w' => e = .returned (.slice (some ⟨a, n * 256, none⟩) 256 256) ∧ w' = w := by
  unfold maxLen at h3
  have e : n * 256 + 256 - n * 256 = 256 := by omega
  go_enter Tryz.func106, Tryz.ntmps106
  go_wp2
  go_ret
  exact ⟨by simp, rfl⟩
end Go.Proofs.YtdbnnljlbfjobaaGreatDoor
