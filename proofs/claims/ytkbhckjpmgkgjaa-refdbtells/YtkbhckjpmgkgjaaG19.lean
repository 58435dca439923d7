/- My own work: a number is put into numbers that are ready: slices.Insert and slices.BinarySearch over a row that may begin anywhere. -/
import Derived.Test.YtkbhckjpmgkgjaaG18
import Derived.Lib.LazyBuf
import Derived.Deep.Upon
import Derived.Shelf.Spec.SlicesInsertGrow
import Derived.Shelf.Slices.SearchI
import Derived.Shelf.Slices.Empties
namespace Go.Proofs.Ytkbhckjpmgkgjaa
open Go.RowKit

def insAt (i x : Nat) (R : List Nat) : List Nat := R.take i ++ x :: R.drop i
theorem insAt_len {i x : Nat} {R : List Nat} (hi : i ≤ R.length) : (insAt i x R).length = R.length + 1 := by
  unfold insAt
  simp
  omega
theorem insAt_get {i x j : Nat} {R : List Nat} (hi : i ≤ R.length) : (insAt i x R)[j]? = if j < i then R[j]? else if j = i then some x else R[j - 1]? := by
  unfold insAt
  by_cases h1 : j < i
  · rw [if_pos h1, List.getElem?_append_left (by simp; omega), List.getElem?_take, if_pos h1]
  · rw [if_neg h1, List.getElem?_append_right (by simp; omega), List.length_take, Nat.min_eq_left hi]
    by_cases h2 : j = i
    · subst h2
      simp
    · rw [if_neg h2, show j - i = (j - 1 - i) + 1 by omega, List.getElem?_cons_succ, List.getElem?_drop]
      congr 1
      omega
theorem ReadyAt.of_rowIs {w : World} {B b N off cap : Nat} {f : Nat → Value} {R : List Nat} (h : w.rowIs b 3 N f) (hB : B ≤ b) (h1 : R.length ≤ cap) (h2 : cap ≤ 9223372036854775807) (h3 : off + cap ≤ N) (h4 : ∀ j x : Nat, R[j]? = some x → f (off + j) = .int .i64 (x : Int)) : ReadyAt w B (.slice (some ⟨b, off, none⟩) R.length cap) R := by
  obtain ⟨c, e1, e2, e3⟩ := h
  refine ⟨_, cap, rfl, h1, h2, .inr ⟨b, off, c, rfl, e1, hB, by omega, fun j x hj => ?_⟩⟩
  have hjl : j < R.length := (List.getElem?_eq_some_iff.1 hj).1
  rw [e3 _ (by omega), h4 j x hj]
theorem grown_cell {w w' : World} {b o : Nat} (v : Value) (h : w.grownBy w' (some b)) : w.grownBy (w'.setCell ⟨b, o, none⟩ v) (some b) :=
  ⟨h.os, h.tape, h.output, by simp; exact h.size, fun k hk hne => (heap_setCell_other w' ⟨b, o, none⟩ k v (fun e => hne (by rw [e]))).trans (h.block k hk hne)⟩
theorem grown_set {w : World} {b : Nat} : ∀ (vs : List Value) (o : Nat) (w' : World), w.grownBy w' (some b) → w.grownBy (w'.setCells b o vs) (some b)
  | [], _, _, h => h
  | v :: r, o, _, h => grown_set r (o + 1) _ (grown_cell v h)
theorem new_cell {w w' : World} {ob : Option Nat} {b o : Nat} (hb : w.heap.size ≤ b) (v : Value) (h : w.grownBy w' ob) : w.grownBy (w'.setCell ⟨b, o, none⟩ v) ob :=
  ⟨h.os, h.tape, h.output, by simp; exact h.size, fun k hk hne => (heap_setCell_other w' ⟨b, o, none⟩ k v (by show k ≠ b; omega)).trans (h.block k hk hne)⟩
theorem new_set {w : World} {ob : Option Nat} {b : Nat} (hb : w.heap.size ≤ b) : ∀ (vs : List Value) (o : Nat) (w' : World), w.grownBy w' ob → w.grownBy (w'.setCells b o vs) ob
  | [], _, _, h => h
  | v :: r, o, _, h => new_set hb r (o + 1) _ (new_cell hb v h)
theorem grown_drew (w : World) (ob : Option Nat) : w.grownBy w.drew ob := ⟨rfl, rfl, rfl, Nat.le_refl _, fun _ _ _ => rfl⟩
theorem grown_alloc (w : World) (ob : Option Nat) (x : Obj) : w.grownBy (w.alloc x) ob := ⟨rfl, rfl, rfl, by simp, fun k hk _ => ((Below.refl w.heap.size w).alloc (Nat.le_refl _) x).block k hk⟩
theorem grown_drew' {w w' : World} {ob : Option Nat} (h : w.grownBy w' ob) : w.grownBy w'.drew ob := ⟨h.os, h.tape, h.output, h.size, h.block⟩
theorem rowIs_drew {w : World} {b n : Nat} {t : TypeId} {f : Nat → Value} (h : w.rowIs b t n f) : w.drew.rowIs b t n f := h
theorem ints_get {R : List Nat} {j : Nat} {v : Value} (h : (ints R)[j]? = some v) : ∃ x : Nat, R[j]? = some x ∧ v = .int .i64 (x : Int) := by
  rw [List.getElem?_map] at h
  cases hr : R[j]? with
  | none => rw [hr] at h; cases h
  | some x => rw [hr] at h; exact ⟨x, rfl, (Option.some.inj h).symm⟩
theorem rowIs_cells {w : World} {b : Nat} {cur : Array Value} (h : w.heap[b]? = some (.cells cur 3 (0, 0))) : w.rowIs b 3 cur.size (fun j => cur[j]?.getD default) :=
  ⟨cur, h, rfl, fun i hi => by simp [hi]⟩
/-- What Insert tells. -/
def InsPost (w : World) (B i x : Nat) (R : List Nat) (v : Value) (e : Ending) (w' : World) : Prop :=
  ∃ v', e = .returned v' ∧ ReadyAt w' B v' (insAt i x R) ∧ w.grownBy w' v.ownBlock
set_option maxHeartbeats 4000000 in
theorem insert_ok (w : World) (B i x vb : Nat) (R : List Nat) (v : Value) (h : ReadyAt w B v R) (hi : i ≤ R.length) (hR : R.length ≤ 4096) (hB : B ≤ w.heap.size) (hx : Row w vb #[.int .i64 (x : Int)] 3) (hvb : v.ownBlock ≠ some vb) :
    Calls Try.prog (Try.laysNm221_ren.f 21) #[v, .int .i64 (i : Int), .slice (some ⟨vb, 0, none⟩) 1 1] w (InsPost w B i x R v) := by
  obtain ⟨base, cap, rfl, hc1, hc2, hcs⟩ := h
  have hvs : ∀ (j : Nat) (u : Value), [Value.int .i64 (x : Int)][j]? = some u → w.cell? ⟨vb, 0 + j, none⟩ = some u := fun j u hj => by
    cases j with
    | zero => exact (hx.cell 0).trans hj
    | succ j => simp at hj
  have h1v : ∀ u ∈ [Value.int .i64 (x : Int)], u.oneCell' = true := fun u hu => by rw [List.mem_singleton] at hu; subst hu; rfl
  have h1c : ∀ u ∈ ints R, u.oneCell' = true := fun u hu => by obtain ⟨y, _, rfl⟩ := List.mem_map.1 hu; rfl
  have hcl : (ints R).length = R.length := List.length_map _
  have hin : (insAt i x R).length = R.length + 1 := insAt_len hi
  by_cases hroom : R.length + 1 ≤ cap
  · -- room
    rcases hcs with ⟨rfl, rfl⟩ | ⟨b, off, cur, rfl, hb, hBb, hoc, hce⟩
    · omega
    have hrow := rowIs_cells hb
    have hcell : ∀ k, w.cell? ⟨b, k, none⟩ = cur[k]? := fun k => Row.cell (w := w) hb k
    have hfz : ∀ k, w.frozen? ⟨b, k, none⟩ = false := fun k => Row.frozen (w := w) hb k
    have hsome : ∀ j, j < cap → (w.cell? ⟨b, off + j, none⟩).isSome = true := fun j hj => by
      rw [hcell]
      have : off + j < cur.size := by omega
      simp [this]
    by_cases hin2 : i < R.length
    · refine (Any2.slices_Insert_int_shift Try.laysNm221 b off R.length cap i vb 0 1 1 (ints R) [.int .i64 (x : Int)] w hin2 (by omega) hroom hc2 (fun e => hvb (by rw [e]; rfl)) hcl rfl (fun j u hj => ?_) (fun j hj => hsome j (by omega)) (fun j _ => hfz _) hvs h1c h1v 3 3 1 cur.size ?_ ?_ (by omega) (Row.frozen hx 0) (Row.frozen hx 1)).mono ?_
      · obtain ⟨y, hy, rfl⟩ := ints_get hj
        rw [hcell]
        exact hce j y hy
      · have h1 : w.heap[vb]? = _ := hx
        simp only [World.shape?, h1]
        rfl
      · simp only [World.shape?, hb]
      · rintro e w' ⟨rfl, rfl⟩
        have hr1 := rowIs_setCells [Value.int .i64 (x : Int)] (off + i) _ _ (rowIs_setCells ((ints R).drop i) (off + (i + 1)) w.drew _ (show w.drew.rowIs b 3 cur.size (fun j => cur[j]?.getD default) from hrow))
        refine ⟨_, rfl, ?_, grown_set _ _ _ (grown_set _ _ _ (grown_drew w _))⟩
        rw [← hin]
        refine ReadyAt.of_rowIs hr1 hBb (by omega) hc2 hoc fun j y hj => ?_
        rw [insAt_get hi] at hj
        by_cases h1 : j < i
        · rw [if_pos h1] at hj
          rw [if_neg (by omega), if_neg (by omega), hce j y hj]
          rfl
        · rw [if_neg h1] at hj
          by_cases h2 : j = i
          · rw [if_pos h2] at hj
            subst h2
            rw [if_pos (by simp)]
            simp at hj
            subst hj
            simp
          · rw [if_neg h2] at hj
            have hjl : j - 1 < R.length := (List.getElem?_eq_some_iff.1 hj).1
            rw [if_neg (by simp; omega), if_pos (by rw [List.length_drop, hcl]; omega), List.getElem?_drop, show i + (off + j - (off + (i + 1))) = j - 1 by omega, List.getElem?_map, hj]
            rfl
    · obtain rfl : i = R.length := by omega
      refine (Any2.slices_Insert_int_end_room Try.laysNm221 b off R.length cap vb 0 1 1 [.int .i64 (x : Int)] w (by omega) hroom hc2 rfl (fun j hj => by rw [Nat.add_assoc]; exact hsome _ (by omega)) (fun j _ => hfz _) hvs h1v).mono ?_
      rintro e w' ⟨rfl, rfl⟩
      have hr1 := rowIs_setCells [Value.int .i64 (x : Int)] (off + R.length) w _ hrow
      refine ⟨_, rfl, ?_, grown_set _ _ _ ⟨rfl, rfl, rfl, Nat.le_refl _, fun _ _ _ => rfl⟩⟩
      rw [← hin]
      refine ReadyAt.of_rowIs hr1 hBb (by omega) hc2 hoc fun j y hj => ?_
      rw [insAt_get hi] at hj
      by_cases h1 : j < R.length
      · rw [if_pos h1] at hj
        rw [if_neg (by omega), hce j y hj]
        rfl
      · rw [if_neg h1] at hj
        by_cases h2 : j = R.length
        · rw [if_pos h2] at hj
          subst h2
          rw [if_pos (by simp)]
          simp at hj
          subst hj
          simp
        · rw [if_neg h2, List.getElem?_eq_none (by omega)] at hj
          cases hj
  · -- a new row
    have hcn : cap < R.length + 1 := by omega
    have hgc := grownCap_ge w (R.length + 1) cap 3
    have hgm := grownCap_le_maxLen w (R.length + 1) cap 3 (by unfold maxLen; omega)
    by_cases hin2 : i < R.length
    · rcases hcs with ⟨rfl, rfl⟩ | ⟨b, off, cur, rfl, hb, hBb, hoc, hce⟩
      · omega
      refine (Any2.slices_Insert_int_grow Try.laysNm221 b off R.length cap i vb 0 1 1 (ints R) [.int .i64 (x : Int)] w hin2 (by omega) hc1 hcn (by omega) hcl rfl (fun j u hj => ?_) hvs h1c h1v).mono ?_
      · obtain ⟨y, hy, rfl⟩ := ints_get hj
        exact (Row.cell (w := w) hb (off + j)).trans (hce j y hy)
      · rintro e w' ⟨rfl, rfl⟩
        refine ⟨_, rfl, ?_, new_set (Nat.le_refl _) _ _ _ (grown_drew' (new_set (Nat.le_refl _) _ _ _ (grown_drew' (grown_alloc w _ _))))⟩
        · have hr0 := rowIs_drew (rowIs_cells (heap_alloc_new w (.cells (((ints R).take i).toArray ++ Builtin.zeroCells (Value.int .i64 0).cells (R.length + 1 - i) ++ Builtin.zeroCells (Value.int .i64 0).cells (grownCap w (R.length + 1) cap 3 - (R.length + 1))) 3)))
          have hr1 := rowIs_setCells ((ints R).drop i) (i + 1) _ _ (rowIs_drew (rowIs_setCells [Value.int .i64 (x : Int)] i _ _ hr0))
          have hsz : (((ints R).take i).toArray ++ Builtin.zeroCells (Value.int .i64 0).cells (R.length + 1 - i) ++ Builtin.zeroCells (Value.int .i64 0).cells (grownCap w (R.length + 1) cap 3 - (R.length + 1))).size = grownCap w (R.length + 1) cap 3 := by
            simp [size_zeroCells, Value.cells]
            omega
          suffices hfin : ReadyAt _ B (.slice (some ⟨w.heap.size, 0, none⟩) (insAt i x R).length (grownCap w (R.length + 1) cap 3)) (insAt i x R) by rw [hin] at hfin; exact hfin
          refine ReadyAt.of_rowIs hr1 hB (by omega) (by unfold maxLen at hgm; omega) (by rw [hsz]; omega) fun j y hj => ?_
          rw [insAt_get hi] at hj
          rw [Nat.zero_add]
          by_cases h1 : j < i
          · rw [if_pos h1] at hj
            rw [if_neg (by omega), if_neg (by omega)]
            have h3 : j < ((ints R).take i).toArray.size := by simp; omega
            rw [Array.append_assoc, Array.getElem?_append_left h3, List.getElem?_toArray, List.getElem?_take, if_pos h1, List.getElem?_map, hj]
            rfl
          · rw [if_neg h1] at hj
            by_cases h2 : j = i
            · rw [if_pos h2] at hj
              subst h2
              rw [if_neg (by omega), if_pos (by simp)]
              simp at hj
              subst hj
              simp
            · rw [if_neg h2] at hj
              have hjl : j - 1 < R.length := (List.getElem?_eq_some_iff.1 hj).1
              rw [if_pos (by rw [List.length_drop, hcl]; omega), List.getElem?_drop, show i + (j - (i + 1)) = j - 1 by omega, List.getElem?_map, hj]
              rfl
    · obtain rfl : i = R.length := by omega
      refine (Any2.slices_Insert_int_end_grow Try.laysNm221 base R.length cap vb 0 1 1 (ints R) [.int .i64 (x : Int)] w (by omega) hc1 hcn (by omega) hcl rfl ?_ ?_ hvs h1v).mono ?_
      · intro e
        rcases hcs with ⟨_, rfl⟩ | ⟨b, off, cur, rfl, _⟩
        · omega
        · cases e
      · intro a ha j u hj
        rcases hcs with ⟨rfl, _⟩ | ⟨b, off, cur, rfl, hb, hBb, hoc, hce⟩
        · cases ha
        · cases ha
          obtain ⟨y, hy, rfl⟩ := ints_get hj
          have h9 := (Row.cell (w := w) hb (off + j)).trans (hce j y hy)
          by_cases hj0 : j = 0
          · subst hj0
            simpa [Addr.add] using h9
          · simpa [Addr.add, hj0] using h9
      · rintro e w' ⟨rfl, rfl⟩
        have hr0 := rowIs_cells (heap_alloc_new w.drew (.cells ((ints R ++ [Value.int .i64 (x : Int)]).toArray ++ Builtin.zeroCells (Value.int .i64 0).cells (grownCap w (R.length + 1) cap 3 - (R.length + 1))) 3))
        have hsz : ((ints R ++ [Value.int .i64 (x : Int)]).toArray ++ Builtin.zeroCells (Value.int .i64 0).cells (grownCap w (R.length + 1) cap 3 - (R.length + 1))).size = grownCap w (R.length + 1) cap 3 := by
          simp [size_zeroCells, Value.cells]
          omega
        refine ⟨_, rfl, ?_, ⟨rfl, rfl, rfl, by simp, fun k hk _ => ((Below.refl w.drew.heap.size w.drew).alloc (Nat.le_refl _) _).block k hk⟩⟩
        suffices hfin : ReadyAt _ B (.slice (some ⟨w.heap.size, 0, none⟩) (insAt R.length x R).length (grownCap w (R.length + 1) cap 3)) (insAt R.length x R) by rw [hin] at hfin; exact hfin
        refine ReadyAt.of_rowIs hr0 hB (by omega) (by unfold maxLen at hgm; omega) (by rw [hsz]; omega) fun j y hj => ?_
        rw [insAt_get hi] at hj
        rw [Nat.zero_add]
        have hjl : j < R.length + 1 := by
          rw [← hin]
          by_cases h9 : j < (insAt R.length x R).length
          · exact h9
          · rw [← insAt_get hi, List.getElem?_eq_none (by omega)] at hj
            cases hj
        have h3 : j < (ints R ++ [Value.int .i64 (x : Int)]).toArray.size := by simp; omega
        rw [Array.getElem?_append_left h3, List.getElem?_toArray]
        by_cases h1 : j < R.length
        · rw [if_pos h1] at hj
          rw [List.getElem?_append_left (by rw [hcl]; exact h1), List.getElem?_map, hj]
          rfl
        · obtain rfl : j = R.length := by omega
          rw [if_neg h1, if_pos rfl] at hj
          cases hj
          rw [List.getElem?_append_right (by rw [hcl]; exact Nat.le_refl _), hcl]
          simp
/-- Where a number belongs. -/
def posR (R : List Nat) (x : Nat) : Nat := R.countP fun y => decide (y < x)
theorem posR_le (R : List Nat) (x : Nat) : posR R x ≤ R.length := List.countP_le_length
theorem search_ready (w : World) (B x : Nat) (R : List Nat) (v : Value) (h : ReadyAt w B v R) (hs : R.Pairwise (· ≤ ·)) (hR : R.length ≤ 4096) :
    Calls Try.prog (Try.laysNm225_ren.f 25) #[v, .int .i64 (x : Int)] w fun e w' => (∃ f : Bool, e = .returned (.tuple #[.int .i64 ((posR R x : Nat) : Int), .bool f])) ∧ ∃ q, w' = w.drewN q := by
  obtain ⟨base, cap, rfl, hc1, hc2, ⟨rfl, rfl⟩ | ⟨b, off, cur, rfl, hb, hBb, hoc, hce⟩⟩ := h
  · have h0 : R = [] := List.length_eq_zero_iff.1 (by omega)
    subst h0
    refine (Any.slices_BinarySearch_int_empty Try.laysNm225 none 0 x w).mono ?_
    rintro e w' ⟨rfl, rfl⟩
    exact ⟨⟨false, rfl⟩, 0, rfl⟩
  · have e1 : (R.map fun y : Nat => (y : Int)).take R.length = R.map fun y : Nat => (y : Int) := List.take_of_length_le (by rw [List.length_map]; exact Nat.le_refl _)
    refine (Any.slices_BinarySearch_int Try.laysNm225 b off R.length cap (R.map fun y : Nat => (y : Int)) x w (by rw [List.length_map]; exact Nat.le_refl _) (by omega) (fun j hj => ?_) ?_).mono ?_
    · rw [List.length_map] at hj
      rw [(Row.cell (w := w) hb (off + j)).trans (hce j R[j] (by simp [hj]))]
      simp [List.getD, hj]
    · rw [e1, List.pairwise_map]
      exact hs.imp fun h => by omega
    · rintro e w' ⟨rfl, q, rfl⟩
      have hcount : ((R.map fun y : Nat => (y : Int)).take R.length).countP (fun z => decide (z < (x : Int))) = posR R x := by
        rw [e1, List.countP_map]
        unfold posR
        congr 1
        funext y
        simp
      exact ⟨⟨((R.map fun y : Nat => (y : Int)).take R.length).contains (x : Int), by rw [← hcount]⟩, q, rfl⟩
end Go.Proofs.Ytkbhckjpmgkgjaa
