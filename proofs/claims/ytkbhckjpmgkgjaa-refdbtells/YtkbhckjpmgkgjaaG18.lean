/- My own work: the order begins: the walk of begin. -/
import Derived.Test.YtkbhckjpmgkgjaaG9
import Derived.Test.YtkbhckjpmgkgjaaDag2
import Derived.Deep.DeepCutAuto
namespace Go.Proofs.Ytkbhckjpmgkgjaa
open Go.RowKit
open Go.ChangeMaps (setBlock)

abbrev intsN (n : Nat) (W : Nat → Nat) : Array Value := ((List.range n).map fun k => Value.int .i64 (W k : Int)).toArray
theorem Rws.keepB {w w' : World} {B r n : Nat} {C : Nat → Value} {T : Nat → List Nat} (h : Rws w B r n C T) (hb : ∀ k, k < w.heap.size → (k = r ∨ B ≤ k) → w'.heap[k]? = w.heap[k]?) (hs : w.heap.size ≤ w'.heap.size) : Rws w' B r n C T :=
  ⟨(hb r h.row.lt (.inl rfl)).trans h.row, fun k hk => ownsRow_keep' (h.own k hk) fun g hg hl => hb g hl (.inr (ownsRow_lt' (h.own k hk) g hg).2), h.apart, h.lt, Nat.le_trans h.le hs⟩
/-- An order that is begun: r the referrers, q how many each waits for, o the order itself. -/
structure Bgn (w : World) (B r q o n : Nat) (C : Nat → Value) (T : Nat → List Nat) (W : Nat → Nat) : Prop where
  rws : Rws w B r n C T
  wts : Row w q (intsN n W) 3
  ord : Row w o #[.slice (some ⟨r, 0, none⟩) n n, .slice (some ⟨q, 0, none⟩) n n, .slice none 0 0] 70
  lt : q < B ∧ o < B
  ne : q ≠ r ∧ o ≠ q ∧ o ≠ r
theorem Bgn.keep {w w' : World} {B r q o n : Nat} {C : Nat → Value} {T : Nat → List Nat} {W : Nat → Nat} (h : Bgn w B r q o n C T W) (hb : ∀ k, k < w.heap.size → (∃ D t fr, w.heap[k]? = some (.cells D t fr)) → w'.heap[k]? = w.heap[k]?) (hs : w.heap.size ≤ w'.heap.size) : Bgn w' B r q o n C T W :=
  ⟨h.rws.keep hb hs, (hb q h.wts.lt ⟨_, _, _, h.wts⟩).trans h.wts, (hb o h.ord.lt ⟨_, _, _, h.ord⟩).trans h.ord, h.lt, h.ne⟩
theorem Bgn.more {w w' : World} {B r q o n : Nat} {C : Nat → Value} {T : Nat → List Nat} {W : Nat → Nat} (h : Bgn w B r q o n C T W) {k x : Nat} (hk : k < n) {v' : Value} (hown : w'.ownsRow B 3 1 v' ((T k).length + 1) ((T k).map (fun x : Nat => Value.int .i64 (x : Int)) ++ [.int .i64 (x : Int)])) (hg : w.grownBy w' (C k).ownBlock) (hor : v'.ownBlock = (C k).ownBlock ∨ v'.ownBlock = some w.heap.size) :
    Bgn (w'.setCell ⟨r, k, none⟩ v') B r q o n (fun j => if j = k then v' else C j) (fun j => if j = k then T k ++ [x] else T j) W := by
  have hst : ∀ j, j < B → j ≠ r → j < w.heap.size → (w'.setCell ⟨r, k, none⟩ v').heap[j]? = w.heap[j]? := fun j h1 h2 h3 =>
    (heap_setCell_other w' ⟨r, k, none⟩ j v' h2).trans (hg.block j h3 fun e => by have := (ownsRow_lt' (h.rws.own k hk) j e.symm).2; omega)
  exact ⟨h.rws.more hk hown hg hor, (hst q h.lt.1 h.ne.1 h.wts.lt).trans h.wts, (hst o h.lt.2 h.ne.2.2 h.ord.lt).trans h.ord, h.lt, h.ne⟩
theorem Bgn.wait {w : World} {B r q o n : Nat} {C : Nat → Value} {T : Nat → List Nat} {W : Nat → Nat} (h : Bgn w B r q o n C T W) (k x : Nat) :
    Bgn (w.setCell ⟨q, k, none⟩ (.int .i64 (x : Int))) B r q o n C T (fun j => if j = k then x else W j) := by
  have hst : ∀ j, j ≠ q → (w.setCell ⟨q, k, none⟩ (.int .i64 (x : Int))).heap[j]? = w.heap[j]? := fun j h1 => heap_setCell_other w ⟨q, k, none⟩ j _ h1
  refine ⟨h.rws.keepB (fun j _ hj => hst j fun e => ?_) (by simp), ?_, (hst o h.ne.2.1).trans h.ord, h.lt, h.ne⟩
  · rcases hj with rfl | hj
    · exact h.ne.1 e.symm
    · have := h.lt.1
      omega
  · have h2 := h.wts.setCell (i := k) (.int .i64 (x : Int))
    have e : (intsN n W).setIfInBounds k (.int .i64 (x : Int)) = intsN n (fun j => if j = k then x else W j) := by
      unfold intsN
      rw [List.setIfInBounds_toArray]
      congr 1
      apply List.ext_getElem
      · simp
      · intro j h3 h4
        rw [List.getElem_set]
        by_cases hjk : k = j
        · subst hjk
          simp
        · simp [hjk, Ne.symm hjk]
    rw [e] at h2
    exact h2
/-- An order that is begun and knows nothing yet. -/
def Bgz (w w' : World) (r q o n : Nat) : Prop := Below w.heap.size w w' ∧ w.heap.size ≤ r ∧ w.heap.size ≤ q ∧ w.heap.size ≤ o ∧ ∀ w2, Below w'.heap.size w' w2 → ∀ B, w'.heap.size ≤ B → B ≤ w2.heap.size → Bgn w2 B r q o n (fun _ => .slice none 0 0) (fun _ => []) (fun _ => 0)
theorem made_slices (n : Nat) : madeCells #[.slice none 0 0] n = ((List.range n).map fun _ => Value.slice none 0 0).toArray := by
  apply Array.toList_inj.1
  rw [toList_madeCells_one]
  apply List.ext_getElem
  · simp
  · intro i h3 h4
    simp
theorem made_ints (n : Nat) : madeCells #[.int .i64 0] n = intsN n fun _ => 0 := by
  apply Array.toList_inj.1
  rw [toList_madeCells_one]
  apply List.ext_getElem
  · simp
  · intro i h3 h4
    simp
theorem bgz_of {w wx0 wx2 : World} {r q n : Nat} (hB2 : Below w.heap.size w wx2) (h0 : w.heap.size ≤ wx0.heap.size) (h1 : wx0.heap.size ≤ r) (h2 : wx0.heap.size ≤ q) (hne : q ≠ r) (hr : Row wx2 r (madeCells #[.slice none 0 0] n) 68) (hq : Row wx2 q (madeCells #[.int .i64 0] n) 3) :
    Bgz w (wx2.alloc (.cells #[.slice (some ⟨r, 0, none⟩) n n, .slice (some ⟨q, 0, none⟩) n n, .slice none 0 0] 70)) r q wx2.heap.size n := by
  have hr2 := hr.lt
  have hq2 := hq.lt
  refine ⟨hB2.alloc hB2.size _, by omega, by omega, hB2.size, fun w2 hw2 B hB hB' => ?_⟩
  have hs : (wx2.alloc (.cells #[.slice (some ⟨r, 0, none⟩) n n, .slice (some ⟨q, 0, none⟩) n n, .slice none 0 0] 70)).heap.size = wx2.heap.size + 1 := by simp
  have hb := (Below.refl wx2.heap.size wx2).alloc (Nat.le_refl _) (.cells #[.slice (some ⟨r, 0, none⟩) n n, .slice (some ⟨q, 0, none⟩) n n, .slice none 0 0] 70)
  have h3 : ∀ k, k < wx2.heap.size → w2.heap[k]? = wx2.heap[k]? := fun k hk => (hw2.block k (by omega)).trans (hb.block k hk)
  rw [made_slices] at hr
  rw [made_ints] at hq
  refine ⟨⟨(h3 r hr2).trans hr, fun k hk => World.ownsRow_nil _ _ _ _, (fun k k' _ _ _ b hb => by cases hb), by omega, hB'⟩, (h3 q hq2).trans hq, ?_, ⟨by omega, by omega⟩, ⟨hne, by omega, by omega⟩⟩
  exact (hw2.block _ (by omega)).trans (Row.new wx2 _ _)
theorem bgz_a {w wx0 wx1 wx2 : World} {n : Nat} (hB0 : Below w.heap.size w wx0) (hs0 : wx1.heap.size = wx0.heap.size + 1) (hr0 : Row wx1 wx0.heap.size (madeCells #[.slice none 0 0] n) 68) (hr1 : Row wx2 wx1.heap.size (madeCells #[.int .i64 0] n) 3) (h10 : Below wx1.heap.size wx1 wx2) (hB2 : Below w.heap.size w wx2) :
    Bgz w (wx2.alloc (.cells #[.slice (some ⟨wx0.heap.size, 0, none⟩) n n, .slice (some ⟨wx1.heap.size, 0, none⟩) n n, .slice none 0 0] 70)) wx0.heap.size wx1.heap.size wx2.heap.size n :=
  bgz_of hB2 hB0.size (Nat.le_refl _) (by omega) (by omega) (hr0.below h10 hr0.lt) hr1
theorem bgz_b {w wx0 wx1 wx2 : World} {n : Nat} (hB0 : Below w.heap.size w wx0) (hs0 : wx1.heap.size = wx0.heap.size + 1) (hr0 : Row wx1 wx0.heap.size (madeCells #[.int .i64 0] n) 3) (hr1 : Row wx2 wx1.heap.size (madeCells #[.slice none 0 0] n) 68) (h10 : Below wx1.heap.size wx1 wx2) (hB2 : Below w.heap.size w wx2) :
    Bgz w (wx2.alloc (.cells #[.slice (some ⟨wx1.heap.size, 0, none⟩) n n, .slice (some ⟨wx0.heap.size, 0, none⟩) n n, .slice none 0 0] 70)) wx1.heap.size wx0.heap.size wx2.heap.size n :=
  bgz_of hB2 hB0.size (by omega) (Nat.le_refl _) (by omega) hr1 (hr0.below h10 hr0.lt)
/-- Who waits for whom, of the edges that were told. -/
def refT (D : List (Nat × Nat)) (k : Nat) : List Nat := (D.filter fun x => x.2 == k && x.1 != x.2).map (·.1)
def waitN (D : List (Nat × Nat)) (k : Nat) : Nat := (D.filter fun x => x.1 == k && x.1 != x.2).length
theorem refT_self {D : List (Nat × Nat)} {x : Nat} : refT (D ++ [(x, x)]) = refT D := by
  funext k
  unfold refT
  rw [List.filter_append]
  simp
theorem waitN_self {D : List (Nat × Nat)} {x : Nat} : waitN (D ++ [(x, x)]) = waitN D := by
  funext k
  unfold waitN
  rw [List.filter_append]
  simp
theorem refT_more {D : List (Nat × Nat)} {x y : Nat} (h : ¬ x = y) : refT (D ++ [(x, y)]) = fun j => if j = y then refT D y ++ [x] else refT D j := by
  funext k
  unfold refT
  rw [List.filter_append, List.map_append]
  by_cases hk : k = y
  · subst hk
    simp [h]
  · have : ¬ y = k := fun e => hk e.symm
    simp [hk, this]
theorem waitN_more {D : List (Nat × Nat)} {x y : Nat} (h : ¬ x = y) : waitN (D ++ [(x, y)]) = fun j => if j = x then waitN D x + 1 else waitN D j := by
  funext k
  unfold waitN
  rw [List.filter_append, List.length_append]
  by_cases hk : k = x
  · subst hk
    simp [h]
  · have : ¬ x = k := fun e => hk e.symm
    simp [hk, this]
/-- Numbers that are ready: they may lie behind a row's beginning. -/
def ReadyAt (w : World) (B : Nat) (v : Value) (R : List Nat) : Prop :=
  ∃ base cap, v = .slice base R.length cap ∧ R.length ≤ cap ∧ cap ≤ 9223372036854775807 ∧ ((base = none ∧ cap = 0) ∨ ∃ b off cur, base = some ⟨b, off, none⟩ ∧ w.heap[b]? = some (.cells cur 3 (0, 0)) ∧ B ≤ b ∧ off + cap ≤ cur.size ∧ ∀ (j x : Nat), R[j]? = some x → cur[off + j]? = some (.int .i64 (x : Int)))
/-- An order under way. -/
structure OrdAt (w : World) (B B2 r q o n : Nat) (C : Nat → Value) (T : Nat → List Nat) (W : Nat → Nat) (rv : Value) (R : List Nat) : Prop where
  rws : Rws w B r n C T
  wts : Row w q (intsN n W) 3
  ord : Row w o #[.slice (some ⟨r, 0, none⟩) n n, .slice (some ⟨q, 0, none⟩) n n, rv] 70
  lt : q < B ∧ o < B
  ne : q ≠ r ∧ o ≠ q ∧ o ≠ r
  ready : ReadyAt w B2 rv R
  le : B ≤ B2
  top : ∀ k, k < n → ∀ b, (C k).ownBlock = some b → b < B2
  size : B2 ≤ w.heap.size
/-- Those that wait for none, of the first i. -/
def rdyTo (W : Nat → Nat) (i : Nat) : List Nat := (List.range i).filter fun k => W k == 0
theorem rdyTo_yes {W : Nat → Nat} {i : Nat} (h : W i = 0) : rdyTo W (i + 1) = rdyTo W i ++ [i] := by
  unfold rdyTo
  rw [List.range_succ, List.filter_append]
  simp [h]
theorem rdyTo_no {W : Nat → Nat} {i : Nat} (h : ¬ W i = 0) : rdyTo W (i + 1) = rdyTo W i := by
  unfold rdyTo
  rw [List.range_succ, List.filter_append]
  simp [h]
theorem rdyTo_le (W : Nat → Nat) (i : Nat) : (rdyTo W i).length ≤ i := by
  have := List.length_filter_le (fun k => W k == 0) (List.range i)
  rw [List.length_range] at this
  exact this
theorem ReadyAt.of_own {w : World} {B : Nat} {v : Value} {R : List Nat} (h : w.ownsRow B 3 1 v R.length (ints R)) : ReadyAt w B v R := by
  obtain ⟨h1, ⟨h2, h3⟩ | ⟨g, cap, cur, e1, e2, e3, e4, e5, e6, e7⟩⟩ := h
  · exact ⟨none, 0, by rw [h2, h3], by omega, by decide, .inl ⟨rfl, rfl⟩⟩
  · refine ⟨some ⟨g, 0, none⟩, cap, e1, e4, by unfold maxLen at e5; omega, .inr ⟨g, 0, cur, rfl, e3, e2, by omega, fun j x hj => ?_⟩⟩
    have h2 : (ints R)[j]? = some (.int .i64 (x : Int)) := by rw [List.getElem?_map, hj]; rfl
    rw [← e7, List.getElem?_take] at h2
    split at h2
    · rw [Nat.zero_add, ← Array.getElem?_toList]
      exact h2
    · cases h2
/-- While those that are ready are gathered. -/
structure Bg2 (w wx : World) (B B2 r q o n : Nat) (C : Nat → Value) (T : Nat → List Nat) (W : Nat → Nat) (rv : Value) (R : List Nat) : Prop where
  rws : Rws wx B r n C T
  wts : Row wx q (intsN n W) 3
  ord : Row wx o #[.slice (some ⟨r, 0, none⟩) n n, .slice (some ⟨q, 0, none⟩) n n, rv] 70
  lt : q < B ∧ o < B
  ne : q ≠ r ∧ o ≠ q ∧ o ≠ r
  own : wx.ownsRow B2 3 1 rv R.length (ints R)
  le : B ≤ B2
  top : ∀ k, k < n → ∀ b, (C k).ownBlock = some b → b < B2
  low : Below w.heap.size w wx
  size : B2 ≤ wx.heap.size
theorem Bg2.done {w wx : World} {B B2 r q o n : Nat} {C : Nat → Value} {T : Nat → List Nat} {W : Nat → Nat} {rv : Value} {R : List Nat} (h : Bg2 w wx B B2 r q o n C T W rv R) : OrdAt wx B B2 r q o n C T W rv R :=
  ⟨h.rws, h.wts, h.ord, h.lt, h.ne, .of_own h.own, h.le, h.top, h.size⟩
theorem Bg2.more {w wx w' : World} {B B2 r q o n x : Nat} {C : Nat → Value} {T : Nat → List Nat} {W : Nat → Nat} {rv v' : Value} {R : List Nat} (h : Bg2 w wx B B2 r q o n C T W rv R) (hlo : w.heap.size ≤ o) (hown : w'.ownsRow B2 3 1 v' (R.length + 1) (ints R ++ [.int .i64 (x : Int)])) (hg : (wx.alloc (.cells #[.int .i64 (x : Int)] 3)).grownBy w' rv.ownBlock) :
    Bg2 w (w'.setCell ⟨o, 2, none⟩ v') B B2 r q o n C T W v' (R ++ [x]) := by
  have hba : Below wx.heap.size wx (wx.alloc (.cells #[.int .i64 (x : Int)] 3)) := (Below.refl _ _).alloc (Nat.le_refl _) _
  have hk : ∀ k, k < B2 → k < wx.heap.size → w'.heap[k]? = wx.heap[k]? := fun k h1 h2 => (hg.block k (by simp; omega) (fun e => by have := (ownsRow_lt' h.own k e.symm).2; omega)).trans (hba.block k h2)
  have hko : ∀ k, k ≠ o → (w'.setCell ⟨o, 2, none⟩ v').heap[k]? = w'.heap[k]? := fun k h1 => heap_setCell_other w' ⟨o, 2, none⟩ k v' h1
  have hs : wx.heap.size ≤ w'.heap.size := by have := hg.size; simp at this; omega
  have hle := h.le
  have hq := h.lt
  have hne := h.ne
  have hrl := h.rws.lt
  have hsz := h.size
  refine ⟨⟨?_, fun k hkn => ownsRow_keep' (h.rws.own k hkn) fun g hgo hl => ?_, h.rws.apart, hrl, by have := h.rws.le; simp; omega⟩, ?_, ?_, h.lt, h.ne, ?_, hle, h.top, ?_, by simp; omega⟩
  · exact (hko r (Ne.symm hne.2.2)).trans ((hk r (by omega) h.rws.row.lt).trans h.rws.row)
  · have h1 := h.top k hkn g hgo
    have h2 := (ownsRow_lt' (h.rws.own k hkn) g hgo).2
    exact (hko g (by omega)).trans (hk g h1 hl)
  · exact (hko q (Ne.symm hne.2.1)).trans ((hk q (by omega) h.wts.lt).trans h.wts)
  · have h1 : Row w' o #[.slice (some ⟨r, 0, none⟩) n n, .slice (some ⟨q, 0, none⟩) n n, rv] 70 := (hk o (by omega) h.ord.lt).trans h.ord
    exact h1.setCell (i := 2) v'
  · have e : ints (R ++ [x]) = ints R ++ [.int .i64 (x : Int)] := List.map_append
    rw [List.length_append, e]
    refine ownsRow_keep' hown fun g hgo _ => hko g ?_
    have := (ownsRow_lt' hown g hgo).2
    omega
  · refine h.low.trans ⟨hg.os, hg.tape, hg.output, by simp; omega, fun k hk' => ?_⟩
    have := h.low.size
    exact (hko k (by omega)).trans ((hg.block k (by simp; omega) (fun e => by have := (ownsRow_lt' h.own k e.symm).2; omega)).trans (hba.block k (by omega)))
/-- What begin tells. -/
def BeginPost (n : Nat) (E : List (Nat × Nat)) (w : World) (e : Ending) (w' : World) : Prop :=
  ∃ B B2 r q o C D rv, e = .returned (.pointer (some ⟨o, 0, none⟩)) ∧ D.Nodup ∧ (∀ x, x ∈ D ↔ x ∈ E) ∧ OrdAt w' B B2 r q o n C (refT D) (waitN D) rv (rdyTo (waitN D) n) ∧ Below w.heap.size w w' ∧ w.heap.size ≤ r ∧ w.heap.size ≤ q ∧ w.heap.size ≤ o
set_option maxRecDepth 20000 in
set_option maxHeartbeats 8000000 in
theorem begin_ok (g : Nat) (P dv : List ByteArray) (E : List (Nat × Nat)) (w : World) (h : GAt w g P dv E) (hn : P.length ≤ 4096) (hE : ∀ x ∈ E, x.1 < P.length ∧ x.2 < P.length) : Calls Try.prog 38 #[.pointer (some ⟨g, 0, none⟩)] w (BeginPost P.length E w) := by
  obtain ⟨a, c, da, dc, m, es, clk, hrow, hS, _, hed⟩ := h.ex
  have hnd := h.nd
  have hfew := edges_few hnd hE hn
  obtain ⟨n, hN⟩ : ∃ n, n = P.length := ⟨_, rfl⟩
  rw [← hN] at hn hE hrow
  rw [← hN]
  have hml : m < w.heap.size := (Array.getElem?_eq_some_iff.1 hed.obj).1
  have HR : Hid _ := hrow
  have HD : Hid _ := hed
  have HN : Hid _ := hN
  have HE : Hid _ := hE
  have hgl := hrow.lt
  clear h hrow hS hed hE hN
  go_enter Try.func38, Try.ntmps38
  go_upto_region 1 with fail
  go_cut [3] (fun v3 wx => ∃ r q o, v3 = .pointer (some ⟨o, 0, none⟩) ∧ Hid (Bgz w wx r q o n))
  case first =>
    have hB0 : Below w.heap.size w w.drew := (Below.refl _ _).drew
    refine wp_region_dag2 [(false, 0), (false, 1), (false, 2), (false, 3), (false, 4), (false, 6), (false, 7), (false, 8), (false, 9), (false, 10)] #[true, true, true, true, true, false, true, true, true, true, true, false, false, false, false] 5 (fun wx => Below w.heap.size w wx) (by kernel_rfl) (by kernel_rfl) hB0 ?_
    refine a_value (some 7) (.pointer (some ⟨g, 0, none⟩)) rfl rfl (by rfl) (fun wx hw => ?_) ?_
    · go_simp
    simp only [Act.put, List.setIfInBounds_toArray, List.set_cons_zero, List.set_cons_succ]
    refine a_value (some 8) (.pointer (some ⟨g, 0, none⟩)) rfl rfl (by rfl) (fun wx hw => ?_) ?_
    · go_simp
    simp only [Act.put, List.setIfInBounds_toArray, List.set_cons_zero, List.set_cons_succ]
    refine a_value (some 9) (.pointer (some ⟨g, 0, none⟩)) rfl rfl (by rfl) (fun wx hw => ?_) ?_
    · go_simp
    simp only [Act.put, List.setIfInBounds_toArray, List.set_cons_zero, List.set_cons_succ]
    refine a_value (some 10) (.slice a n c) rfl rfl (by rfl) (fun wx hw => ?_) ?_
    · have h0 := (Row.cell (Row.below (w := w) HR.out hw hgl) 0).trans (rfl : _ = some (Value.slice a n c))
      go_simp
    simp only [Act.put, List.setIfInBounds_toArray, List.set_cons_zero, List.set_cons_succ]
    refine a_value (some 11) (.int .i64 (n : Int)) rfl rfl (by rfl) (fun wx hw => ?_) ?_
    · go_simp
    simp only [Act.put, List.setIfInBounds_toArray, List.set_cons_zero, List.set_cons_succ]
    refine a_value (some 13) (.pointer (some ⟨g, 0, none⟩)) rfl rfl (by rfl) (fun wx hw => ?_) ?_
    · go_simp
    simp only [Act.put, List.setIfInBounds_toArray, List.set_cons_zero, List.set_cons_succ]
    refine a_value (some 14) (.pointer (some ⟨g, 0, none⟩)) rfl rfl (by rfl) (fun wx hw => ?_) ?_
    · go_simp
    simp only [Act.put, List.setIfInBounds_toArray, List.set_cons_zero, List.set_cons_succ]
    refine a_value (some 15) (.pointer (some ⟨g, 0, none⟩)) rfl rfl (by rfl) (fun wx hw => ?_) ?_
    · go_simp
    simp only [Act.put, List.setIfInBounds_toArray, List.set_cons_zero, List.set_cons_succ]
    refine a_value (some 16) (.slice a n c) rfl rfl (by rfl) (fun wx hw => ?_) ?_
    · have h0 := (Row.cell (Row.below (w := w) HR.out hw hgl) 0).trans (rfl : _ = some (Value.slice a n c))
      go_simp
    simp only [Act.put, List.setIfInBounds_toArray, List.set_cons_zero, List.set_cons_succ]
    refine a_value (some 17) (.int .i64 (n : Int)) rfl rfl (by rfl) (fun wx hw => ?_) ?_
    · go_simp
    simp only [Act.put, List.setIfInBounds_toArray, List.set_cons_zero, List.set_cons_succ]
    refine a_done ?_
    intro _
    generalize w.drew = wx0 at *
    refine d_two (i := 5) (j := 11) (by kernel_rfl) ?wayA ?wayB
    case wayA =>
      have hmk0 := run_make_row' (P := Try.prog) 67 68 (.slice none 0 0) 24 Try.underlying67 infoIs rfl .i64 .i64 n (by omega) (by omega) wx0
      refine d_alone (some 12) (.slice (some ⟨wx0.heap.size, 0, none⟩) n n) (wx0.alloc (.cells (madeCells #[.slice none 0 0] n) 68)) rfl rfl (by rfl) (by go_simp) (hB0.alloc hB0.size _) ?_
      simp only [Act.put, List.setIfInBounds_toArray, List.set_cons_zero, List.set_cons_succ]
      have hB1 : Below w.heap.size w (wx0.alloc (.cells (madeCells #[.slice none 0 0] n) 68)) := hB0.alloc hB0.size _
      have hr0 : Row (wx0.alloc (.cells (madeCells #[.slice none 0 0] n) 68)) wx0.heap.size _ 68 := Row.new wx0 _ _
      have hs0 : (wx0.alloc (.cells (madeCells #[.slice none 0 0] n) 68)).heap.size = wx0.heap.size + 1 := by simp
      generalize wx0.alloc (.cells (madeCells #[.slice none 0 0] n) 68) = wx1 at *
      clear hmk0
      refine d_one (i := 11) (by kernel_rfl) ?_
      have hmk1 := run_make_row' (P := Try.prog) 68 3 (.int .i64 0) 8 Try.underlying68 info3 rfl .i64 .i64 n (by omega) (by omega) wx1
      refine d_alone (some 18) (.slice (some ⟨wx1.heap.size, 0, none⟩) n n) (wx1.alloc (.cells (madeCells #[.int .i64 0] n) 3)) rfl rfl (by rfl) (by go_simp) (hB1.alloc hB1.size _) ?_
      simp only [Act.put, List.setIfInBounds_toArray, List.set_cons_zero, List.set_cons_succ]
      have hB2 : Below w.heap.size w (wx1.alloc (.cells (madeCells #[.int .i64 0] n) 3)) := hB1.alloc hB1.size _
      have hr1 : Row (wx1.alloc (.cells (madeCells #[.int .i64 0] n) 3)) wx1.heap.size _ 3 := Row.new wx1 _ _
      have hs1 : (wx1.alloc (.cells (madeCells #[.int .i64 0] n) 3)).heap.size = wx1.heap.size + 1 := by simp
      have h10 : Below wx1.heap.size wx1 (wx1.alloc (.cells (madeCells #[.int .i64 0] n) 3)) := (Below.refl _ _).alloc (Nat.le_refl _) _
      generalize wx1.alloc (.cells (madeCells #[.int .i64 0] n) 3) = wx2 at *
      clear hmk1
      have HB2 : Hid _ := hB2
      refine d_one (i := 12) (by kernel_rfl) ?_
      refine d_alone (some 19) (.agg #[.slice (some ⟨wx0.heap.size, 0, none⟩) n n, .slice (some ⟨wx1.heap.size, 0, none⟩) n n, .slice none 0 0]) wx2 rfl rfl (by rfl) (by kernel_rfl) hB2 ?_
      simp only [Act.put, List.setIfInBounds_toArray, List.set_cons_zero, List.set_cons_succ]
      refine d_one (i := 13) (by kernel_rfl) ?_
      refine d_alone (some 20) (.pointer (some ⟨wx2.heap.size, 0, none⟩)) (wx2.alloc (.cells #[.slice (some ⟨wx0.heap.size, 0, none⟩) n n, .slice (some ⟨wx1.heap.size, 0, none⟩) n n, .slice none 0 0] 70)) rfl rfl (by rfl) (by kernel_rfl) (hB2.alloc hB2.size _) ?_
      simp only [Act.put, List.setIfInBounds_toArray, List.set_cons_zero, List.set_cons_succ]
      have HZ : Hid (Bgz w (wx2.alloc (.cells #[.slice (some ⟨wx0.heap.size, 0, none⟩) n n, .slice (some ⟨wx1.heap.size, 0, none⟩) n n, .slice none 0 0] 70)) wx0.heap.size wx1.heap.size wx2.heap.size n) := bgz_a hB0 hs0 hr0 hr1 h10 hB2
      have hB3 : Below w.heap.size w (wx2.alloc (.cells #[.slice (some ⟨wx0.heap.size, 0, none⟩) n n, .slice (some ⟨wx1.heap.size, 0, none⟩) n n, .slice none 0 0] 70)) := hB2.alloc hB2.size _
      obtain ⟨wz, hwz⟩ : ∃ x, x = wx2.alloc (.cells #[.slice (some ⟨wx0.heap.size, 0, none⟩) n n, .slice (some ⟨wx1.heap.size, 0, none⟩) n n, .slice none 0 0] 70) := ⟨_, rfl⟩
      rw [← hwz] at HZ hB3 ⊢
      refine d_one (i := 14) (by kernel_rfl) ?_
      refine d_alone (some 3) (.pointer (some ⟨wx2.heap.size, 0, none⟩)) wz rfl rfl (by rfl) (by kernel_rfl) hB3 ?_
      simp only [Act.put, List.setIfInBounds_toArray, List.set_cons_zero, List.set_cons_succ]
      refine d_done (by kernel_rfl) ?_
      clear hs0 hs1 hr0 hr1 hB0 hB2 hB3 hwz HB2 h10
      try simp only [Exit.then]
      go_wp2
      go_meet
      exact ⟨_, _, _, rfl, HZ⟩
    case wayB =>
      have hmk0 := run_make_row' (P := Try.prog) 68 3 (.int .i64 0) 8 Try.underlying68 info3 rfl .i64 .i64 n (by omega) (by omega) wx0
      refine d_alone (some 18) (.slice (some ⟨wx0.heap.size, 0, none⟩) n n) (wx0.alloc (.cells (madeCells #[.int .i64 0] n) 3)) rfl rfl (by rfl) (by go_simp) (hB0.alloc hB0.size _) ?_
      simp only [Act.put, List.setIfInBounds_toArray, List.set_cons_zero, List.set_cons_succ]
      have hB1 : Below w.heap.size w (wx0.alloc (.cells (madeCells #[.int .i64 0] n) 3)) := hB0.alloc hB0.size _
      have hr0 : Row (wx0.alloc (.cells (madeCells #[.int .i64 0] n) 3)) wx0.heap.size _ 3 := Row.new wx0 _ _
      have hs0 : (wx0.alloc (.cells (madeCells #[.int .i64 0] n) 3)).heap.size = wx0.heap.size + 1 := by simp
      generalize wx0.alloc (.cells (madeCells #[.int .i64 0] n) 3) = wx1 at *
      clear hmk0
      refine d_one (i := 5) (by kernel_rfl) ?_
      have hmk1 := run_make_row' (P := Try.prog) 67 68 (.slice none 0 0) 24 Try.underlying67 infoIs rfl .i64 .i64 n (by omega) (by omega) wx1
      refine d_alone (some 12) (.slice (some ⟨wx1.heap.size, 0, none⟩) n n) (wx1.alloc (.cells (madeCells #[.slice none 0 0] n) 68)) rfl rfl (by rfl) (by go_simp) (hB1.alloc hB1.size _) ?_
      simp only [Act.put, List.setIfInBounds_toArray, List.set_cons_zero, List.set_cons_succ]
      have hB2 : Below w.heap.size w (wx1.alloc (.cells (madeCells #[.slice none 0 0] n) 68)) := hB1.alloc hB1.size _
      have hr1 : Row (wx1.alloc (.cells (madeCells #[.slice none 0 0] n) 68)) wx1.heap.size _ 68 := Row.new wx1 _ _
      have hs1 : (wx1.alloc (.cells (madeCells #[.slice none 0 0] n) 68)).heap.size = wx1.heap.size + 1 := by simp
      have h10 : Below wx1.heap.size wx1 (wx1.alloc (.cells (madeCells #[.slice none 0 0] n) 68)) := (Below.refl _ _).alloc (Nat.le_refl _) _
      generalize wx1.alloc (.cells (madeCells #[.slice none 0 0] n) 68) = wx2 at *
      clear hmk1
      have HB2 : Hid _ := hB2
      refine d_one (i := 12) (by kernel_rfl) ?_
      refine d_alone (some 19) (.agg #[.slice (some ⟨wx1.heap.size, 0, none⟩) n n, .slice (some ⟨wx0.heap.size, 0, none⟩) n n, .slice none 0 0]) wx2 rfl rfl (by rfl) (by kernel_rfl) hB2 ?_
      simp only [Act.put, List.setIfInBounds_toArray, List.set_cons_zero, List.set_cons_succ]
      refine d_one (i := 13) (by kernel_rfl) ?_
      refine d_alone (some 20) (.pointer (some ⟨wx2.heap.size, 0, none⟩)) (wx2.alloc (.cells #[.slice (some ⟨wx1.heap.size, 0, none⟩) n n, .slice (some ⟨wx0.heap.size, 0, none⟩) n n, .slice none 0 0] 70)) rfl rfl (by rfl) (by kernel_rfl) (hB2.alloc hB2.size _) ?_
      simp only [Act.put, List.setIfInBounds_toArray, List.set_cons_zero, List.set_cons_succ]
      have HZ : Hid (Bgz w (wx2.alloc (.cells #[.slice (some ⟨wx1.heap.size, 0, none⟩) n n, .slice (some ⟨wx0.heap.size, 0, none⟩) n n, .slice none 0 0] 70)) wx1.heap.size wx0.heap.size wx2.heap.size n) := bgz_b hB0 hs0 hr0 hr1 h10 hB2
      have hB3 : Below w.heap.size w (wx2.alloc (.cells #[.slice (some ⟨wx1.heap.size, 0, none⟩) n n, .slice (some ⟨wx0.heap.size, 0, none⟩) n n, .slice none 0 0] 70)) := hB2.alloc hB2.size _
      obtain ⟨wz, hwz⟩ : ∃ x, x = wx2.alloc (.cells #[.slice (some ⟨wx1.heap.size, 0, none⟩) n n, .slice (some ⟨wx0.heap.size, 0, none⟩) n n, .slice none 0 0] 70) := ⟨_, rfl⟩
      rw [← hwz] at HZ hB3 ⊢
      refine d_one (i := 14) (by kernel_rfl) ?_
      refine d_alone (some 3) (.pointer (some ⟨wx2.heap.size, 0, none⟩)) wz rfl rfl (by rfl) (by kernel_rfl) hB3 ?_
      simp only [Act.put, List.setIfInBounds_toArray, List.set_cons_zero, List.set_cons_succ]
      refine d_done (by kernel_rfl) ?_
      clear hs0 hs1 hr0 hr1 hB0 hB2 hB3 hwz HB2 h10
      try simp only [Exit.then]
      go_wp2
      go_meet
      exact ⟨_, _, _, rfl, HZ⟩
  case rest =>
    obtain ⟨r, q, o, rfl, HZ⟩ := hcut
    have hBc := HZ.out.1
    have hlr := HZ.out.2.1
    have hlq := HZ.out.2.2.1
    have hlo := HZ.out.2.2.2.1
    have q21 : wc.cell? ⟨g, 2, none⟩ = some (.map (some m)) := (Row.cell (Row.below (w := w) HR.out hBc hgl) 2).trans rfl
    have hed1 := HD.out.keep (hBc.block m hml)
    have hrg := run_range_map (P := Try.prog) wc 49 77 75 m es clk Try.underlying49 hed1.obj
    obtain ⟨w2, hw2⟩ : ∃ x, x = wc.alloc (.mapIter (some m) clk #[] clk) := ⟨_, rfl⟩
    rw [← hw2] at hrg
    have hs2 : w2.heap.size = wc.heap.size + 1 := by rw [hw2]; simp
    have hb2 : Below wc.heap.size wc w2 := by rw [hw2]; exact (Below.refl _ _).alloc (Nat.le_refl _) _
    have HRan : Hid (Ran w2 m wc.heap.size E es clk [] []) := by rw [hw2]; exact Ran.start hed1
    have HBgn : Hid (Bgn w2 (wc.heap.size + 1) r q o n (fun _ => .slice none 0 0) (fun _ => []) (fun _ => 0)) := HZ.out.2.2.2.2 w2 hb2 _ (by omega) (by omega)
    have HB2 : Hid (Below w.heap.size w w2) := hBc.trans (hb2.mono hBc.size)
    have hmc : m < wc.heap.size := Nat.lt_of_lt_of_le hml hBc.size
    have hwwc := hBc.size
    clear hed1 hb2 hw2 hBc HZ HD HR hs2
    go_upto_region 2 with fail
    go_wp2
    clear hrg q21
    go_loopw [] (fun wr => ∃ (ds : List MapEntry) (D : List (Nat × Nat)) (C : Nat → Value), Ran wr m wc.heap.size E es clk ds D ∧ Bgn wr (wc.heap.size + 1) r q o n C (refT D) (waitN D) ∧ Below w.heap.size w wr)
      (fun wr => match wr.heap[wc.heap.size]? with | some (.mapIter _ _ seen _) => E.length - seen.size | _ => 0)
    case atStart => exact ⟨[], [], _, HRan.out, HBgn.out, HB2.out⟩
    case round =>
      obtain ⟨ds, D, C, hRan, hBgn, hB⟩ := hrel
      rcases hRan.next hnd (by omega) 0 with ⟨hall, hnx⟩ | ⟨x, en, w3, hxE, hxD, hnx, hRan3, hent, hos, htp, hou, hsz3, hoth⟩
      · have HF : Hid (D.Nodup ∧ ∀ x, x ∈ D ↔ x ∈ E) := ⟨hRan.nd, fun x => ⟨hRan.subD x, hall x⟩⟩
        obtain ⟨T, hT⟩ : ∃ T, T = refT D := ⟨_, rfl⟩
        obtain ⟨W, hW⟩ : ∃ W, W = waitN D := ⟨_, rfl⟩
        rw [← hT, ← hW] at hBgn
        have HT : Hid _ := hT
        have HW : Hid _ := hW
        have hsW := hB.size
        have hRl := hBgn.rws.le
        have hco : wr.cell? ⟨o, 1, none⟩ = some (.slice (some ⟨q, 0, none⟩) n n) := (hBgn.ord.cell 1).trans rfl
        obtain ⟨wE, rfl⟩ : ∃ x, x = wr := ⟨wr, rfl⟩
        have HBG : Hid (Bg2 w wE (wc.heap.size + 1) wE.heap.size r q o n C T W (.slice none 0 0) []) := ⟨hBgn.rws, hBgn.wts, hBgn.ord, hBgn.lt, hBgn.ne, World.ownsRow_nil _ _ _ _, hRl, (fun k hk b hb => (ownsRow_lt' (hBgn.rws.own k hk) b hb).1), hB, Nat.le_refl _⟩
        clear hRan hall hT hW hBgn hB
        go_wp2
        clear hnx hco
        go_loopw [69] (fun iv wr => ∃ (i : Nat) (rv : Value), iv = .int .i64 i ∧ i ≤ n ∧ Bg2 w wr (wc.heap.size + 1) wE.heap.size r q o n C T W rv (rdyTo W i)) (fun iv _ => n - (intOf iv).toNat)
        case atStart => exact ⟨0, _, rfl, Nat.zero_le _, HBG.out⟩
        case round =>
          obtain ⟨i, rv, rfl, hin, hG⟩ := hrel
          by_cases hlt : i < n
          · have hlt' : (i : Int) < (n : Int) := by omega
            have hwi : IntKind.i64.wrap ((i : Int) + 1) = ((i + 1 : Nat) : Int) := by rw [IntKind.wrap_i64]; omega
            have hcq : wr.cell? ⟨q, i, none⟩ = some (.int .i64 (W i : Int)) := by rw [hG.wts.cell i]; simp [hlt]
            have HGG : Hid _ := hG
            by_cases hz : W i = 0
            · have hcz : wr.cell? ⟨q, i, none⟩ = some (.int .i64 0) := by rw [hcq, hz]; rfl
              have HZ0 : Hid _ := hz
              have hRl2 : (rdyTo W i).length ≤ i := rdyTo_le W i
              obtain ⟨nl, hnl⟩ : ∃ x, x = (rdyTo W i).length := ⟨_, rfl⟩
              have hown := hG.own
              rw [← hnl] at hown hRl2
              obtain ⟨ra, rc, hrv⟩ := own_slice hown
              have hco2 : wr.cell? ⟨o, 2, none⟩ = some (.slice ra nl rc) := by rw [← hrv]; exact (hG.ord.cell 2).trans rfl
              have hba : Below wr.heap.size wr (wr.alloc (.cells #[.int .i64 (i : Int)] 3)) := (Below.refl _ _).alloc (Nat.le_refl _) _
              have HOa : Hid ((wr.alloc (.cells #[.int .i64 (i : Int)] 3)).ownsRow wE.heap.size 3 1 (.slice ra nl rc) nl (ints (rdyTo W i))) := by rw [← hrv]; exact ownsRow_keep' hown fun g _ hl => hba.block g hl
              have hBs := hG.size
              have hol := hG.ord.lt
              have hoB := hG.lt.2
              have hle := hG.le
              have HNl : Hid _ := hnl
              have HRV : Hid _ := hrv
              clear hcq hz hnl hown hG hrv
              go_wp2_with (
                at_builtin
                refine wpList_plain rfl fun K' hK' => ?_
                refine ap_int (some 83) rfl (.tmp 80) (.tmp 82) rfl wE.heap.size _ nl _ rfl (i : Int) HOa.out rfl hBs (by omega) ?_
                intro v6 w6 hown6 hg6 _
                refine hK' _ _ ?_
                have h76 : Row w6 o #[.slice (some ⟨r, 0, none⟩) n n, .slice (some ⟨q, 0, none⟩) n n, .slice ra nl rc] 70 := (hg6.block o (by simp; omega) (fun e => by have := (ownsRow_lt' HOa.out o e.symm).2; omega)).trans ((hba.block o hol).trans (by rw [← HRV.out]; exact HGG.out.ord))
                obtain ⟨a6, c6, rfl⟩ := own_slice hown6
                have HB6 : Hid (Bg2 w (w6.setCell ⟨o, 2, none⟩ (.slice a6 (nl + 1) c6)) (wc.heap.size + 1) wE.heap.size r q o n C T W (.slice a6 (nl + 1) c6) (rdyTo W (i + 1))) := by
                  rw [rdyTo_yes HZ0.out]
                  exact Bg2.more HGG.out hlo (by rw [← HNl.out]; exact hown6) (by rw [HRV.out]; exact hg6)
                have q6 := (h76.cell 2).trans (rfl : _ = some (Value.slice ra nl rc))
                have f6 := h76.frozen 2
                clear hown6 hg6 h76)
              go_roundw
              case rel => exact ⟨i + 1, _, by go_num, by omega, HB6.out⟩
              case measure => simp [intOf]; omega
            · obtain ⟨z, hzz⟩ : ∃ z, z = W i := ⟨_, rfl⟩
              rw [← hzz] at hcq
              have hz0 : ¬ (z : Int) = 0 := by omega
              have HZ0 : Hid (¬ W i = 0) := hz
              clear hz hzz hG
              go_wp2
              go_roundw
              case rel => exact ⟨i + 1, rv, by go_num, by omega, by rw [rdyTo_no HZ0.out]; exact HGG.out⟩
              case measure => simp [intOf]; omega
          · have hlt' : ¬ (i : Int) < (n : Int) := by omega
            obtain rfl : i = n := by omega
            have HW2 : Hid (BeginPost i E w (.returned (.pointer (some ⟨o, 0, none⟩))) wr) := ⟨wc.heap.size + 1, wE.heap.size, r, q, o, C, D, rv, rfl, HF.out.1, HF.out.2, by rw [← HT.out, ← HW.out]; exact hG.done, hG.low, hlr, hlq, hlo⟩
            clear hG
            go_wp2
            go_ret
            exact HW2.out
      · obtain ⟨xa, xb⟩ := x
        have hxb := HE.out (xa, xb) hxE
        simp only at hxb
        have hDl : D.length ≤ E.length := len_le D E hRan.nd hRan.subD
        have hTl : (refT D xb).length ≤ E.length := by
          unfold refT
          rw [List.length_map]
          exact Nat.le_trans (List.length_filter_le _ _) hDl
        have hWl : waitN D xa ≤ E.length := Nat.le_trans (List.length_filter_le _ _) hDl
        have hsW := hB.size
        have hRl := hBgn.rws.le
        have hB3 : Below w.heap.size w w3 := hB.trans ⟨hos, htp, hou, by omega, fun k hk => hoth k (by omega)⟩
        have hG3 : Bgn w3 (wc.heap.size + 1) r q o n C (refT D) (waitN D) := hBgn.keep (fun k hk hD => hoth k (fun e => by
          obtain ⟨C', t', fr', h1⟩ := hD
          obtain ⟨seen, h2, _⟩ := hRan.iter
          rw [e, h2] at h1
          cases h1)) (by omega)
        obtain ⟨w4, hw4⟩ : ∃ x, x = w3.alloc (.cells #[.int .i64 (xa : Int), .int .i64 (xb : Int)] 77) := ⟨_, rfl⟩
        have hb34 : Below w3.heap.size w3 w4 := by rw [hw4]; exact (Below.refl _ _).alloc (Nat.le_refl _) _
        have hr4 : Row w4 w3.heap.size #[.int .i64 (xa : Int), .int .i64 (xb : Int)] 77 := by rw [hw4]; exact Row.new w3 _ _
        have hG4 := hG3.keep (w' := w4) (fun k hk _ => hb34.block k hk) hb34.size
        have hml3 : m < w3.heap.size := by have := (Array.getElem?_eq_some_iff.1 hRan3.edges.obj).1; exact this
        have hil3 : wc.heap.size < w3.heap.size := by obtain ⟨_, h2, _⟩ := hRan3.iter; exact (Array.getElem?_eq_some_iff.1 h2).1
        have hRan4 := hRan3.keep (w' := w4) (hb34.block m hml3) (hb34.block _ hil3)
        have hB4 : Below w.heap.size w w4 := hB3.trans (hb34.mono hB3.size)
        have hen3 := hent w3 rfl rfl
        have HG : Hid (Ran w4 m wc.heap.size E es clk (ds ++ [en]) (D ++ [(xa, xb)]) ∧ Bgn w4 (wc.heap.size + 1) r q o n C (refT D) (waitN D) ∧ Below w.heap.size w w4 ∧ Row w4 w3.heap.size #[.int .i64 (xa : Int), .int .i64 (xb : Int)] 77) := ⟨hRan4, hG4, hB4, hr4⟩
        have hone : (#[.int .i64 (xa : Int), .int .i64 (xb : Int)] : Array Value).all (·.oneCell') = true := by simp [Value.oneCell']
        have hw4' := hw4.symm
        have hc40 : w4.cell? ⟨w3.heap.size, 0, none⟩ = some (.int .i64 (xa : Int)) := (hr4.cell 0).trans rfl
        have hc41 : w4.cell? ⟨w3.heap.size, 1, none⟩ = some (.int .i64 (xb : Int)) := (hr4.cell 1).trans rfl
        -- the measure
        obtain ⟨s0, hs0, hs0'⟩ := hRan.iter
        have hl0 : s0.size = D.length := by
          have h1 := congrArg List.length hs0'
          have h2 := congrArg List.length hRan.keys
          rw [List.length_map] at h1
          rw [List.length_map, List.length_map] at h2
          simp at h1
          omega
        have HS0 : Hid (∀ wz, Ran wz m wc.heap.size E es clk (ds ++ [en]) (D ++ [(xa, xb)]) → (match wz.heap[wc.heap.size]? with | some (.mapIter _ _ seen _) => E.length - seen.size | _ => 0) < (match wr.heap[wc.heap.size]? with | some (.mapIter _ _ seen _) => E.length - seen.size | _ => 0)) := fun wz hz => by
          obtain ⟨s7, hs7, hs7'⟩ := hz.iter
          have hl7 : s7.size = D.length + 1 := by
            have h1 := congrArg List.length hs7'
            have h2 := congrArg List.length hz.keys
            rw [List.length_map] at h1
            rw [List.length_map, List.length_map, List.length_append] at h2
            simp at h1 h2
            omega
          have hDE : D.length + 1 ≤ E.length := by
            have := len_le _ _ hz.nd hz.subD
            rw [List.length_append] at this
            exact this
          rw [hs0, hs7]
          show _ - _ < _ - _
          omega
        clear hs0 hs0' hl0
        clear hw4 hb34 hr4 hG4 hRan4 hB4 hG3 hRan3 hB3 hent hoth hos htp hou hsz3 hRan hBgn hB hDl
        simp only [ekey] at hnx hen3
        by_cases hab : xa = xb
        · subst hab
          go_wp2_with (refine wpList_store_new rfl 77 _ _ rfl w3 #[.int .i64 0, .int .i64 0] #[.int .i64 (xa : Int), .int .i64 (xa : Int)] 77 rfl w3.heap.size rfl rfl rfl infoE rfl hone ?_)
          go_roundw
          case rel =>
            refine ⟨ds ++ [en], D ++ [(xa, xa)], C, ?_, ?_, ?_⟩
            · exact HG.out.1
            · rw [refT_self, waitN_self]; exact HG.out.2.1
            · exact HG.out.2.2.1
          case measure => exact HS0.out _ HG.out.1
        · have hne1 : ¬ (xa : Int) = (xb : Int) := by omega
          obtain ⟨T, hT⟩ : ∃ T, T = refT D := ⟨_, rfl⟩
          obtain ⟨W, hW⟩ : ∃ W, W = waitN D := ⟨_, rfl⟩
          rw [← hT] at HG hTl
          rw [← hW] at HG hWl
          have HT : Hid _ := hT
          have HW : Hid _ := hW
          clear hT hW
          go_wp2_with (refine wpList_store_new rfl 77 _ _ rfl w3 #[.int .i64 0, .int .i64 0] #[.int .i64 (xa : Int), .int .i64 (xb : Int)] 77 rfl w3.heap.size rfl rfl rfl infoE rfl hone ?_)
          have hGd : Bgn w4.drew (wc.heap.size + 1) r q o n C T W := HG.out.2.1.keep (w' := w4.drew) (fun k hk _ => rfl) (Nat.le_refl _)
          have hrd : Row w4.drew w3.heap.size #[.int .i64 (xa : Int), .int .i64 (xb : Int)] 77 := HG.out.2.2.2
          have hlt4 : w3.heap.size < w4.heap.size := Row.lt HG.out.2.2.2
          have hxn : (xb : Int) < (n : Int) := by omega
          have hxm : (xa : Int) < (n : Int) := by omega
          refine wp_region_perm [(false, 0), (false, 1), (false, 2), (false, 3), (false, 4), (false, 5), (false, 6), (false, 7), (false, 8), (false, 9), (false, 10), (false, 11), (false, 12), (false, 13), (false, 14), (false, 15), (true, 16), (true, 17), (false, 18), (true, 19)] (fun wx => Row wx w3.heap.size #[.int .i64 (xa : Int), .int .i64 (xb : Int)] 77 ∧ Row wx r ((List.range n).map C).toArray 68 ∧ Row wx o #[.slice (some ⟨r, 0, none⟩) n n, .slice (some ⟨q, 0, none⟩) n n, .slice none 0 0] 70) (by kernel_rfl) (by kernel_rfl) ⟨hrd, hGd.rws.row, hGd.ord⟩ ?_
          refine p_value (some 35) (.pointer (some ⟨o, 0, none⟩)) rfl rfl (by rfl) (fun wx hw => ?_) ?_
          · go_simp
          simp only [Act.put, List.setIfInBounds_toArray, List.set_cons_zero, List.set_cons_succ]
          refine p_value (some 36) (.pointer (some ⟨o, 0, none⟩)) rfl rfl (by rfl) (fun wx hw => ?_) ?_
          · go_simp
          simp only [Act.put, List.setIfInBounds_toArray, List.set_cons_zero, List.set_cons_succ]
          refine p_value (some 37) (.pointer (some ⟨o, 0, none⟩)) rfl rfl (by rfl) (fun wx hw => ?_) ?_
          · go_simp
          simp only [Act.put, List.setIfInBounds_toArray, List.set_cons_zero, List.set_cons_succ]
          refine p_value (some 38) (.slice (some ⟨r, 0, none⟩) n n) rfl rfl (by rfl) (fun wx hw => ?_) ?_
          · have h0 := (hw.2.2.cell 0).trans (rfl : _ = some (Value.slice (some ⟨r, 0, none⟩) n n))
            go_simp
          simp only [Act.put, List.setIfInBounds_toArray, List.set_cons_zero, List.set_cons_succ]
          refine p_value (some 39) (.pointer (some ⟨w3.heap.size, 1, none⟩)) rfl rfl (by rfl) (fun wx hw => ?_) ?_
          · go_simp
          simp only [Act.put, List.setIfInBounds_toArray, List.set_cons_zero, List.set_cons_succ]
          refine p_value (some 40) (.int .i64 (xb : Int)) rfl rfl (by rfl) (fun wx hw => ?_) ?_
          · have h0 := (hw.1.cell 1).trans (rfl : _ = some (Value.int .i64 (xb : Int)))
            go_simp
          simp only [Act.put, List.setIfInBounds_toArray, List.set_cons_zero, List.set_cons_succ]
          refine p_value (some 41) (.pointer (some ⟨o, 0, none⟩)) rfl rfl (by rfl) (fun wx hw => ?_) ?_
          · go_simp
          simp only [Act.put, List.setIfInBounds_toArray, List.set_cons_zero, List.set_cons_succ]
          refine p_value (some 42) (.pointer (some ⟨o, 0, none⟩)) rfl rfl (by rfl) (fun wx hw => ?_) ?_
          · go_simp
          simp only [Act.put, List.setIfInBounds_toArray, List.set_cons_zero, List.set_cons_succ]
          refine p_value (some 43) (.pointer (some ⟨o, 0, none⟩)) rfl rfl (by rfl) (fun wx hw => ?_) ?_
          · go_simp
          simp only [Act.put, List.setIfInBounds_toArray, List.set_cons_zero, List.set_cons_succ]
          refine p_value (some 44) (.slice (some ⟨r, 0, none⟩) n n) rfl rfl (by rfl) (fun wx hw => ?_) ?_
          · have h0 := (hw.2.2.cell 0).trans (rfl : _ = some (Value.slice (some ⟨r, 0, none⟩) n n))
            go_simp
          simp only [Act.put, List.setIfInBounds_toArray, List.set_cons_zero, List.set_cons_succ]
          refine p_value (some 45) (.pointer (some ⟨w3.heap.size, 1, none⟩)) rfl rfl (by rfl) (fun wx hw => ?_) ?_
          · go_simp
          simp only [Act.put, List.setIfInBounds_toArray, List.set_cons_zero, List.set_cons_succ]
          refine p_value (some 46) (.int .i64 (xb : Int)) rfl rfl (by rfl) (fun wx hw => ?_) ?_
          · have h0 := (hw.1.cell 1).trans (rfl : _ = some (Value.int .i64 (xb : Int)))
            go_simp
          simp only [Act.put, List.setIfInBounds_toArray, List.set_cons_zero, List.set_cons_succ]
          refine p_value (some 47) (.pointer (some ⟨r, xb, none⟩)) rfl rfl (by rfl) (fun wx hw => ?_) ?_
          · go_simp
          simp only [Act.put, List.setIfInBounds_toArray, List.set_cons_zero, List.set_cons_succ]
          refine p_value (some 48) (C xb) rfl rfl (by rfl) (fun wx hw => ?_) ?_
          · have h0 : wx.cell? ⟨r, xb, none⟩ = some (C xb) := by rw [hw.2.1.cell xb]; simp [hxb.2]
            go_simp
          simp only [Act.put, List.setIfInBounds_toArray, List.set_cons_zero, List.set_cons_succ]
          refine p_value (some 49) (.pointer (some ⟨w3.heap.size, 0, none⟩)) rfl rfl (by rfl) (fun wx hw => ?_) ?_
          · go_simp
          simp only [Act.put, List.setIfInBounds_toArray, List.set_cons_zero, List.set_cons_succ]
          refine p_value (some 50) (.int .i64 (xa : Int)) rfl rfl (by rfl) (fun wx hw => ?_) ?_
          · have h0 := (hw.1.cell 0).trans (rfl : _ = some (Value.int .i64 (xa : Int)))
            go_simp
          simp only [Act.put, List.setIfInBounds_toArray, List.set_cons_zero, List.set_cons_succ]
          have hb5 : Below w4.drew.heap.size w4.drew (w4.drew.alloc (.cells #[.int .i64 (xa : Int)] 3)) := (Below.refl _ _).alloc (Nat.le_refl _) _
          have hG5 := hGd.keep (w' := w4.drew.alloc (.cells #[.int .i64 (xa : Int)] 3)) (fun k hk _ => hb5.block k hk) hb5.size
          have hr5 : Row (w4.drew.alloc (.cells #[.int .i64 (xa : Int)] 3)) w3.heap.size #[.int .i64 (xa : Int), .int .i64 (xb : Int)] 77 := hrd.below hb5 hrd.lt
          refine p_alone (some 51) (.slice (some ⟨w4.heap.size, 0, none⟩) 1 1) (w4.drew.alloc (.cells #[.int .i64 (xa : Int)] 3)) rfl rfl (by rfl) (by kernel_rfl) (fun _ => ⟨hr5, hG5.rws.row, hG5.ord⟩) ?_
          simp only [Act.put, List.setIfInBounds_toArray, List.set_cons_zero, List.set_cons_succ]
          refine p_wp rfl (by rfl) ?_
          refine ap_int (some 52) rfl (.tmp 48) (.tmp 51) rfl (wc.heap.size + 1) _ (T xb).length _ rfl (xa : Int) (hG5.rws.own xb hxb.2) rfl hGd.rws.le (by omega) ?_
          intro v6 w6 hown6 hg6 hor6
          have hown : ∀ b, (C xb).ownBlock = some b → wc.heap.size + 1 ≤ b := fun b hb => (ownsRow_lt' (hG5.rws.own xb hxb.2) b hb).2
          have hobk : ∀ b, (C xb).ownBlock = some b → ∃ D, (w4.drew.alloc (.cells #[.int .i64 (xa : Int)] 3)).heap[b]? = some (.cells D 3 (0, 0)) := ownsRow_row (hG5.rws.own xb hxb.2)
          have hr6 : Row w6 w3.heap.size #[.int .i64 (xa : Int), .int .i64 (xb : Int)] 77 := (hg6.block _ hr5.lt (fun e => by
            obtain ⟨D', hD'⟩ := hobk _ e.symm
            have h1 : (w4.drew.alloc (.cells #[.int .i64 (xa : Int)] 3)).heap[w3.heap.size]? = _ := hr5
            rw [hD'] at h1
            simp only [Option.some.injEq, Obj.cells.injEq] at h1
            exact absurd h1.2.1 (by decide))).trans hr5
          have hR6 : Row w6 r ((List.range n).map C).toArray 68 := (hg6.block _ hG5.rws.row.lt (fun e => by have := hown _ e.symm; have := hG5.rws.lt; omega)).trans hG5.rws.row
          have hO6 : Row w6 o #[.slice (some ⟨r, 0, none⟩) n n, .slice (some ⟨q, 0, none⟩) n n, .slice none 0 0] 70 := (hg6.block _ hG5.ord.lt (fun e => by have := hown _ e.symm; have := hG5.lt.2; omega)).trans hG5.ord
          have HM : Hid (Bgn (w6.setCell ⟨r, xb, none⟩ v6) (wc.heap.size + 1) r q o n (fun j => if j = xb then v6 else C j) (fun j => if j = xb then T xb ++ [xa] else T j) W) := hG5.more hxb.2 hown6 hg6 (hor6.imp id fun h => by rw [h]; simp)
          have hmB : m < w4.heap.size := (Array.getElem?_eq_some_iff.1 HG.out.1.edges.obj).1
          have hiB : wc.heap.size < w4.heap.size := by have := hGd.rws.le; exact this
          have hlow : ∀ k, k ≤ wc.heap.size → k ≠ r → (w6.setCell ⟨r, xb, none⟩ v6).heap[k]? = w4.heap[k]? := fun k h1 h2 =>
            (heap_setCell_other w6 ⟨r, xb, none⟩ k v6 h2).trans ((hg6.block k (by simp; omega) (fun e => by have := hown _ e.symm; omega)).trans (hb5.block k (by show k < w4.heap.size; omega)))
          have hri : r ≠ wc.heap.size := fun e => by
            obtain ⟨s4, hs4, _⟩ := HG.out.1.iter
            have h1 : w4.heap[r]? = _ := HG.out.2.1.rws.row
            rw [e, hs4] at h1
            cases h1
          have HRn : Hid (Ran (w6.setCell ⟨r, xb, none⟩ v6) m wc.heap.size E es clk (ds ++ [en]) (D ++ [(xa, xb)])) := HG.out.1.keep (hlow m (by omega) (by omega)) (hlow _ (Nat.le_refl _) (Ne.symm hri))
          have HB6 : Hid (Below w.heap.size w (w6.setCell ⟨r, xb, none⟩ v6)) := HG.out.2.2.1.trans ⟨hg6.os, hg6.tape, hg6.output, by have := hg6.size; simp at this ⊢; omega, fun k hk => hlow k (by omega) (by omega)⟩
          have hr6e : Row (w6.setCell ⟨r, xb, none⟩ v6) w3.heap.size #[.int .i64 (xa : Int), .int .i64 (xb : Int)] 77 := (heap_setCell_other w6 ⟨r, xb, none⟩ w3.heap.size v6 (fun e => by
            have h1 : w6.heap[w3.heap.size]? = _ := hr6
            have h2 : w6.heap[r]? = _ := hR6
            have e' : w3.heap.size = r := e
            rw [e', h2] at h1
            simp only [Option.some.injEq, Obj.cells.injEq] at h1
            exact absurd h1.2.1 (by decide))).trans hr6
          have HE6 : Hid _ := hr6e
          refine ⟨fun _ => ⟨hr6, hR6, hO6⟩, ?_⟩
          obtain ⟨a6, c6, rfl⟩ := own_slice hown6
          simp only [Act.put, List.setIfInBounds_toArray, List.set_cons_zero, List.set_cons_succ]
          refine p_value (some 53) (.pointer (some ⟨r, xb, none⟩)) rfl rfl (by rfl) (fun wx hw => ?_) ?_
          · go_simp
          simp only [Act.put, List.setIfInBounds_toArray, List.set_cons_zero, List.set_cons_succ]
          have q6 : w6.cell? ⟨r, xb, none⟩ = some (C xb) := by rw [hR6.cell xb]; simp [hxb.2]
          have f6 := hR6.frozen xb
          refine p_store (w6.setCell ⟨r, xb, none⟩ (.slice a6 ((T xb).length + 1) c6)) rfl rfl (by rfl) (by go_simp) (fun h => absurd rfl h) ?_
          refine p_done ?_
          try simp only [Exit.then]
          clear hown6 hg6 hor6 hown hobk hr6 hR6 hO6 hlow q6 f6 hG5 hr5 hGd hrd hb5 hr6e hri
          generalize w6.setCell ⟨r, xb, none⟩ (.slice a6 ((T xb).length + 1) c6) = w7 at *
          go_upto_region 7 with fail
          have hMd : Bgn w7.drew (wc.heap.size + 1) r q o n (fun j => if j = xb then .slice a6 ((T xb).length + 1) c6 else C j) (fun j => if j = xb then T xb ++ [xa] else T j) W := HM.out.keep (w' := w7.drew) (fun k hk _ => rfl) (Nat.le_refl _)
          have hEd : Row w7.drew w3.heap.size #[.int .i64 (xa : Int), .int .i64 (xb : Int)] 77 := HE6.out
          refine wp_region_perm [(false, 0), (false, 1), (false, 2), (false, 3), (false, 4), (false, 5), (false, 6), (false, 7), (false, 8), (false, 9), (true, 10)] (fun wx => Row wx w3.heap.size #[.int .i64 (xa : Int), .int .i64 (xb : Int)] 77 ∧ Row wx q (intsN n W) 3 ∧ Row wx o #[.slice (some ⟨r, 0, none⟩) n n, .slice (some ⟨q, 0, none⟩) n n, .slice none 0 0] 70) (by kernel_rfl) (by kernel_rfl) ⟨hEd, hMd.wts, hMd.ord⟩ ?_
          refine p_value (some 54) (.pointer (some ⟨o, 0, none⟩)) rfl rfl (by rfl) (fun wx hw => ?_) ?_
          · go_simp
          simp only [Act.put, List.setIfInBounds_toArray, List.set_cons_zero, List.set_cons_succ]
          refine p_value (some 55) (.pointer (some ⟨o, 0, none⟩)) rfl rfl (by rfl) (fun wx hw => ?_) ?_
          · go_simp
          simp only [Act.put, List.setIfInBounds_toArray, List.set_cons_zero, List.set_cons_succ]
          refine p_value (some 56) (.pointer (some ⟨o, 1, none⟩)) rfl rfl (by rfl) (fun wx hw => ?_) ?_
          · go_simp
          simp only [Act.put, List.setIfInBounds_toArray, List.set_cons_zero, List.set_cons_succ]
          refine p_value (some 57) (.slice (some ⟨q, 0, none⟩) n n) rfl rfl (by rfl) (fun wx hw => ?_) ?_
          · have h0 := (hw.2.2.cell 1).trans (rfl : _ = some (Value.slice (some ⟨q, 0, none⟩) n n))
            go_simp
          simp only [Act.put, List.setIfInBounds_toArray, List.set_cons_zero, List.set_cons_succ]
          refine p_value (some 58) (.pointer (some ⟨w3.heap.size, 0, none⟩)) rfl rfl (by rfl) (fun wx hw => ?_) ?_
          · go_simp
          simp only [Act.put, List.setIfInBounds_toArray, List.set_cons_zero, List.set_cons_succ]
          refine p_value (some 59) (.int .i64 (xa : Int)) rfl rfl (by rfl) (fun wx hw => ?_) ?_
          · have h0 := (hw.1.cell 0).trans (rfl : _ = some (Value.int .i64 (xa : Int)))
            go_simp
          simp only [Act.put, List.setIfInBounds_toArray, List.set_cons_zero, List.set_cons_succ]
          refine p_value (some 60) (.pointer (some ⟨q, xa, none⟩)) rfl rfl (by rfl) (fun wx hw => ?_) ?_
          · go_simp
          simp only [Act.put, List.setIfInBounds_toArray, List.set_cons_zero, List.set_cons_succ]
          refine p_value (some 61) (.int .i64 (W xa : Int)) rfl rfl (by rfl) (fun wx hw => ?_) ?_
          · have h0 : wx.cell? ⟨q, xa, none⟩ = some (.int .i64 (W xa : Int)) := by rw [hw.2.1.cell xa]; simp [hxb.1]
            go_simp
          simp only [Act.put, List.setIfInBounds_toArray, List.set_cons_zero, List.set_cons_succ]
          refine p_value (some 62) (.int .i64 ((W xa + 1 : Nat) : Int)) rfl rfl (by rfl) (fun wx hw => ?_) ?_
          · have hwb : (W xa : Int) ≤ 16777216 := by omega
            have hwc : ((W xa + 1 : Nat) : Int) = (W xa : Int) + 1 := by omega
            rw [hwc]
            have hw9 : IntKind.i64.wrap ((W xa : Int) + 1) = (W xa : Int) + 1 := by rw [IntKind.wrap_i64]; omega
            go_simp
          simp only [Act.put, List.setIfInBounds_toArray, List.set_cons_zero, List.set_cons_succ]
          refine p_value (some 63) (.pointer (some ⟨q, xa, none⟩)) rfl rfl (by rfl) (fun wx hw => ?_) ?_
          · go_simp
          simp only [Act.put, List.setIfInBounds_toArray, List.set_cons_zero, List.set_cons_succ]
          have q7 : w7.drew.cell? ⟨q, xa, none⟩ = some (.int .i64 (W xa : Int)) := by rw [hMd.wts.cell xa]; simp [hxb.1]
          have f7 := hMd.wts.frozen xa
          have HW7 : Hid _ := hMd.wait xa (W xa + 1)
          have hB7 := HB6.out.size
          have hqi : q ≠ wc.heap.size := fun e => by
            obtain ⟨s4, hs4, _⟩ := HRn.out.iter
            have h1 : w7.heap[q]? = _ := hMd.wts
            rw [e, hs4] at h1
            cases h1
          have hlow : ∀ k, k ≠ q → (w7.drew.setCell ⟨q, xa, none⟩ (.int .i64 ((W xa + 1 : Nat) : Int))).heap[k]? = w7.heap[k]? := fun k h2 => heap_setCell_other w7.drew ⟨q, xa, none⟩ k _ h2
          have HR7 : Hid _ := HRn.out.keep (w' := w7.drew.setCell ⟨q, xa, none⟩ (.int .i64 ((W xa + 1 : Nat) : Int))) (hlow m (by omega)) (hlow _ (Ne.symm hqi))
          have HB8 : Hid (Below w.heap.size w (w7.drew.setCell ⟨q, xa, none⟩ (.int .i64 ((W xa + 1 : Nat) : Int)))) := HB6.out.trans ⟨rfl, rfl, rfl, by simp, fun k hk => hlow k (by omega)⟩
          refine p_store (w7.drew.setCell ⟨q, xa, none⟩ (.int .i64 ((W xa + 1 : Nat) : Int))) rfl rfl (by rfl) (by go_simp) (fun h => absurd rfl h) ?_
          refine p_done ?_
          try simp only [Exit.then]
          clear q7 f7 hlow hMd hEd hqi
          generalize w7.drew.setCell ⟨q, xa, none⟩ (.int .i64 ((W xa + 1 : Nat) : Int)) = w8 at *
          go_wp2
          go_roundw
          case rel =>
            refine ⟨ds ++ [en], D ++ [(xa, xb)], (fun j => if j = xb then .slice a6 ((T xb).length + 1) c6 else C j), HR7.out, ?_, HB8.out⟩
            rw [refT_more hab, waitN_more hab, ← HT.out, ← HW.out]
            exact HW7.out
          case measure => exact HS0.out _ HR7.out
end Go.Proofs.Ytkbhckjpmgkgjaa
