/- What BlockKeeps holds on to: four rows of texts, what is sure, and what was sure at each event. -/
import Derived.Test.YtpdcmhfmicemnaaApart
import Derived.Test.YtpdcmhfmicemnaaKeepsMath
namespace Go.Proofs.Ytpdcmhfmicemnaa
open Go.RowKit

theorem Try.info9 : (Try.prog.info? 9).map (fun i => (i.zero, i.size, i.bytes)) = some (some (.string ⟨#[]⟩), 1, 16) := by kernel_rfl
theorem Try.info3 : (Try.prog.info? 3).map (fun i => (i.zero, i.size, i.bytes)) = some (some (.int .i64 0), 1, 8) := by kernel_rfl

def upd {α : Type} (v : Nat → α) (k : Nat) (x : α) (i : Nat) : α := if i = k then x else v i
def four {α : Type} (v : Nat → α) : List α := [v 0, v 1, v 2, v 3]
theorem four_at {α : Type} (v : Nat → α) (k : Nat) (h : k < 4) : (four v)[k]? = some (v k) := by
  match k, h with
  | 0, _ => rfl
  | 1, _ => rfl
  | 2, _ => rfl
  | 3, _ => rfl
theorem four_set {α : Type} (v : Nat → α) (k : Nat) (x : α) (h : k < 4) : (four v).toArray.setIfInBounds k x = (four (upd v k x)).toArray := by
  match k, h with
  | 0, _ => simp [four, upd]
  | 1, _ => simp [four, upd]
  | 2, _ => simp [four, upd]
  | 3, _ => simp [four, upd]
theorem four_atA {α : Type} (v : Nat → α) (k : Nat) (h : k < 4) : (four v).toArray[k]? = some (v k) := by simpa using four_at v k h

/-- Four rows of texts, each in a block of its own, and the block that holds them. -/
structure Wr (w : World) (base gw : Nat) (v : Nat → Value) (T : Nat → List ByteArray) : Prop where
  row : Row w gw (four v).toArray 51
  own : ∀ k, k < 4 → w.ownsRow base 9 1 (v k) (T k).length ((T k).map Value.string)
  apart : ∀ i k, i < 4 → k < 4 → i ≠ k → ∀ q, (v i).ownBlock = some q → (v k).ownBlock ≠ some q
theorem Wr.keepT {w w' : World} {base gw : Nat} {v : Nat → Value} {T : Nat → List ByteArray} (h : Wr w base gw v T) (hk : ∀ k C t, Row w k C t → t = 51 ∨ t = 9 → w'.heap[k]? = w.heap[k]?) : Wr w' base gw v T :=
  ⟨(hk _ _ _ h.row (.inl rfl)).trans h.row, fun k h4 => ownsRow_keep (h.own k h4) (fun q hq _ => by
    obtain ⟨_, _, cur, hr⟩ := ownsRow_lt (h.own k h4) q hq
    exact hk _ _ _ hr (.inr rfl)), h.apart⟩
/-- One text more in one of them. -/
theorem Wr.more {w w3 : World} {base gw : Nat} {v : Nat → Value} {T : Nat → List ByteArray} (h : Wr w base gw v T) (k : Nat) (hk : k < 4) (t : ByteArray) (W : World) (hW : Below w.heap.size w W) (hs : w.heap.size ≤ W.heap.size) (v' : Value)
    (hown : w3.ownsRow base 9 1 v' ((T k).length + 1) ((T k).map Value.string ++ [.string t])) (hg : W.grownBy w3 (v k).ownBlock) (hat : v'.ownBlock = (v k).ownBlock ∨ v'.ownBlock = some W.heap.size) :
    Row w3 gw (four v).toArray 51 ∧ Wr (w3.setCell ⟨gw, k, none⟩ v') base gw (upd v k v') (upd T k (T k ++ [t])) := by
  have hW0 : Row W gw (four v).toArray 51 := h.row.below hW h.row.lt
  have hokW : W.ownsRow base 9 1 (v k) (T k).length ((T k).map Value.string) := ownsRow_below (h.own k hk) hW
  have hR3 : Row w3 gw (four v).toArray 51 := (row_grown hokW hg hW0 (by decide)).trans hW0
  have hset : ∀ q C, Row w3 q C 9 → (w3.setCell ⟨gw, k, none⟩ v').heap[q]? = w3.heap[q]? := fun q C hr => Below.heap_setCell _ _ _ _ (row_ne hr hR3 (by decide))
  refine ⟨hR3, ?_, ?_, ?_⟩
  · have e := hR3.setCell (i := k) v'
    rw [four_set v k v' hk] at e
    exact e
  · intro i hi
    unfold upd
    by_cases hik : i = k
    · subst hik
      simp only [if_true, List.length_append, List.length_cons, List.length_nil, List.map_append, List.map_cons, List.map_nil]
      refine ownsRow_keep hown fun q hq _ => ?_
      obtain ⟨_, _, cur, hr⟩ := ownsRow_lt hown q hq
      exact hset q cur hr
    · simp only [hik, if_false]
      have o1 := ownsRow_below (h.own i hi) hW
      have o2 : w3.ownsRow base 9 1 (v i) (T i).length ((T i).map Value.string) := ownsRow_keep o1 fun q hq hl => hg.block q hl (fun e => h.apart i k hi hk hik q hq (by rw [e]))
      refine ownsRow_keep o2 fun q hq _ => ?_
      obtain ⟨_, _, cur, hr⟩ := ownsRow_lt o2 q hq
      exact hset q cur hr
  · intro i j hi hj hij q hq
    unfold upd at hq ⊢
    have hlt : ∀ i, i < 4 → ∀ q, (v i).ownBlock = some q → q < W.heap.size := fun i hi q hq => by
      have := (ownsRow_lt (h.own i hi) q hq).1
      omega
    by_cases hik : i = k
    · subst hik
      simp only [if_true] at hq
      have hji : ¬ j = i := fun e => hij e.symm
      simp only [hji, if_false]
      rcases hat with e | e
      · exact h.apart i j hi hj hij q (by rw [← e]; exact hq)
      · rw [e] at hq
        intro h2
        have := hlt j hj q h2
        simp at hq
        omega
    · simp only [hik, if_false] at hq
      by_cases hjk : j = k
      · subst hjk
        simp only [if_true]
        rcases hat with e | e
        · rw [e]; exact h.apart i j hi hj hij q hq
        · rw [e]
          intro h2
          have := hlt i hi q hq
          simp at h2
          omega
      · simp only [hjk, if_false]
        exact h.apart i j hi hj hij q hq

/-- Four numbers. -/
def row4 (f : Nat → Nat) : List Value := four fun k => Value.int .i64 (f k)
/-- How many texts were sure at event n. -/
def sfAt (D : Dk) (n k : Nat) : Nat := (wl D.F D.ev k (safeN D.ev n)).length - 1
def sureL (D : Dk) (n : Nat) : List Value := (List.range n).flatMap fun i => row4 (sfAt D (i + 1))
theorem sureL_succ (D : Dk) (n : Nat) : sureL D (n + 1) = sureL D n ++ row4 (sfAt D (n + 1)) := by simp [sureL, List.range_succ]
theorem sureL_len (D : Dk) (n : Nat) : (sureL D n).length = 4 * n := by
  induction n with
  | zero => rfl
  | succ n ih => rw [sureL_succ, List.length_append, ih]; simp [row4, four]; omega
theorem sureL_at (D : Dk) (n i k : Nat) (hi : i < n) (hk : k < 4) : (sureL D n)[4 * i + k]? = some (.int .i64 (sfAt D (i + 1) k)) := by
  induction n with
  | zero => omega
  | succ n ih =>
    rw [sureL_succ]
    by_cases h : i < n
    · rw [List.getElem?_append_left (by rw [sureL_len]; omega)]
      exact ih h
    · obtain rfl : i = n := by omega
      rw [List.getElem?_append_right (by rw [sureL_len]; omega), sureL_len, show 4 * i + k - 4 * i = k by omega]
      exact four_at _ k hk
theorem sfAt_congr (D D' : Dk) (n m : Nat) (hn : n ≤ m) (hF : D'.F = D.F) (h : ∀ i, i < m → D'.ev i = D.ev i) : sfAt D' n = sfAt D n := by
  funext k
  unfold sfAt
  have h1 : safeN D'.ev n = safeN D.ev n := safeN_congr _ _ _ (fun i hi => h i (by omega))
  have h2 := safeN_le D.ev n
  rw [h1, hF, wl_congr D.F D'.ev D.ev k (safeN D.ev n) (fun i hi => h i (by omega))]
theorem sureL_congr (D D' : Dk) (m : Nat) (hF : D'.F = D.F) (h : ∀ i, i < m → D'.ev i = D.ev i) : sureL D' m = sureL D m := by
  have : ∀ n, n ≤ m → sureL D' n = sureL D n := by
    intro n
    induction n with
    | zero => intro _; rfl
    | succ n ih => intro hn; rw [sureL_succ, sureL_succ, ih (by omega), sfAt_congr D D' (n + 1) m hn hF h]
  exact this m (Nat.le_refl _)
/-- The texts of sector k. -/
def Dk.T (D : Dk) (k : Nat) : List ByteArray := wl D.F D.ev k D.E.length
theorem T_flush (D : Dk) : D.flush.T = D.T := by
  funext k
  have h2 : D.flush.ev D.E.length = flushEv := ev_last _ _ _ _ _
  show wl D.F D.flush.ev k (D.E ++ [flushEv]).length = _
  rw [List.length_append, List.length_cons, List.length_nil, wl, h2, if_neg (by simp [flushEv])]
  exact wl_congr _ _ _ _ _ (fun i hi => ev_pre _ _ _ _ _ _ _ _ i hi)
theorem T_write (D : Dk) (n : Nat) (f : Nat → Int) : (D.write n f).T = upd D.T n (D.T n ++ [sStr f]) := by
  funext k
  have h2 : (D.write n f).ev D.E.length = ⟨n, f⟩ := ev_last _ _ _ _ _
  have h1 : wl D.F (D.write n f).ev k D.E.length = D.T k := wl_congr _ _ _ _ _ (fun i hi => ev_pre _ _ _ _ _ _ _ _ i hi)
  show wl D.F (D.write n f).ev k (D.E ++ [(⟨n, f⟩ : Ev)]).length = _
  rw [List.length_append, List.length_cons, List.length_nil, wl, h2, h1]
  unfold upd
  by_cases h : k = n
  · subst h; simp
  · rw [if_neg (by show ¬ ((n : Int) = (k : Int)); omega), if_neg h]
theorem T_pos (D : Dk) (k : Nat) : 1 ≤ (D.T k).length := wl_pos _ _ _ _
theorem T_le (D : Dk) (k : Nat) : (D.T k).length ≤ D.E.length + 1 := by
  unfold Dk.T
  generalize D.E.length = n
  induction n with
  | zero => simp [wl]
  | succ n ih => unfold wl; split <;> (try simp only [List.length_append, List.length_cons, List.length_nil]) <;> omega
theorem sf_flush (D : Dk) : sfAt D.flush (D.E.length + 1) = fun k => (D.T k).length - 1 := by
  funext k
  have h2 : D.flush.ev D.E.length = flushEv := ev_last _ _ _ _ _
  have h3 : safeN D.flush.ev (D.E.length + 1) = D.E.length + 1 := by rw [safeN, h2]; simp [Ev.isFl, flushEv]
  have h4 := congrFun (T_flush D) k
  have h5 : D.flush.T k = wl D.flush.F D.flush.ev k (D.E.length + 1) := by
    show wl D.F D.flush.ev k (D.E ++ [flushEv]).length = _
    rw [List.length_append, List.length_cons, List.length_nil]
    rfl
  unfold sfAt
  rw [h3, ← h5, h4]
theorem sf_write (D : Dk) (n : Nat) (f : Nat → Int) : sfAt (D.write n f) (D.E.length + 1) = sfAt D D.E.length := by
  have h2 : (D.write n f).ev D.E.length = ⟨n, f⟩ := ev_last _ _ _ _ _
  have h3 : sfAt (D.write n f) (D.E.length + 1) = sfAt (D.write n f) D.E.length := by
    funext k
    unfold sfAt
    rw [safeN, h2, if_neg (by simp [Ev.isFl])]
  rw [h3]
  exact sfAt_congr D (D.write n f) _ D.E.length (Nat.le_refl _) rfl (fun i hi => ev_pre _ _ _ _ _ _ _ _ i hi)
theorem sure_flush (D : Dk) : sureL D.flush D.E.length = sureL D D.E.length := sureL_congr D D.flush _ rfl (fun i hi => ev_pre _ _ _ _ _ _ _ _ i hi)
theorem sure_write (D : Dk) (n : Nat) (f : Nat → Int) : sureL (D.write n f) D.E.length = sureL D D.E.length := sureL_congr D (D.write n f) _ rfl (fun i hi => ev_pre _ _ _ _ _ _ _ _ i hi)

/-- What holds all through the acts. -/
structure Kp (w0 : World) (g g1 c1 g2 c2 gw gs : Nat) (ev : Value) (D : Dk) (v : Nat → Value) (sf : Nat → Nat) (sv : Value) (n : Nat) (w : World) : Prop where
  disk : DiskAt w w0.heap.size g g1 c1 g2 c2 ev D
  wr : Wr w w0.heap.size gw v D.T
  safe : Row w gs (row4 sf).toArray 3
  sure : w.ownsRow (gs + 1) 3 1 sv (4 * n) (sureL D n)
  s4 : D.s = 4
  geW : w0.heap.size ≤ gw
  geS : w0.heap.size ≤ gs
  old : Below w0.heap.size w0 w
theorem Kp.ne {w0 : World} {g g1 c1 g2 c2 gw gs : Nat} {ev : Value} {D : Dk} {v : Nat → Value} {sf : Nat → Nat} {sv : Value} {n : Nat} {w : World} (h : Kp w0 g g1 c1 g2 c2 gw gs ev D v sf sv n w) : sv.ownBlock ≠ some gs := fun e => by
  have := (ownsRow_lt h.sure gs e).2.1
  omega
/-- Where all rows of these kinds stay as they were. -/
theorem Kp.swap {w0 : World} {g g1 c1 g2 c2 gw gs : Nat} {ev : Value} {D : Dk} {v : Nat → Value} {sf : Nat → Nat} {sv : Value} {n : Nat} {w w' : World} (h : Kp w0 g g1 c1 g2 c2 gw gs ev D v sf sv n w)
    (hk : ∀ k C t, Row w k C t → t = 45 ∨ t = 5 ∨ t = 65 ∨ t = 51 ∨ t = 9 ∨ t = 3 → w'.heap[k]? = w.heap[k]?) (hb : Below w0.heap.size w0 w') : Kp w0 g g1 c1 g2 c2 gw gs ev D v sf sv n w' :=
  ⟨h.disk.keepT fun k C t hr ht => hk k C t hr (by rcases ht with h | h | h <;> simp [h]), h.wr.keepT fun k C t hr ht => hk k C t hr (by rcases ht with h | h <;> simp [h]), (hk _ _ _ h.safe (by simp)).trans h.safe,
    ownsRow_keep h.sure (fun q hq _ => by
      obtain ⟨_, _, cur, hr⟩ := ownsRow_lt h.sure q hq
      exact hk _ _ _ hr (by simp)), h.s4, h.geW, h.geS, hb⟩
theorem Kp.next {w0 : World} {g g1 c1 g2 c2 gw gs : Nat} {ev : Value} {D : Dk} {v : Nat → Value} {sf : Nat → Nat} {sv : Value} {n : Nat} {w w' : World} (h : Kp w0 g g1 c1 g2 c2 gw gs ev D v sf sv n w) (hb : Below w.heap.size w w') : Kp w0 g g1 c1 g2 c2 gw gs ev D v sf sv n w' :=
  h.swap (fun k _ _ hr _ => hb.block k hr.lt) (h.old.trans (hb.mono h.old.size))

/-- 'append(sure, safe...)'. -/
theorem wpList_sure {ops : Array Oper} {rest : List Oper} {o : Oper} {a : Act} {w : World} {Q : Exit → Act → World → Prop} (hgd : o.guard = none) (s x : Operand) (ho : o.op = .call { callee := .builtin .append, args := #[s, x], argTypes := #[53, 53] }) (base : Nat) (v : Value) (n : Nat) (xs : List Value) (gs : Nat) (f : Nat → Nat)
    (hs : a.eval s = v) (hown : Hid (w.ownsRow base 3 1 v n xs)) (hx : a.eval x = .slice (some ⟨gs, 0, none⟩) 4 4) (hrow : Hid (Row w gs (row4 f).toArray 3)) (hn : n ≤ 1000) (hbase : base ≤ w.heap.size)
    (h : ∀ v' w', Hid (w'.ownsRow base 3 1 v' (n + 4) (xs ++ row4 f)) → w.grownBy w' v.ownBlock → wpList Try.prog ops Q rest (a.put o.dst v') w') : wpList Try.prog ops Q (o :: rest) a w := by
  obtain ⟨i0, hi, hz0, hz1, hz2⟩ := info_parts Try.info3
  refine wpList_append_own_wide _ hgd s x 53 ho base 3 i0 (.int .i64 0) 1 8 Try.underlying53 hi hz0 hz1 hz2 rfl (by decide) v n _ hs hown.out _ 4 4 (row4 f) hx rfl (fun j u hj => ?_) (fun u hu => by
    simp only [row4, four, List.mem_cons, List.not_mem_nil, or_false] at hu
    rcases hu with rfl | rfl | rfl | rfl <;> rfl) (by unfold maxLen; omega) (by omega) hbase (fun v' w' h1 h2 _ => h v' w' h1 h2)
  rw [Addr.add_mid, Nat.zero_add, Row.cell hrow.out j]
  simpa using hj
/-- Behind it. -/
theorem Kp.sured {w0 : World} {g g1 c1 g2 c2 gw gs : Nat} {ev : Value} {D : Dk} {v : Nat → Value} {sv sv' : Value} {n : Nat} {w w' : World} (h : Kp w0 g g1 c1 g2 c2 gw gs ev D v (sfAt D (n + 1)) sv n w)
    (hown : w'.ownsRow (gs + 1) 3 1 sv' (4 * n + 4) (sureL D n ++ row4 (sfAt D (n + 1)))) (hg : w.grownBy w' sv.ownBlock) : Kp w0 g g1 c1 g2 c2 gw gs ev D v (sfAt D (n + 1)) sv' (n + 1) w' := by
  have hsz := h.old.size
  have hlt := h.safe.lt
  refine ⟨h.disk.keepT fun k C t hr ht => row_grown h.sure hg hr (by rcases ht with h | h | h <;> subst h <;> decide), h.wr.keepT fun k C t hr ht => row_grown h.sure hg hr (by rcases ht with h | h <;> subst h <;> decide), ?_, ?_, h.s4, h.geW, h.geS, ?_⟩
  · exact (hg.block gs hlt (fun e => h.ne e.symm)).trans h.safe
  · rw [sureL_succ, show 4 * (n + 1) = 4 * n + 4 by omega]
    exact hown
  · exact own_grown (ownsRow_base h.sure (by have := h.geS; omega)) h.old (by omega) hg
end Go.Proofs.Ytpdcmhfmicemnaa
