/- My own work: what is reached: the closure that reaches one more, and the mathematics. -/
import Derived.Test.YtkbhckjpmgkgjaaG8
import Derived.Deep.LoopGhost
namespace Go.Proofs.Ytkbhckjpmgkgjaa
open Go.RowKit

/-- What some paths reach, by numbers. -/
inductive Rch (E : List (Nat × Nat)) (R : Nat → Prop) : Nat → Prop
  | root {k : Nat} : R k → Rch E R k
  | step {k x : Nat} : Rch E R k → (k, x) ∈ E → Rch E R x
/-- How many are not reached yet. -/
def unv (n : Nat) (V : Nat → Bool) : Nat := ((List.range n).filter fun k => !V k).length
def setV (V : Nat → Bool) (k : Nat) : Nat → Bool := fun j => if j = k then true else V j
theorem unv_set {n k : Nat} {V : Nat → Bool} (hk : k < n) (hv : V k = false) : unv n (setV V k) + 1 ≤ unv n V := by
  unfold unv
  have h := len_le (k :: (List.range n).filter fun j => !setV V k j) ((List.range n).filter fun j => !V j) (List.nodup_cons.2 ⟨fun h => by
    rw [List.mem_filter] at h
    simp [setV] at h, List.Pairwise.filter _ List.nodup_range⟩) (fun x hx => by
    rcases List.mem_cons.1 hx with rfl | hx
    · exact List.mem_filter.2 ⟨List.mem_range.2 hk, by simp [hv]⟩
    · rw [List.mem_filter] at hx ⊢
      refine ⟨hx.1, ?_⟩
      have h1 := hx.2
      unfold setV at h1
      split at h1
      · simp at h1
      · exact h1)
  exact h
abbrev boolsV (n : Nat) (V : Nat → Bool) : Array Value := ((List.range n).map fun k => Value.bool (V k)).toArray
abbrev ints (S : List Nat) : List Value := S.map fun x : Nat => Value.int .i64 (x : Int)
theorem ints_app (S : List Nat) (x : Nat) : ints (S ++ [x]) = ints S ++ [.int .i64 (x : Int)] := by simp [ints]
/-- What is reached, and what is to be looked at, in memory. -/
structure RS (wb : World) (c6 c7 rb n : Nat) (V : Nat → Bool) (S : List Nat) (w : World) : Prop where
  os : w.os = wb.os
  tape : w.tape = wb.tape
  output : w.output = wb.output
  size : wb.heap.size ≤ w.heap.size
  c6r : Row w c6 #[.slice (some ⟨rb, 0, none⟩) n n] 57
  rbr : Row w rb (boolsV n V) 4
  c7r : ∃ nv, Row w c7 #[nv] 68 ∧ w.ownsRow wb.heap.size 3 1 nv S.length (ints S)
  keep : ∀ k, k < wb.heap.size → k ≠ rb → k ≠ c7 → w.heap[k]? = wb.heap[k]?
  lt : c6 < wb.heap.size ∧ c7 < wb.heap.size ∧ rb < wb.heap.size
section
variable {wb w w' : World} {c6 c7 rb n : Nat} {V : Nat → Bool} {S : List Nat}
theorem RS.ne (h : RS wb c6 c7 rb n V S w) : c6 ≠ rb ∧ c7 ≠ rb ∧ c6 ≠ c7 := by
  obtain ⟨nv, h7, _⟩ := h.c7r
  refine ⟨fun e => ?_, fun e => ?_, fun e => ?_⟩
  · have h1 : w.heap[c6]? = _ := h.c6r
    have h2 : w.heap[rb]? = _ := h.rbr
    rw [e, h2] at h1
    simp only [Option.some.injEq, Obj.cells.injEq] at h1
    exact absurd h1.2.1 (by decide)
  · have h1 : w.heap[c7]? = _ := h7
    have h2 : w.heap[rb]? = _ := h.rbr
    rw [e, h2] at h1
    simp only [Option.some.injEq, Obj.cells.injEq] at h1
    exact absurd h1.2.1 (by decide)
  · have h1 : w.heap[c6]? = _ := h.c6r
    have h2 : w.heap[c7]? = _ := h7
    rw [e, h2] at h1
    simp only [Option.some.injEq, Obj.cells.injEq] at h1
    exact absurd h1.2.1 (by decide)
theorem RS.drewN (h : RS wb c6 c7 rb n V S w) (q : Nat) : RS wb c6 c7 rb n V S (w.drewN q) := ⟨h.os, h.tape, h.output, h.size, h.c6r, h.rbr, h.c7r, h.keep, h.lt⟩
theorem RS.cellV (h : RS wb c6 c7 rb n V S w) {k : Nat} (hk : k < n) : w.cell? ⟨rb, k, none⟩ = some (.bool (V k)) := by
  rw [h.rbr.cell k]
  simp [hk]
/-- One is marked. -/
theorem RS.mark (h : RS wb c6 c7 rb n V S w) (k : Nat) : RS wb c6 c7 rb n (setV V k) S (w.setCell ⟨rb, k, none⟩ (.bool true)) := by
  have hne := h.ne
  have ho : ∀ i, i ≠ rb → (w.setCell ⟨rb, k, none⟩ (.bool true)).heap[i]? = w.heap[i]? := fun i hi => heap_setCell_other w ⟨rb, k, none⟩ i _ hi
  obtain ⟨nv, h7, h8⟩ := h.c7r
  refine ⟨h.os, h.tape, h.output, by simpa using h.size, (ho _ hne.1).trans h.c6r, ?_, ⟨nv, (ho _ hne.2.1).trans h7, ownsRow_keep' h8 fun g hg _ => ho g ?_⟩, fun i hi h1 h2 => (ho i h1).trans (h.keep i hi h1 h2), h.lt⟩
  · have h1 := h.rbr.setCell (i := k) (.bool true)
    have e : (boolsV n V).setIfInBounds k (.bool true) = boolsV n (setV V k) := by
      rw [List.setIfInBounds_toArray]
      congr 1
      apply List.ext_getElem
      · simp
      · intro j h3 h4
        rw [List.getElem_set]
        by_cases hjk : k = j
        · subst hjk
          simp [setV]
        · simp [hjk, setV, Ne.symm hjk]
    rw [e] at h1
    exact h1
  · have := (ownsRow_lt' h8 g hg).2
    have := h.lt.2.2
    omega
/-- One more is to be looked at. -/
theorem RS.push (h : RS wb c6 c7 rb n V S w) {nv v' : Value} {x : Nat} (hnv : Row w c7 #[nv] 68) (ho8 : w.ownsRow wb.heap.size 3 1 nv S.length (ints S)) {wa : World} (hba : Below w.heap.size w wa) (hown : w'.ownsRow wb.heap.size 3 1 v' (S.length + 1) (ints S ++ [.int .i64 (x : Int)])) (hg : wa.grownBy w' nv.ownBlock) : RS wb c6 c7 rb n V (S ++ [x]) (w'.setCell ⟨c7, 0, none⟩ v') := by
  have hne := h.ne
  have hs := h.size
  have hsz := hba.size
  have ho : ∀ i, i ≠ c7 → (w'.setCell ⟨c7, 0, none⟩ v').heap[i]? = w'.heap[i]? := fun i hi => heap_setCell_other w' ⟨c7, 0, none⟩ i _ hi
  have hw : ∀ i, i < wb.heap.size → w'.heap[i]? = w.heap[i]? := fun i hi => (hg.block i (by omega) (fun e => by have := (ownsRow_lt' ho8 i e.symm).2; omega)).trans (hba.block i (by omega))
  have h7 : Row w' c7 #[nv] 68 := (hw c7 h.lt.2.1).trans hnv
  refine ⟨hg.os.trans (hba.os.trans h.os), hg.tape.trans (hba.tape.trans h.tape), hg.output.trans (hba.output.trans h.output), by have := hg.size; simp; omega, (ho _ hne.2.2).trans ((hw _ h.lt.1).trans h.c6r), (ho _ (Ne.symm hne.2.1)).trans ((hw _ h.lt.2.2).trans h.rbr), ⟨v', h7.setCell (i := 0) v', ?_⟩, fun i hi h1 h2 => (ho i h2).trans ((hw i hi).trans (h.keep i hi h1 h2)), h.lt⟩
  rw [List.length_append, ints_app]
  exact ownsRow_keep' hown fun g hgo _ => ho g (by have := (ownsRow_lt' hown g hgo).2; have := h.lt.2.1; omega)
/-- The last is taken. -/
theorem RS.pop {x : Nat} (h : RS wb c6 c7 rb n V (S ++ [x]) w) : ∃ a c, w.cell? ⟨c7, 0, none⟩ = some (.slice (some ⟨a, 0, none⟩) (S.length + 1) c) ∧ S.length + 1 ≤ c ∧ c ≤ maxLen ∧ w.cell? ⟨a, S.length, none⟩ = some (.int .i64 (x : Int)) ∧ RS wb c6 c7 rb n V S (w.setCell ⟨c7, 0, none⟩ (.slice (some ⟨a, 0, none⟩) S.length c)) := by
  obtain ⟨nv, h7, h8⟩ := h.c7r
  have h8' := h8
  obtain ⟨hl, ⟨_, h0⟩ | ⟨a, c, cur, e1, e2, e3, e4, e5, e6, e7⟩⟩ := h8
  · rw [List.length_append] at h0
    simp at h0
  · subst e1
    have hll : (S ++ [x]).length = S.length + 1 := by simp
    rw [hll] at h7 e4 h8' e7
    have hne := h.ne
    have ho : ∀ i, i ≠ c7 → (w.setCell ⟨c7, 0, none⟩ (.slice (some ⟨a, 0, none⟩) S.length c)).heap[i]? = w.heap[i]? := fun i hi => heap_setCell_other w ⟨c7, 0, none⟩ i _ hi
    refine ⟨a, c, (h7.cell 0).trans rfl, e4, e5, ?_, h.os, h.tape, h.output, by simpa using h.size, (ho _ hne.2.2).trans h.c6r, (ho _ (Ne.symm hne.2.1)).trans h.rbr, ⟨_, h7.setCell (i := 0) _, ?_⟩, fun i hi h1 h2 => (ho i h2).trans (h.keep i hi h1 h2), h.lt⟩
    · rw [h8'.cellAt S.length (by omega)]
      simp
    · refine ⟨by simp, .inr ⟨a, c, cur, rfl, e2, (ho a (by have := h.lt.2.1; omega)).trans e3, by omega, e5, e6, ?_⟩⟩
      have h1 := congrArg (List.take S.length) e7
      rw [List.take_take, ints_app, List.take_left' (by simp)] at h1
      rw [Nat.mul_one, ← h1]
      congr 1
      omega
end
/-- What reach leaves: what was reached, as it was; else it is marked, and to be looked at. -/
def ReachPost (wb : World) (c6 c7 rb n : Nat) (V : Nat → Bool) (S : List Nat) (k : Nat) (e : Ending) (w' : World) : Prop :=
  (∃ r, e = .returned r) ∧ RS wb c6 c7 rb n (setV V k) (if V k then S else S ++ [k]) w'
theorem setV_same {V : Nat → Bool} {k : Nat} (h : V k = true) : setV V k = V := funext fun j => by
  unfold setV
  split
  · rename_i e
    rw [e, h]
  · rfl
set_option maxRecDepth 20000 in
set_option maxHeartbeats 4000000 in
theorem reach_ok (wb : World) (c6 c7 rb n : Nat) (V : Nat → Bool) (S : List Nat) (k : Nat) (w : World) (h : RS wb c6 c7 rb n V S w) (hk : k < n) (hn : n ≤ 4096) (hS : S.length ≤ n) :
    Calls Try.prog 46 #[.int .i64 (k : Int), .pointer (some ⟨c6, 0, none⟩), .pointer (some ⟨c7, 0, none⟩)] w (ReachPost wb c6 c7 rb n V S k) := by
  have hc6 := (h.c6r.cell 0).trans (rfl : _ = some (Value.slice (some ⟨rb, 0, none⟩) n n))
  have hcv := h.cellV hk
  have hk' : (k : Int) < (n : Int) := by omega
  cases hv : V k with
  | true =>
    rw [hv] at hcv
    have HF : Hid (ReachPost wb c6 c7 rb n V S k (.returned (.tuple #[])) w) := by
      refine ⟨⟨_, rfl⟩, ?_⟩
      rw [setV_same hv, hv]
      exact h
    clear h hv
    go_enter Try.func46, Try.ntmps46
    go_wp2
    refine bodyPost_end (results_none rfl _ _ _) rfl ?_
    exact HF.out
  | false =>
    rw [hv] at hcv
    have hfz := h.rbr.frozen k
    have hM := h.mark k
    obtain ⟨w1, hw1⟩ : ∃ x, x = w.setCell ⟨rb, k, none⟩ (.bool true) := ⟨_, rfl⟩
    rw [← hw1] at hM
    have hw1' := hw1.symm
    obtain ⟨nv, h7, h8⟩ := hM.c7r
    obtain ⟨na, nc, rfl⟩ := own_slice h8
    have hc71 := (h7.cell 0).trans (rfl : _ = some (Value.slice na S.length nc))
    have hba : Below w1.heap.size w1 (w1.alloc (.cells #[.int .i64 (k : Int)] 3)) := (Below.refl _ _).alloc (Nat.le_refl _) _
    have h8a : (w1.alloc (.cells #[.int .i64 (k : Int)] 3)).ownsRow wb.heap.size 3 1 (.slice na S.length nc) S.length (ints S) := ownsRow_keep' h8 fun g _ hl => hba.block g hl
    have hMs := hM.size
    have hM7 := hM.lt.2.1
    have HM : Hid _ := hM
    have H7 : Hid _ := h7
    have H8 : Hid _ := h8
    have H8a : Hid _ := h8a
    have HV : Hid _ := hv
    have hc61 : w1.cell? ⟨c6, 0, none⟩ = some (.slice (some ⟨rb, 0, none⟩) n n) := (hM.c6r.cell 0).trans rfl
    clear h hv hM h7 h8 h8a hw1
    go_enter Try.func46, Try.ntmps46
    go_wp2_with (
      at_builtin
      refine wpList_plain rfl fun K' hK' => ?_
      refine ap_int (some 15) rfl (.tmp 12) (.tmp 14) rfl wb.heap.size _ S.length _ rfl (k : Int) H8a.out rfl hMs (by omega) ?_
      intro v5 w5 hown5 hgrow5 _
      refine hK' _ _ ?_
      have hR5 := HM.out.push (x := k) H7.out H8.out hba hown5 hgrow5
      have h75 : Row w5 c7 #[.slice na S.length nc] 68 := (hgrow5.block c7 (by simp; omega) (fun e => by have := (ownsRow_lt' H8.out c7 e.symm).2; omega)).trans ((hba.block c7 (by omega)).trans H7.out)
      have HR5 : Hid _ := hR5
      obtain ⟨a5, b5, rfl⟩ := own_slice hown5
      have q5 := (h75.cell 0).trans (rfl : _ = some (Value.slice na S.length nc))
      have f5 := h75.frozen 0
      clear hown5 hgrow5 hR5 h75)
    refine bodyPost_end (results_none rfl _ _ _) rfl ?_
    refine ⟨⟨_, rfl⟩, ?_⟩
    rw [HV.out]
    exact HR5.out
end Go.Proofs.Ytkbhckjpmgkgjaa
