/- My own work: what RefdbTurns asks, as mathematics: a graph of turned infos is the same graph. -/
import Derived.Test.YtkbhckjpmgkgjaaG23
import Derived.Test.YtkbhckjpmgkgjaaG15
namespace Go.Proofs.Ytkbhckjpmgkgjaa
open Go.RowKit

/-- Texts that rise are told by their members. -/
theorem up_ext : ∀ {P P' : List ByteArray}, Up P → Up P' → (∀ x, x ∈ P ↔ x ∈ P') → P = P'
  | [], [], _, _, _ => rfl
  | [], b :: _, _, _, h => by have := (h b).2 List.mem_cons_self; cases this
  | a :: _, [], _, _, h => by have := (h a).1 List.mem_cons_self; cases this
  | a :: P, b :: P', hu, hu', h => by
    have h1 := List.pairwise_cons.1 hu
    have h2 := List.pairwise_cons.1 hu'
    have hab : a = b := by
      rcases List.mem_cons.1 ((h a).1 List.mem_cons_self) with e | e
      · exact e
      · rcases List.mem_cons.1 ((h b).2 List.mem_cons_self) with e' | e'
        · exact e'.symm
        · exact absurd (List.lt_trans (h1.1 b e') (h2.1 a e)) (lt_irr _)
    subst hab
    rw [up_ext h1.2 h2.2 fun x => ?_]
    constructor
    · intro hx
      rcases List.mem_cons.1 ((h x).1 (List.mem_cons_of_mem _ hx)) with e | e
      · exact absurd (h1.1 x hx) (by rw [e]; exact lt_irr _)
      · exact e
    · intro hx
      rcases List.mem_cons.1 ((h x).2 (List.mem_cons_of_mem _ hx)) with e | e
      · exact absurd (h2.1 x hx) (by rw [e]; exact lt_irr _)
      · exact e
/-- Infos that are turned. -/
def turned (L : List Inf) (k : Nat) : List Inf := L.drop k ++ L.take k
theorem turned_perm (L : List Inf) (k : Nat) : (turned L k).Perm L := by
  unfold turned
  exact List.perm_append_comm.trans (by rw [List.take_append_drop])
theorem turned_mem {L : List Inf} {k : Nat} {y : Inf} : y ∈ turned L k ↔ y ∈ L := (turned_perm L k).mem_iff
theorem turned_nodup {L : List Inf} {k : Nat} : ((turned L k).map (·.path)).Nodup ↔ (L.map (·.path)).Nodup := ((turned_perm L k).map _).nodup_iff
theorem turned_path {L : List Inf} {k : Nat} {x : ByteArray} : x ∈ (turned L k).map (·.path) ↔ x ∈ L.map (·.path) := ((turned_perm L k).map _).mem_iff
theorem turned_there {L : List Inf} {k : Nat} : ErrThere (turned L k) ↔ ErrThere L := by
  unfold ErrThere
  rw [turned_nodup]
theorem turned_none {L : List Inf} {k : Nat} : ErrNone (turned L k) ↔ ErrNone L := by
  unfold ErrNone
  rw [turned_nodup]
  simp only [turned_mem, turned_path]
theorem turned_fine {L : List Inf} {k : Nat} : Fine (turned L k) ↔ Fine L := by
  unfold Fine
  rw [turned_nodup]
  simp only [turned_mem, turned_path]
/-- Two graphs of the same infos: the same paths, the same edges. -/
theorem gr_turned {L : List Inf} {k : Nat} {P P' dv dv' : List ByteArray} {E E' : List (Nat × Nat)} (h : Gr L P dv E) (h' : Gr (turned L k) P' dv' E') (hu : Up P) (hu' : Up P') : P' = P ∧ ∀ x, x ∈ E' ↔ x ∈ E := by
  have e : P' = P := up_ext hu' hu fun x => by rw [h.mem, h'.mem, turned_path]
  subst e
  refine ⟨rfl, fun x => ?_⟩
  rw [h.edge, h'.edge]
  simp only [turned_mem]
theorem rch_iff {E E' : List (Nat × Nat)} (h : ∀ x, x ∈ E' ↔ x ∈ E) {R : Nat → Prop} {k : Nat} : Rch E' R k ↔ Rch E R k :=
  ⟨rch_sub fun x hx => (h x).1 hx, rch_sub fun x hx => (h x).2 hx⟩
/-- The same closure, and the same that is dead. -/
theorem sel_turned {E E' : List (Nat × Nat)} (h : ∀ x, x ∈ E' ↔ x ∈ E) {R : Nat → Prop} {V V' : Nat → Bool} (hV : ∀ k, V k = true ↔ Rch E R k) (hV' : ∀ k, V' k = true ↔ Rch E' R k) : V' = V := by
  funext k
  exact bool_iff (by rw [hV, hV', rch_iff h])
/-- The same order. -/
theorem order_turned {n : Nat} {E E' D D' : List (Nat × Nat)} (h : ∀ x, x ∈ E' ↔ x ∈ E) (hD : ∀ x, x ∈ D ↔ x ∈ E) (hD' : ∀ x, x ∈ D' ↔ x ∈ E') {O O' : List Nat} (hO : OTold D n O) (hO' : OTold D' n O') (hf : ∀ k, ¬ RdyE D n O k) (hf' : ∀ k, ¬ RdyE D' n O' k) : O' = O :=
  told_all (fun x => by rw [hD', h, hD]) hO' hO hf' hf
end Go.Proofs.Ytkbhckjpmgkgjaa
