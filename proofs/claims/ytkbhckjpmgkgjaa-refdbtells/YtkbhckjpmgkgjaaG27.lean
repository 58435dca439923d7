/- My own work: what Order, Closure and Dead tell, each as one list and one number. -/
import Derived.Test.YtkbhckjpmgkgjaaG25
namespace Go.Proofs.Ytkbhckjpmgkgjaa
open Go.RowKit
open Classical

theorem strs_none (w : World) : StrsAt w none [] 0 := ⟨⟨0, 0, fun h => absurd h (by decide), fun i h => absurd h (by simp)⟩, fun _ => ⟨rfl, rfl⟩, Nat.le_refl _, by unfold maxLen; omega, by simp, fun s hs => by cases hs⟩
def ordX (P : List ByteArray) (O : List Nat) : List ByteArray := if O.length < P.length then [] else txtsN P O
def ordE (P : List ByteArray) (O : List Nat) : Int := if O.length < P.length then 16 else 0
theorem order_told {P : List ByteArray} {E : List (Nat × Nat)} {w w' : World} {e : Ending} (h : OrderPost P E w e w') (hP : P.length ≤ 4096) (hb : ∀ x ∈ P, x.size ≤ big) :
    ∃ D O xa xc, (∀ x, x ∈ D ↔ x ∈ E) ∧ OTold D P.length O ∧ (∀ k, ¬ RdyE D P.length O k) ∧ e = .returned (.tuple #[.slice xa (ordX P O).length xc, .int .i64 (ordE P O)]) ∧ StrsAt w' xa (ordX P O) xc ∧ Below w.heap.size w w' := by
  obtain ⟨D, O, h1, h2, h3, ⟨h4, rfl, h5⟩ | ⟨h4, v, rfl, h5⟩⟩ := h
  · refine ⟨D, O, none, 0, h1, h2, h3, ?_, ?_, h5⟩
    · unfold ordX ordE; rw [if_pos h4, if_pos h4]; rfl
    · unfold ordX; rw [if_pos h4]; exact strs_none _
  · have h6 : ¬ O.length < P.length := by omega
    obtain ⟨xa, xc, rfl, h7⟩ := h5.strs (by unfold txtsN; rw [List.length_map]; omega) (fun x hx => by
      obtain ⟨k, _, hk⟩ := (mem_txts h2.lt).1 hx
      exact hb x (List.mem_of_getElem? hk))
    refine ⟨D, O, xa, xc, h1, h2, h3, ?_, ?_, h5.old⟩
    · unfold ordX ordE; rw [if_neg h6, if_neg h6]
    · unfold ordX; rw [if_neg h6]; exact h7
noncomputable def reachB (E : List (Nat × Nat)) (R : Nat → Prop) : Nat → Bool := fun k => decide (Rch E R k)
theorem reachB_iff {E E' : List (Nat × Nat)} (h : ∀ x, x ∈ E' ↔ x ∈ E) (R : Nat → Prop) : reachB E' R = reachB E R := by
  funext k
  unfold reachB
  rw [decide_eq_decide]
  exact rch_iff h
noncomputable def cloX (P paths : List ByteArray) (E : List (Nat × Nat)) : List ByteArray := if ∃ x ∈ paths, x ∉ P then [] else selN (reachB E (rootsN P paths)) P
noncomputable def cloE (P paths : List ByteArray) : Int := if ∃ x ∈ paths, x ∉ P then 14 else 0
theorem vis_eq {E : List (Nat × Nat)} {R : Nat → Prop} {V : Nat → Bool} (hV : ∀ k, V k = true ↔ Rch E R k) : V = reachB E R := by
  funext k
  exact bool_iff (by rw [hV]; unfold reachB; rw [decide_eq_true_iff])
theorem closure_told {P paths : List ByteArray} {E : List (Nat × Nat)} {w w' : World} {e : Ending} (h : ClosurePost P paths E w e w') (hP : P.length ≤ 4096) (hb : ∀ x ∈ P, x.size ≤ big) :
    ∃ xa xc, e = .returned (.tuple #[.slice xa (cloX P paths E).length xc, .int .i64 (cloE P paths)]) ∧ StrsAt w' xa (cloX P paths E) xc ∧ Below w.heap.size w w' := by
  rcases h with ⟨h1, rfl, h2⟩ | ⟨h1, v, V, rfl, hV, h5⟩
  · refine ⟨none, 0, ?_, ?_, h2⟩
    · unfold cloX cloE; rw [if_pos h1, if_pos h1]; rfl
    · unfold cloX; rw [if_pos h1]; exact strs_none _
  · have h6 : ¬ ∃ x ∈ paths, x ∉ P := fun ⟨x, hx, hn⟩ => hn (h1 x hx)
    rw [vis_eq hV] at h5
    obtain ⟨xa, xc, rfl, h7⟩ := h5.strs (Nat.le_trans (sel_le _ P) hP) (fun x hx => hb x (sel_mem hx))
    refine ⟨xa, xc, ?_, ?_, h5.old⟩
    · unfold cloX cloE; rw [if_neg h6, if_neg h6]
    · unfold cloX; rw [if_neg h6]; exact h7
noncomputable def deadX (P roots : List ByteArray) (E : List (Nat × Nat)) : List ByteArray := selN (fun k => !reachB E (rootsN P roots) k) P
theorem dead_told {P roots : List ByteArray} {E : List (Nat × Nat)} {w w' : World} {e : Ending} (h : DeadPost P roots E w e w') (hP : P.length ≤ 4096) (hb : ∀ x ∈ P, x.size ≤ big) :
    ∃ xa xc, e = .returned (.slice xa (deadX P roots E).length xc) ∧ StrsAt w' xa (deadX P roots E) xc ∧ Below w.heap.size w w' := by
  obtain ⟨v, V, rfl, hV, h5⟩ := h
  rw [vis_eq hV] at h5
  obtain ⟨xa, xc, rfl, h7⟩ := h5.strs (Nat.le_trans (sel_le _ P) hP) (fun x hx => hb x (sel_mem hx))
  exact ⟨xa, xc, rfl, h7, h5.old⟩
end Go.Proofs.Ytkbhckjpmgkgjaa
