/- My own work: the algebra of sets; the law SpanAlgebra. -/
import Derived.Test.YtkbhckjpmgkgjaaGreatDoorSG
namespace Go.Proofs.YtkbhckjpmgkgjaaGreatDoor
open Go.RowKit

theorem not_inn {A : List Cut} (hA : SetOk A) (p : Cut) : inn false (notS A) p = (inn false allC p && !inn false A p) := mk2_inn rfl hA all_ok p
theorem and_inn {A B : List Cut} (hA : SetOk A) (hB : SetOk B) (p : Cut) : inn false (andS A B) p = (inn false A p && inn false B p) := mk2_inn rfl hA hB p
theorem or_inn {A B : List Cut} (hA : SetOk A) (hB : SetOk B) (p : Cut) : inn false (orS A B) p = (inn false A p || inn false B p) := mk2_inn rfl hA hB p
theorem not_good {A : List Cut} (hA : SetOk A) : SetOk (notS A) := mk2_ok rfl hA all_ok
theorem and_good {A B : List Cut} (hA : SetOk A) (hB : SetOk B) : SetOk (andS A B) := mk2_ok rfl hA hB
theorem or_good {A B : List Cut} (hA : SetOk A) (hB : SetOk B) : SetOk (orS A B) := mk2_ok rfl hA hB
theorem in_all {A : List Cut} (hA : SetOk A) (p : Cut) : (inn false A p && !inn false allC p) = false := by
  cases h : inn false A p with
  | false => rfl
  | true => rw [hA.ins p h]; rfl
theorem alg1 {A : List Cut} (hA : SetOk A) : notS (notS A) = A := set_one (not_good (not_good hA)) hA fun p => by
  have := in_all hA p
  rw [not_inn (not_good hA), not_inn hA]
  revert this
  cases inn false A p <;> cases inn false allC p <;> simp
theorem alg2 {A B : List Cut} (hA : SetOk A) (hB : SetOk B) : notS (andS A B) = orS (notS A) (notS B) := set_one (not_good (and_good hA hB)) (or_good (not_good hA) (not_good hB)) fun p => by
  rw [not_inn (and_good hA hB), and_inn hA hB, or_inn (not_good hA) (not_good hB), not_inn hA, not_inn hB]
  cases inn false A p <;> cases inn false B p <;> cases inn false allC p <;> rfl
theorem alg3 {A B : List Cut} (hA : SetOk A) (hB : SetOk B) : andS A B = andS B A := set_one (and_good hA hB) (and_good hB hA) fun p => by
  rw [and_inn hA hB, and_inn hB hA, Bool.and_comm]
theorem alg4 {A B : List Cut} (hA : SetOk A) (hB : SetOk B) : orS A B = orS B A := set_one (or_good hA hB) (or_good hB hA) fun p => by
  rw [or_inn hA hB, or_inn hB hA, Bool.or_comm]
theorem alg5 {A : List Cut} (hA : SetOk A) : orS A (notS A) = allC := set_one (or_good hA (not_good hA)) all_ok fun p => by
  have := in_all hA p
  rw [or_inn hA (not_good hA), not_inn hA]
  revert this
  cases inn false A p <;> cases inn false allC p <;> simp
theorem alg6 {A : List Cut} (hA : SetOk A) : andS A (notS A) = [] := set_one (and_good hA (not_good hA)) none_ok fun p => by
  rw [and_inn hA (not_good hA), not_inn hA]
  show _ = false
  cases inn false A p <;> cases inn false allC p <;> rfl
theorem alg8 {A : List Cut} (hA : SetOk A) : andS A allC = A := set_one (and_good hA all_ok) hA fun p => by
  have := in_all hA p
  rw [and_inn hA all_ok]
  revert this
  cases inn false A p <;> cases inn false allC p <;> simp
theorem alg9 {A : List Cut} (hA : SetOk A) : orS A A = A := set_one (or_good hA hA) hA fun p => by rw [or_inn hA hA, Bool.or_self]
/-- A set that may be, in memory, of at most so many cuts. -/
structure Gd (w : World) (p : Value) (L : List Cut) (n : Nat) : Prop where
  g : GoodAt w p L w.heap.size
  l : L.length ≤ n
theorem Gd.next {w w' : World} {p : Value} {L : List Cut} {n : Nat} (h : Gd w p L n) (hb : Below w.heap.size w w') : Gd w' p L n := ⟨(h.g.keep hb).mono hb.size, h.l⟩
theorem Gd.and {w : World} {p q : Value} {A B : List Cut} {n m : Nat} (h : Gd w p A n) (k : Gd w q B m) (hn : n ≤ 9000) (hm : m ≤ 9000) : Calls Tryz.prog 112 #[p, q] w fun e w' => ∃ q, e = .returned q ∧ Gd w' q (andS A B) (n + m) ∧ Below w.heap.size w w' :=
  (and_ok h.g k.g (by have := h.l; have := k.l; omega)).mono fun _ _ ⟨q, h1, h2, h3⟩ => ⟨q, h1, ⟨⟨h2, and_good h.g.ok k.g.ok⟩, by have h4 : (andS A B).length ≤ A.length + B.length := mk2_len fAnd A B; have := h.l; have := k.l; omega⟩, h3⟩
theorem Gd.or {w : World} {p q : Value} {A B : List Cut} {n m : Nat} (h : Gd w p A n) (k : Gd w q B m) (hn : n ≤ 9000) (hm : m ≤ 9000) : Calls Tryz.prog 88 #[p, q] w fun e w' => ∃ q, e = .returned q ∧ Gd w' q (orS A B) (n + m) ∧ Below w.heap.size w w' :=
  (or_ok h.g k.g (by have := h.l; have := k.l; omega)).mono fun _ _ ⟨q, h1, h2, h3⟩ => ⟨q, h1, ⟨⟨h2, or_good h.g.ok k.g.ok⟩, by have h4 : (orS A B).length ≤ A.length + B.length := mk2_len fOr A B; have := h.l; have := k.l; omega⟩, h3⟩
theorem Gd.all (w : World) : Calls Tryz.prog 141 #[] w fun e w' => ∃ q, e = .returned q ∧ Gd w' q allC 2 ∧ Below w.heap.size w w' :=
  (all_new w).mono fun _ _ ⟨q, h1, h2, h3⟩ => ⟨q, h1, ⟨⟨h2, all_ok⟩, Nat.le_refl _⟩, h3⟩
theorem Gd.none (w : World) : Calls Tryz.prog 147 #[] w fun e w' => ∃ q, e = .returned q ∧ Gd w' q [] 0 ∧ Below w.heap.size w w' :=
  (none_ok' w).mono fun _ _ ⟨q, h1, h2, h3⟩ => ⟨q, h1, ⟨⟨h2, none_ok⟩, Nat.le_refl _⟩, h3⟩
end Go.Proofs.YtkbhckjpmgkgjaaGreatDoor
