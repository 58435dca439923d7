/- The walks of maxSize, rightKind, size, entries and rightNames: what one node is by itself. -/
import Derived.Test.YthidlckipiamkaaDoorName
import Derived.Laws.Cover1
namespace Go.Proofs.YthidlckipiamkaaDoor
open Go.RowKit

/-- Is a node of a kind, and has nothing that only others may have? -/
def kindB (n : Nd) : Bool :=
  if n.kind = 1 then decide (n.names.length = 0) && decide (n.kids.length = 0)
  else if n.kind = 3 then decide (n.names.length = 0) && decide (n.kids.length = 0) && !n.exec
  else if n.kind = 2 then decide (n.names.length = n.kids.length) && !n.exec && decide (n.data.size = 0) else false
/-- The bytes of a directory's entries. -/
def entN (ns : List ByteArray) : Nat := (ns.map fun s => s.size + 3).sum
theorem entN_take (ns : List ByteArray) (i : Nat) (h : i < ns.length) : entN (ns.take (i + 1)) = entN (ns.take i) + (ns[i].size + 3) := by
  unfold entN
  rw [List.take_add_one, List.getElem?_eq_getElem h, List.map_append, List.sum_append]
  simp
theorem entN_le (ns : List ByteArray) (i : Nat) : entN (ns.take i) ≤ entN ns := by
  have : entN ns = entN (ns.take i) + entN (ns.drop i) := by
    unfold entN
    rw [← List.sum_append, ← List.map_append, List.take_append_drop]
  omega
theorem entN_bd (ns : List ByteArray) (B : Nat) (h : ∀ s ∈ ns, s.size ≤ B) : entN ns ≤ ns.length * (B + 3) := by
  unfold entN
  induction ns with
  | nil => simp
  | cons s ns ih =>
    have h1 := h s (by simp)
    have h2 := ih (fun x hx => h x (by simp [hx]))
    simp only [List.map_cons, List.sum_cons, List.length_cons, Nat.add_mul]
    omega
theorem StrsAt.at'' {w : World} {a : Option Addr} {ns : List ByteArray} {c : Nat} (h : StrsAt w a ns c) : ∃ b off, (0 < ns.length → a = some ⟨b, off, none⟩) ∧ ∀ w', Below w.heap.size w w' → ∀ i (h : i < ns.length), w'.cell? ⟨b, off + i, none⟩ = some (.string ns[i]) := by
  obtain ⟨b, off, h1, h2⟩ := h.ex
  exact ⟨b, off, h1, fun w' hb i hi => (World.cell?_of_block (w := w) (hb.block b (World.block_lt_of_cell? _ _ (h2 i hi)))).trans (h2 i hi)⟩
end Go.Proofs.YthidlckipiamkaaDoor
