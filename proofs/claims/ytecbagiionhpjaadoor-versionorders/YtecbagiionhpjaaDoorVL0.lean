/- My own work: what the law VersionSorts asks: texts in a block, counts, Sort of a copy. -/
import Derived.Test.YtecbagiionhpjaaDoorVS4
import Derived.Test.YtecbagiionhpjaaDoorVO
import Derived.BigQuiet
namespace Go.Proofs.YtecbagiionhpjaaDoor
open Go.RowKit

/-- Texts that lie in a block, from a place on. -/
structure TxB (w : World) (v : Value) (X : List ByteArray) (B : Nat) : Prop where
  ex : ∃ (a : Option Addr) (g off cap : Nat), v = .slice a X.length cap ∧ (0 < X.length → a = some ⟨g, off, none⟩ ∧ g < B) ∧ X.length ≤ cap ∧ (a = none → cap = 0) ∧ ∀ i (h : i < X.length), w.cell? ⟨g, off + i, none⟩ = some (.string X[i])
theorem TxB.keep {w w' : World} {v : Value} {X : List ByteArray} {B : Nat} (h : TxB w v X B) (hb : Below B w w') : TxB w' v X B := by
  obtain ⟨a, g, off, cap, h1, h2, h3, h5, h4⟩ := h.ex
  exact ⟨a, g, off, cap, h1, h2, h3, h5, fun i hi => (hb.cell (p := ⟨g, off + i, none⟩) (h2 (by omega)).2).trans (h4 i hi)⟩
theorem own_tx {w : World} {B n : Nat} {v : Value} {X : List ByteArray} (hn : X.length = n) (h : w.ownsRow B 9 1 v n (X.map Value.string)) : TxB w v X w.heap.size := by
  subst hn
  have h' := h
  obtain ⟨hl, ⟨rfl, h0⟩ | ⟨g, cap, cur, rfl, _, hrow, hnc, _, _, _⟩⟩ := h
  · refine ⟨none, 0, 0, 0, by rw [h0], fun h => absurd h (by omega), by omega, fun _ => rfl, fun i hi => absurd hi (by omega)⟩
  · refine ⟨some ⟨g, 0, none⟩, g, 0, cap, rfl, fun _ => ⟨rfl, (Array.getElem?_eq_some_iff.1 hrow).1⟩, hnc, (fun h => by cases h), fun i hi => ?_⟩
    rw [Nat.zero_add, h'.cellAt i (by omega), List.getElem?_map, List.getElem?_eq_getElem hi]
    rfl
/-- Sort of a copy. -/
theorem copy_own (w : World) : (w.alloc (.cells #[] 9)).ownsRow w.heap.size 9 1 (.slice (some ⟨w.heap.size, 0, none⟩) 0 0) 0 [] := World.ownsRow_lit w #[] 0 (Nat.le_refl _) (by unfold maxLen; omega) rfl
theorem cnt_le (l : List ByteArray) (x : ByteArray) (k : Nat) : (l.take k).count x ≤ k := Nat.le_trans List.count_le_length (by rw [List.length_take]; omega)
instance : LawfulBEq ByteArray where
  rfl := (MapKept.bytes_beq _ _).2 rfl
  eq_of_beq h := (MapKept.bytes_beq _ _).1 h
theorem cnt_more (l : List ByteArray) (x : ByteArray) (k : Nat) (hk : k < l.length) : (l.take (k + 1)).count x = (l.take k).count x + (if l[k] = x then 1 else 0) := by
  rw [List.take_add_one, List.getElem?_eq_getElem hk, List.count_append]
  by_cases h : l[k] = x
  · rw [if_pos h, h]; simp
  · rw [if_neg h]
    simp [h]
theorem eq_bytes {a b : ByteArray} (h : ¬ a = b) : ¬ a.toList = b.toList ∧ (a.toList == b.toList) = false := by
  have h1 : ¬ a.toList = b.toList := fun e => h (by
    rw [ByteArray.toList_eq, ByteArray.toList_eq] at e
    exact vb_inj e)
  exact ⟨h1, by simpa using h1⟩
theorem wpList_ap_allO {w : World} {ops : Array Oper} {rest : List Oper} {o : Oper} {a : Act} {Q : Exit → Act → World → Prop} (hgd : o.guard = none) (dd : Option Tmp) (hdd : o.dst = dd) (s x : Operand) (ho : o.op = .call { callee := .builtin .append, args := #[s, x], argTypes := #[25, 25] }) (B : Nat) (v : Value) (n : Nat) (xs : List Value) (hs : a.eval s = v) (hown : w.ownsRow B 9 1 v n xs) (ra : Option Addr) (rg off len cap : Nat) (X : List ByteArray) (hX : X.length = len) (hx : a.eval x = .slice ra len cap) (hat : 0 < len → ra = some ⟨rg, off, none⟩) (hnone : ra = none → len = 0 ∧ cap = 0) (hcell : ∀ t u, (X.map Value.string)[t]? = some u → w.cell? ⟨rg, off + t, none⟩ = some u) (hB : B ≤ w.heap.size) (hby : (n + len) * 16 ≤ 140737488355328)
    (h : ∀ v' w', w'.ownsRow B 9 1 v' (n + len) (xs ++ X.map Value.string) → w.grownBy w' v.ownBlock → wpList Tryd.prog ops Q rest (a.put dd v') w') : wpList Tryd.prog ops Q (o :: rest) a w :=
  wpList_plain hgd fun K hK => wp_append_any dd hdd s x 25 9 (.string ⟨#[]⟩) 1 16 Tryd.underlying25 info9 rfl (by decide) ho B v n xs hs hown ra rg off len cap (X.map Value.string) (by simp [hX]) hx hat hcell (fun u hu => by obtain ⟨y, _, rfl⟩ := List.mem_map.1 hu; rfl) hnone (by unfold maxLen; omega) hby hB (fun v' w' h1 h2 _ => hK _ _ (h v' w' h1 h2))
theorem sort_own {w : World} {B : Nat} {v : Value} {X : List ByteArray} (h : w.ownsRow B 9 1 v X.length (X.map Value.string)) (hn : X.length ≤ 1000) (he : ∀ x ∈ X, x.size ≤ 140737488355328) (hT : Pw w) : Calls Tryd.prog 9 #[v] w (SortPost X w) := by
  obtain ⟨a, g, off, cap, rfl, h2, h3, _, h4⟩ := (own_tx rfl h).ex
  exact sort_ok X a cap w ⟨⟨g, off, fun hh => (h2 hh).1, h4⟩, h3, he⟩ hn hT
theorem sorted_len {vs : List Ver} {L : List ByteArray} (h : vs.Perm (versOf L)) : (sortedT vs L).length = L.length := (sorted_perm h).length_eq
end Go.Proofs.YtecbagiionhpjaaDoor
