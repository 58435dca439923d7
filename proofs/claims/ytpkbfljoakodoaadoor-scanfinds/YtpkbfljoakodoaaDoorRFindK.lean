/- My own work: rising lists, each told once: what is put in where it belongs; a row of one's own, cut in two. -/
import Derived.Test.YtpkbfljoakodoaaDoorRTx
import Derived.Test.YtpkbfljoakodoaaDoorSNode
namespace Go.Proofs.YtpkbfljoakodoaaDoor
open Go.RowKit Go.Sort
open S2 (bl bl_len bl_inj splitB)

theorem less_before : ∀ a b : List UInt8, Op.bytesLess a b = bytesBefore a b
  | [], [] => rfl
  | [], _ :: _ => rfl
  | _ :: _, [] => rfl
  | a :: x, b :: y => by
    unfold Op.bytesLess bytesBefore
    rw [less_before x y]
theorem before_asym {a b : List UInt8} (h : bytesBefore a b = true) : bytesBefore b a = false := by
  cases hc : bytesBefore b a with
  | false => rfl
  | true =>
    have := WideShapes.bytes_trans _ _ _ h hc
    rw [WideAt.bytes_irrefl] at this
    cases this
def RiseB (O : List ByteArray) : Prop := O.Pairwise fun a b => bytesBefore (bl a) (bl b) = true
/-- Two rising lists of the same elements are one. -/
theorem rises_ext : ∀ l1 l2 : List (List UInt8), l1.Pairwise (fun a b => bytesBefore a b = true) → l2.Pairwise (fun a b => bytesBefore a b = true) → (∀ x, x ∈ l1 ↔ x ∈ l2) → l1 = l2
  | [], [], _, _, _ => rfl
  | [], b :: l2, _, _, h => absurd ((h b).2 List.mem_cons_self) (by simp)
  | a :: l1, [], _, _, h => absurd ((h a).1 List.mem_cons_self) (by simp)
  | a :: l1, b :: l2, h1, h2, h => by
    have p1 := List.pairwise_cons.1 h1
    have p2 := List.pairwise_cons.1 h2
    have e : a = b := by
      rcases List.mem_cons.1 ((h a).1 List.mem_cons_self) with e | e
      · exact e
      · rcases List.mem_cons.1 ((h b).2 List.mem_cons_self) with e' | e'
        · exact e'.symm
        · have := before_asym (p2.1 a e)
          rw [p1.1 b e'] at this
          cases this
    subst e
    have n1 : a ∉ l1 := fun hm => by have := p1.1 a hm; rw [WideAt.bytes_irrefl] at this; cases this
    have n2 : a ∉ l2 := fun hm => by have := p2.1 a hm; rw [WideAt.bytes_irrefl] at this; cases this
    rw [rises_ext l1 l2 p1.2 p2.2 fun x => ⟨fun hx => ?_, fun hx => ?_⟩]
    · rcases List.mem_cons.1 ((h x).1 (List.mem_cons_of_mem _ hx)) with e | e
      · subst e; exact absurd hx n1
      · exact e
    · rcases List.mem_cons.1 ((h x).2 (List.mem_cons_of_mem _ hx)) with e | e
      · subst e; exact absurd hx n2
      · exact e
theorem riseB_uniq {O ps : List ByteArray} (h : RiseB O) (hm : ∀ x, x ∈ O ↔ x ∈ ps) : O.map bl = uniq (ps.map bl) := by
  refine rises_ext _ _ (List.pairwise_map.2 h) (uniq_rises _) fun x => ?_
  rw [mem_uniq]
  constructor
  · intro hx
    obtain ⟨y, hy, rfl⟩ := List.mem_map.1 hx
    exact List.mem_map.2 ⟨y, (hm y).1 hy, rfl⟩
  · intro hx
    obtain ⟨y, hy, rfl⟩ := List.mem_map.1 hx
    exact List.mem_map.2 ⟨y, (hm y).2 hy, rfl⟩
/-- A text is put where it belongs. -/
theorem riseB_ins {O : List ByteArray} {p : ByteArray} {k : Nat} (h : RiseB O) (hk : k ≤ O.length) (h1 : ∀ j (hj : j < O.length), j < k → bytesBefore (bl O[j]) (bl p) = true) (h2 : ∀ hj : k < O.length, bytesBefore (bl p) (bl O[k]) = true) : RiseB (O.take k ++ p :: O.drop k) := by
  unfold RiseB
  refine List.pairwise_append.2 ⟨h.sublist (List.take_sublist _ _), List.pairwise_cons.2 ⟨fun x hx => ?_, h.sublist (List.drop_sublist _ _)⟩, fun a ha b hb => ?_⟩
  · obtain ⟨j, hj, rfl⟩ := List.getElem_of_mem hx
    rw [List.length_drop] at hj
    rw [List.getElem_drop]
    have hp := h2 (by omega)
    rcases Nat.eq_zero_or_pos j with e | e
    · subst e; simpa using hp
    · exact WideShapes.bytes_trans _ _ _ hp (List.pairwise_iff_getElem.1 h k (k + j) (by omega) (by omega) (by omega))
  · obtain ⟨j, hj, rfl⟩ := List.getElem_of_mem ha
    rw [List.length_take] at hj
    rw [List.getElem_take]
    have ha' := h1 j (by omega) (by omega)
    rcases List.mem_cons.1 hb with e | e
    · subst e; exact ha'
    · obtain ⟨m, hm, rfl⟩ := List.getElem_of_mem e
      rw [List.length_drop] at hm
      rw [List.getElem_drop]
      exact List.pairwise_iff_getElem.1 h j (k + m) (by omega) (by omega) (by omega)
theorem mem_ins {O : List ByteArray} {p x : ByteArray} {k : Nat} : x ∈ O.take k ++ p :: O.drop k ↔ x ∈ O ∨ x = p := by
  rw [List.mem_append, List.mem_cons]
  constructor
  · rintro (h | h | h)
    · exact .inl (List.mem_of_mem_take h)
    · exact .inr h
    · exact .inl (List.mem_of_mem_drop h)
  · rintro (h | h)
    · rw [← List.take_append_drop k O] at h
      rcases List.mem_append.1 h with h | h
      · exact .inl h
      · exact .inr (.inr h)
    · exact .inr (.inl h)
theorem foundP_take (ts ps : List ByteArray) (n : Nat) (h : n < ps.length) (x : ByteArray) : x ∈ foundP ts (ps.take (n + 1)) ↔ x ∈ foundP ts (ps.take n) ∨ (x = ps[n] ∧ splitB (bl ps[n]) = true ∧ (ts.any fun t => occ (sgn ps[n]) (bl t)) = true) := by
  unfold foundP
  rw [List.take_succ_eq_append_getElem h, List.filter_append, List.mem_append]
  refine or_congr Iff.rfl ?_
  rw [List.mem_filter]
  constructor
  · rintro ⟨h1, h2⟩
    simp at h1
    subst h1
    simpa using h2
  · rintro ⟨rfl, h2, h3⟩
    exact ⟨by simp, by rw [h2, h3]; rfl⟩
/-- The first k of a row of one's own. -/
theorem own_head {B n : Nat} {v : Value} {O : List ByteArray} {w0 : World} (h0 : w0.ownsRow B 9 1 v n (O.map Value.string)) (k : Nat) (hk : k ≤ n) : ∃ vh, (∀ w : World, (Instr.slice 23 v none (some (.int .i64 (k : Int))) none).run Tryd.prog w = .ok vh w) ∧ (∀ w : World, w.ownsRow B 9 1 v n (O.map Value.string) → w.ownsRow B 9 1 vh k ((O.take k).map Value.string)) ∧ vh.ownBlock = v.ownBlock := by
  have hl : O.length = n := by have := h0.1; simpa using this
  rcases h0.2 with ⟨rfl, hn0⟩ | ⟨g, cap, cur, rfl, hb, hg, h1, h2, h3, h4⟩
  · obtain rfl : k = 0 := by omega
    obtain ⟨i0, hi, _, hz1, _⟩ := info_parts infoS9
    refine ⟨.slice none 0 0, fun w => by simp [Instr.slice, run_underlying Tryd.underlying23, Instr.sliceBounds, run_sliceBound, sizeOf, typeInfo, hi], fun w h => ?_, rfl⟩
    exact ⟨by simp, .inl ⟨rfl, rfl⟩⟩
  · unfold maxLen at h2
    have e1 : ((k : Int) ≤ (cap : Int)) := by omega
    refine ⟨.slice (some ⟨g, 0, none⟩) k cap, fun w => by go_simp, fun w h => ?_, rfl⟩
    rcases h.2 with ⟨e, _⟩ | ⟨g', cap', cur', e, hb', hg', h1', h2', h3', h4'⟩
    · cases e
    · cases e
      refine ⟨by simp; omega, .inr ⟨g, cap, cur', rfl, hb', hg', by omega, h2', h3', ?_⟩⟩
      rw [Nat.mul_one] at h4' ⊢
      have := congrArg (List.take k) h4'
      rw [List.take_take, Nat.min_eq_left hk] at this
      rw [this, List.map_take]
/-- What is behind the first k of a row of one's own. -/
theorem own_tail {B n : Nat} {v : Value} {O : List ByteArray} {w0 : World} (h0 : w0.ownsRow B 9 1 v n (O.map Value.string)) (k : Nat) (hk : k ≤ n) : ∃ vt, (∀ w : World, (Instr.slice 23 v (some (.int .i64 (k : Int))) none none).run Tryd.prog w = .ok vt w) ∧ (∀ w : World, w.ownsRow B 9 1 v n (O.map Value.string) → TsAt w vt (O.drop k)) := by
  have hl : O.length = n := by have := h0.1; simpa using this
  obtain ⟨i0, hi, _, hz1, _⟩ := info_parts infoS9
  rcases h0.2 with ⟨rfl, hn0⟩ | ⟨g, cap, cur, rfl, hb, hg, h1, h2, h3, h4⟩
  · obtain rfl : k = 0 := by omega
    refine ⟨.slice none 0 0, fun w => by simp [Instr.slice, run_underlying Tryd.underlying23, Instr.sliceBounds, run_sliceBound, sizeOf, typeInfo, hi], fun w h => ?_⟩
    have : O = [] := List.eq_nil_of_length_eq_zero (by omega)
    subst this
    exact ⟨none, 0, 0, 0, rfl, fun h => absurd h (by simp), fun i hi => absurd hi (by simp), fun _ => ⟨rfl, rfl⟩, Nat.le_refl _, Nat.zero_le _⟩
  · have e1 : ((k : Int) ≤ (n : Int)) := by omega
    refine ⟨.slice (some (if cap = k then ⟨g, 0, none⟩ else ⟨g, k, none⟩)) (n - k) (cap - k), fun w => ?_, fun w h => ?_⟩
    · simp [Instr.slice, run_underlying Tryd.underlying23, Instr.sliceBounds, run_sliceBound, sizeOf, typeInfo, hi, hz1, e1, Addr.add_mid]
      split <;> rfl
    · have hd : (O.drop k).length = n - k := by rw [List.length_drop]; omega
      have hle : (O.drop k).length ≤ cap - k := by rw [hd]; omega
      refine ⟨some (if cap = k then ⟨g, 0, none⟩ else ⟨g, k, none⟩), g, k, cap - k, by rw [hd], fun hp => ?_, fun i hi => ?_, (fun h => nomatch h), hle, Nat.le_trans (Nat.sub_le _ _) h2⟩
      · rw [if_neg (by omega)]
      · rw [hd] at hi
        rcases h.2 with ⟨e, _⟩ | ⟨g', cap', cur', e, hb', hg', h1', h2', h3', h4'⟩
        · cases e
        · cases e
          rw [cell_of_row w g (k + i) cur' 9 (0, 0) hg', ← Array.getElem?_toList]
          have e1 : cur'.toList[k + i]? = (O.map Value.string)[k + i]? := by
            rw [← h4', List.getElem?_take_of_lt (by omega)]
          rw [e1, List.getElem?_map, List.getElem?_eq_getElem (by omega), List.getElem_drop]
          rfl
end Go.Proofs.YtpkbfljoakodoaaDoor
