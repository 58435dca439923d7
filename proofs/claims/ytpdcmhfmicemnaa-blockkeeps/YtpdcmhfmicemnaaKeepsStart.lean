/- What BlockKeeps begins with. -/
import Derived.Test.YtpdcmhfmicemnaaKeepsKit
import Derived.Deep.DeepCutAuto
namespace Go.Proofs.Ytpdcmhfmicemnaa
open Go.RowKit

theorem zeroText (D : Dk) (h : D = freshD 4 fun _ => 0) (z : ByteArray) (hz : z = sStr fun _ => 0) (k : Nat) : D.T k = [z] := by
  subst h
  subst hz
  rfl
theorem sf_zero (k : Nat) : sfAt (freshD 4 fun _ => 0) 0 k = 0 := rfl
theorem mod_spec (m : Nat) (z : Int) : ∃ (q : Int) (p : Nat), z.tmod ((m : Int) + 1) = q ∧ -((m : Int) + 1) < q ∧ q < (m : Int) + 1 ∧ (q + m + 1).tmod ((m : Int) + 1) = (p : Int) ∧ p ≤ m := by
  have hl : (0 : Int) < (m : Int) + 1 := by omega
  have h1 : -((m : Int) + 1) < z.tmod ((m : Int) + 1) := by
    have := Int.lt_tmod_of_pos z hl
    omega
  have h2 : z.tmod ((m : Int) + 1) < (m : Int) + 1 := Int.tmod_lt_of_pos z hl
  have h3 : (0 : Int) ≤ z.tmod ((m : Int) + 1) + m + 1 := by omega
  have h4 : (z.tmod ((m : Int) + 1) + m + 1).tmod ((m : Int) + 1) = (z.tmod ((m : Int) + 1) + m + 1) % ((m : Int) + 1) := Int.tmod_eq_emod_of_nonneg h3
  have h5 := Int.emod_nonneg (z.tmod ((m : Int) + 1) + m + 1) (show (m : Int) + 1 ≠ 0 by omega)
  have h6 := Int.emod_lt_of_pos (z.tmod ((m : Int) + 1) + m + 1) hl
  exact ⟨_, ((z.tmod ((m : Int) + 1) + m + 1) % ((m : Int) + 1)).toNat, rfl, h1, h2, by rw [h4]; omega, by omega⟩

theorem own_sl {w : World} {base n s : Nat} {e : TypeId} {v : Value} {xs : List Value} (h : w.ownsRow base e s v n xs) (hn : 0 < n) : ∃ g c cur, v = .slice (some ⟨g, 0, none⟩) n c ∧ Row w g cur e ∧ base ≤ g := by
  obtain ⟨_, ⟨h1, h2⟩ | ⟨g, c, cur, h1, h2, h3, _⟩⟩ := h
  · omega
  · exact ⟨g, c, cur, h1, h3, h2⟩
/-- 'append(v, x)' of a text, v a row of texts of one's own: where the grown row lies. -/
theorem wp_append_text {w : World} {o : Oper} {a : Act} {K : Act → World → Prop} {Q : Exit → Act → World → Prop} (s x : Operand) (ho : o.op = .call { callee := .builtin .append, args := #[s, x], argTypes := #[51, 51] }) (base : Nat) (v : Value) (n : Nat) (xs : List Value) (t : ByteArray) (W : World) (hw : w = W.alloc (.cells #[.string t] 9))
    (hs : a.eval s = v) (hown : w.ownsRow base 9 1 v n xs) (hx : a.eval x = .slice (some ⟨W.heap.size, 0, none⟩) 1 1) (hn : n ≤ 1000) (hbase : base ≤ W.heap.size)
    (h : ∀ v' w', w'.ownsRow base 9 1 v' (n + 1) (xs ++ [.string t]) → w.grownBy w' v.ownBlock → (v'.ownBlock = v.ownBlock ∨ v'.ownBlock = some w.heap.size) → K (a.put o.dst v') w') : o.wp Try.prog a w K Q := by
  subst hw
  obtain ⟨i0, hi, hz0, hz1, hz2⟩ := info_parts Try.info9
  obtain ⟨v', w', hr, h2, h3, _, h5⟩ := run_append_own_at (P := Try.prog) _ base 51 o.type 9 i0 (.string ⟨#[]⟩) 1 16 Try.underlying51 hi hz0 hz1 hz2 rfl (by decide) v n xs hown ⟨W.heap.size, 0, none⟩ 1 1 [.string t] rfl (cell_one_new _ _ _) (fun u hu => by simp at hu; subst hu; rfl) (by unfold maxLen; omega) (by omega) (by simp; omega)
  unfold Oper.wp execOp
  simp only [ho, resolve, invoke, builtin, Sem.run_bind, Sem.run_pure, Result.andThen_ok, List.map_toArray, List.map_cons, List.map_nil, hs, hx, hr]
  exact h v' w' h2 h3 h5
theorem one_text (t : ByteArray) (w : World) : (Instr.buildSlice 51 1 #[(0, .string t)]).run Try.prog w = .ok (.slice (some ⟨w.heap.size, 0, none⟩) 1 1) (w.alloc (.cells #[.string t] 9)) := by
  obtain ⟨i0, hi, hz0, hz1, _⟩ := info_parts Try.info9
  refine run_buildSlice w 51 9 1 _ _ i0 _ Try.underlying51 hi hz0 (by rw [hz1]; decide) (by rw [hz1]; decide) ?_
  have h := Go.Great.fill_whole (s := 1) (by decide) [.string t] ((Array.range (1 * i0.size)).map ((Value.string ⟨#[]⟩).cells[· % (Value.string ⟨#[]⟩).cells.size]!)) (fun v hv => by simp at hv; subst hv; rfl) (by simp [hz1])
  rw [hz1] at h ⊢
  simpa [Value.cells] using h
/-- The first k are new. -/
def mixS (a b : Nat → Nat) (k i : Nat) : Nat := if i < k then a i else b i
theorem mixS_set (a b : Nat → Nat) (k : Nat) (h : k < 4) : (row4 (mixS a b k)).toArray.setIfInBounds k (.int .i64 (a k)) = (row4 (mixS a b (k + 1))).toArray := by
  match k, h with
  | 0, _ => simp [row4, four, mixS]
  | 1, _ => simp [row4, four, mixS]
  | 2, _ => simp [row4, four, mixS]
  | 3, _ => simp [row4, four, mixS]

theorem kp_start {w w1 : World} {g g1 c1 g2 c2 : Nat} (hD : DiskAt w1 w.heap.size g g1 c1 g2 c2 (.slice none 0 0) (freshD 4 fun _ => 0)) (hb1 : Below w.heap.size w w1) (Z : Array Value) (z : ByteArray) (hz : z = sStr fun _ => 0) (n0 : Nat) (hn0 : n0 = w1.heap.size) :
    Kp w g g1 c1 g2 c2 (n0 + 1 + 1 + 1 + 1 + 1) (n0 + 1 + 1 + 1 + 1 + 1 + 1) (.slice none 0 0) (freshD 4 fun _ => 0) (fun k => .slice (some ⟨n0 + 1 + k, 0, none⟩) 1 1) (sfAt (freshD 4 fun _ => 0) 0) (.slice none 0 0) 0
      (((((((w1.alloc (.cells Z 5)).alloc (.cells #[.string z] 9)).alloc (.cells #[.string z] 9)).alloc (.cells #[.string z] 9)).alloc (.cells #[.string z] 9)).alloc (.cells #[.slice (some ⟨n0 + 1, 0, none⟩) 1 1, .slice (some ⟨n0 + 1 + 1, 0, none⟩) 1 1, .slice (some ⟨n0 + 1 + 1 + 1, 0, none⟩) 1 1, .slice (some ⟨n0 + 1 + 1 + 1 + 1, 0, none⟩) 1 1] 51)).alloc (.cells #[.int .i64 0, .int .i64 0, .int .i64 0, .int .i64 0] 3)) := by
  subst hn0
  have hs := hb1.size
  have hb : Below w1.heap.size w1 (((((((w1.alloc (.cells Z 5)).alloc (.cells #[.string z] 9)).alloc (.cells #[.string z] 9)).alloc (.cells #[.string z] 9)).alloc (.cells #[.string z] 9)).alloc (.cells #[.slice (some ⟨w1.heap.size + 1, 0, none⟩) 1 1, .slice (some ⟨w1.heap.size + 1 + 1, 0, none⟩) 1 1, .slice (some ⟨w1.heap.size + 1 + 1 + 1, 0, none⟩) 1 1, .slice (some ⟨w1.heap.size + 1 + 1 + 1 + 1, 0, none⟩) 1 1] 51)).alloc (.cells #[.int .i64 0, .int .i64 0, .int .i64 0, .int .i64 0] 3)) :=
    (((((((Below.refl _ _).alloc (Nat.le_refl _) _).alloc (by simp) _).alloc (by simp; omega) _).alloc (by simp; omega) _).alloc (by simp; omega) _).alloc (by simp; omega) _).alloc (by simp; omega) _
  have lit : ∀ W : World, w.heap.size ≤ W.heap.size → (W.alloc (.cells #[.string z] 9)).ownsRow w.heap.size 9 1 (.slice (some ⟨W.heap.size, 0, none⟩) 1 1) 1 [.string z] := fun W hW => by
    have h := World.ownsRow_lit (base := w.heap.size) (e := 9) (size := 1) W #[.string z] 1 hW (by decide) rfl
    simpa using h
  refine ⟨hD.below hb (Nat.le_refl _), ⟨?_, ?_, ?_⟩, ?_, World.ownsRow_nil _ _ _ _, rfl, by omega, by omega, hb1.trans (hb.mono hs)⟩
  · have h := (Row.new (((((w1.alloc (.cells Z 5)).alloc (.cells #[.string z] 9)).alloc (.cells #[.string z] 9)).alloc (.cells #[.string z] 9)).alloc (.cells #[.string z] 9)) (four fun k => Value.slice (some ⟨w1.heap.size + 1 + k, 0, none⟩) 1 1).toArray 51).alloc (.cells #[.int .i64 0, .int .i64 0, .int .i64 0, .int .i64 0] 3)
    simp only [World.size_alloc] at h
    exact h
  · intro k hk
    rw [zeroText _ rfl z hz k]
    match k, hk with
    | 0, _ =>
      have h := (((((lit (w1.alloc (.cells Z 5)) (by simp; omega)).alloc (.cells #[.string z] 9)).alloc (.cells #[.string z] 9)).alloc (.cells #[.string z] 9)).alloc (.cells #[.slice (some ⟨w1.heap.size + 1, 0, none⟩) 1 1, .slice (some ⟨w1.heap.size + 1 + 1, 0, none⟩) 1 1, .slice (some ⟨w1.heap.size + 1 + 1 + 1, 0, none⟩) 1 1, .slice (some ⟨w1.heap.size + 1 + 1 + 1 + 1, 0, none⟩) 1 1] 51)).alloc (.cells #[.int .i64 0, .int .i64 0, .int .i64 0, .int .i64 0] 3)
      simp only [World.size_alloc] at h
      exact h
    | 1, _ =>
      have h := ((((lit ((w1.alloc (.cells Z 5)).alloc (.cells #[.string z] 9)) (by simp; omega)).alloc (.cells #[.string z] 9)).alloc (.cells #[.string z] 9)).alloc (.cells #[.slice (some ⟨w1.heap.size + 1, 0, none⟩) 1 1, .slice (some ⟨w1.heap.size + 1 + 1, 0, none⟩) 1 1, .slice (some ⟨w1.heap.size + 1 + 1 + 1, 0, none⟩) 1 1, .slice (some ⟨w1.heap.size + 1 + 1 + 1 + 1, 0, none⟩) 1 1] 51)).alloc (.cells #[.int .i64 0, .int .i64 0, .int .i64 0, .int .i64 0] 3)
      simp only [World.size_alloc] at h
      exact h
    | 2, _ =>
      have h := (((lit (((w1.alloc (.cells Z 5)).alloc (.cells #[.string z] 9)).alloc (.cells #[.string z] 9)) (by simp; omega)).alloc (.cells #[.string z] 9)).alloc (.cells #[.slice (some ⟨w1.heap.size + 1, 0, none⟩) 1 1, .slice (some ⟨w1.heap.size + 1 + 1, 0, none⟩) 1 1, .slice (some ⟨w1.heap.size + 1 + 1 + 1, 0, none⟩) 1 1, .slice (some ⟨w1.heap.size + 1 + 1 + 1 + 1, 0, none⟩) 1 1] 51)).alloc (.cells #[.int .i64 0, .int .i64 0, .int .i64 0, .int .i64 0] 3)
      simp only [World.size_alloc] at h
      exact h
    | 3, _ =>
      have h := ((lit ((((w1.alloc (.cells Z 5)).alloc (.cells #[.string z] 9)).alloc (.cells #[.string z] 9)).alloc (.cells #[.string z] 9)) (by simp; omega)).alloc (.cells #[.slice (some ⟨w1.heap.size + 1, 0, none⟩) 1 1, .slice (some ⟨w1.heap.size + 1 + 1, 0, none⟩) 1 1, .slice (some ⟨w1.heap.size + 1 + 1 + 1, 0, none⟩) 1 1, .slice (some ⟨w1.heap.size + 1 + 1 + 1 + 1, 0, none⟩) 1 1] 51)).alloc (.cells #[.int .i64 0, .int .i64 0, .int .i64 0, .int .i64 0] 3)
      simp only [World.size_alloc] at h
      exact h
  · intro i k _ _ hik q hq h2
    simp only [Value.ownBlock, Option.some.injEq] at hq h2
    omega
  · have h := Row.new ((((((w1.alloc (.cells Z 5)).alloc (.cells #[.string z] 9)).alloc (.cells #[.string z] 9)).alloc (.cells #[.string z] 9)).alloc (.cells #[.string z] 9)).alloc (.cells #[.slice (some ⟨w1.heap.size + 1, 0, none⟩) 1 1, .slice (some ⟨w1.heap.size + 1 + 1, 0, none⟩) 1 1, .slice (some ⟨w1.heap.size + 1 + 1 + 1, 0, none⟩) 1 1, .slice (some ⟨w1.heap.size + 1 + 1 + 1 + 1, 0, none⟩) 1 1] 51)) (row4 (sfAt (freshD 4 fun _ => 0) 0)).toArray 3
    simp only [World.size_alloc] at h
    exact h

/-- What holds behind the power loss. -/
structure Ke (w0 : World) (g g1 c1 g2 c2 gw gs : Nat) (ev : Value) (D : Dk) (v : Nat → Value) (sf : Nat → Nat) (sv : Value) (n bx gx gx1 cx1 gx2 cx2 : Nat) (FA : Nat → Int) (w : World) : Prop where
  kp : Kp w0 g g1 c1 g2 c2 gw gs ev D v sf sv n w
  x : DiskAt w bx gx gx1 cx1 gx2 cx2 (.slice none 0 0) (freshD 4 FA)
theorem Ke.next {w0 : World} {g g1 c1 g2 c2 gw gs : Nat} {ev : Value} {D : Dk} {v : Nat → Value} {sf : Nat → Nat} {sv : Value} {n bx gx gx1 cx1 gx2 cx2 : Nat} {FA : Nat → Int} {w w' : World} (h : Ke w0 g g1 c1 g2 c2 gw gs ev D v sf sv n bx gx gx1 cx1 gx2 cx2 FA w) (hb : Below w.heap.size w w') :
    Ke w0 g g1 c1 g2 c2 gw gs ev D v sf sv n bx gx gx1 cx1 gx2 cx2 FA w' := ⟨h.kp.next hb, h.x.below hb (Nat.le_refl _)⟩
/-- What is looked at while a text is sought. -/
structure Kc (base gw : Nat) (v : Nat → Value) (tv : Value) (L : Nat) (T : List ByteArray) (nq : Nat) (Ca : Array Value) (w : World) : Prop where
  row : Row w gw (four v).toArray 51
  own : w.ownsRow base 9 1 tv L (T.map Value.string)
  ra : Row w nq Ca 5
theorem ev_ok (D : Dk) (h : ∀ e ∈ D.E, e.ok D.s) (i : Nat) (hi : i < D.E.length) : (D.ev i).ok D.s := by
  have hx : D.E[i]? = some (D.ev i) := by
    rw [List.getElem?_eq_getElem hi]
    simp [Dk.ev, List.getD, List.getElem?_eq_getElem hi]
  exact h _ (List.mem_of_getElem? hx)
end Go.Proofs.Ytpdcmhfmicemnaa
