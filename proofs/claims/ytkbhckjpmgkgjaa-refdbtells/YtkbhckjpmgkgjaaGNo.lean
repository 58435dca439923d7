/- My own work: graphs that no call made reach nothing. -/
import Derived.Test.YtkbhckjpmgkgjaaBase
import Derived.Great.BuildSlice
namespace Go.Proofs.Ytkbhckjpmgkgjaa
open Go.RowKit

/-- The zero Graph's cells. -/
abbrev graph0 : Array Value := #[.slice none 0 0, .slice none 0 0, .map none]
/-- No graph: nil, or one whose cells are zero. -/
def NoG (w : World) (t : Value) : Prop := t = .pointer none ∨ ∃ g, t = .pointer (some ⟨g, 0, none⟩) ∧ Row w g graph0 51
theorem NoG.below {w w' : World} {t : Value} (h : NoG w t) (hb : Below w.heap.size w w') : NoG w' t := h.imp id fun ⟨g, e, r⟩ => ⟨g, e, r.below hb r.lt⟩
theorem NoG.ptr {w : World} {t : Value} (h : NoG w t) : ∃ x, t = .pointer x := by
  rcases h with rfl | ⟨g, rfl, _⟩ <;> exact ⟨_, rfl⟩
theorem map_ne (w : World) : Sem.run Try.prog (binOp BinOp.neq 49 (.map none) (.map none)) w = .ok (.bool false) w := by kernel_rfl
set_option maxRecDepth 20000 in
theorem gmade_no (t : Value) (w : World) (h : NoG w t) : Calls Try.prog 28 #[t] w fun e w' => e = .returned (.bool false) ∧ w' = w := by
  rcases h with rfl | ⟨g, rfl, hR⟩
  · go_enter Try.func28, Try.ntmps28
    go_wp2
    go_ret
    exact ⟨rfl, rfl⟩
  · have hc : w.cell? ⟨g, 2, none⟩ = some (.map none) := (hR.cell 2).trans rfl
    have hn := map_ne w
    clear hR
    go_enter Try.func28, Try.ntmps28
    go_wp2
    go_ret
    exact ⟨rfl, rfl⟩
theorem gclosure_no (t p : Value) (w : World) (h : NoG w t) : Calls Try.prog 9 #[t, p] w fun e w' => e = .returned (.tuple #[.slice none 0 0, .int .i64 1]) ∧ Below w.heap.size w w' := by
  have H := gmade_no t w h
  clear h
  go_enter Try.func9, Try.ntmps9
  go_wp2_with fail
  refine H.mono ?_
  rintro e w' ⟨rfl, rfl⟩
  go_wp2
  go_ret2
  exact ⟨rfl, Below.refl _ _⟩
set_option maxHeartbeats 1000000 in
theorem greferrers_no (t p : Value) (w : World) (h : NoG w t) : Calls Try.prog 11 #[t, p] w fun e w' => e = .returned (.tuple #[.slice none 0 0, .int .i64 1]) ∧ Below w.heap.size w w' := by
  obtain ⟨x, rfl⟩ := h.ptr
  have hb : Below w.heap.size w (w.alloc (.cells #[.pointer x] 26)) := (Below.refl _ _).alloc (Nat.le_refl _) _
  have H := gmade_no (.pointer x) _ (h.below hb)
  have HB : Hid _ := hb
  clear h hb
  go_enter Try.func11, Try.ntmps11
  go_wp2_with fail
  refine H.mono ?_
  rintro e w' ⟨rfl, rfl⟩
  go_wp2
  go_ret2
  exact ⟨rfl, HB.out⟩
theorem gorder_no (t : Value) (w : World) (h : NoG w t) : Calls Try.prog 13 #[t] w fun e w' => e = .returned (.tuple #[.slice none 0 0, .int .i64 1]) ∧ Below w.heap.size w w' := by
  have H := gmade_no t w h
  clear h
  go_enter Try.func13, Try.ntmps13
  go_wp2_with fail
  refine H.mono ?_
  rintro e w' ⟨rfl, rfl⟩
  go_wp2
  go_ret2
  exact ⟨rfl, Below.refl _ _⟩
theorem gdead_no (t p : Value) (w : World) (h : NoG w t) : Calls Try.prog 16 #[t, p] w fun e w' => e = .returned (.slice none 0 0) ∧ Below w.heap.size w w' := by
  have H := gmade_no t w h
  clear h
  go_enter Try.func16, Try.ntmps16
  go_wp2_with fail
  refine H.mono ?_
  rintro e w' ⟨rfl, rfl⟩
  go_wp2
  go_ret
  exact ⟨rfl, Below.refl _ _⟩
set_option maxHeartbeats 1000000 in
theorem gderived_no (t : Value) (p : ByteArray) (w : World) (h : NoG w t) : Calls Try.prog 18 #[t, .string p] w fun e w' => e = .returned (.slice none 0 0) ∧ Below w.heap.size w w' := by
  obtain ⟨x, rfl⟩ := h.ptr
  have hb : Below w.heap.size w ((w.alloc (.cells #[.pointer x] 26)).alloc (.cells #[.string p] 9)) := ((Below.refl _ _).alloc (Nat.le_refl _) _).alloc (by simp) _
  have H := gmade_no (.pointer x) _ (h.below hb)
  have HB : Hid _ := hb
  clear h hb
  go_enter Try.func18, Try.ntmps18
  go_wp2_with fail
  refine H.mono ?_
  rintro e w' ⟨rfl, rfl⟩
  go_wp2
  go_ret
  exact ⟨rfl, HB.out⟩
theorem grefers_no (t p q : Value) (w : World) (h : NoG w t) : Calls Try.prog 20 #[t, p, q] w fun e w' => e = .returned (.bool false) ∧ Below w.heap.size w w' := by
  have H := gmade_no t w h
  clear h
  go_enter Try.func20, Try.ntmps20
  go_wp2_with fail
  refine H.mono ?_
  rintro e w' ⟨rfl, rfl⟩
  go_wp2
  go_ret
  exact ⟨rfl, Below.refl _ _⟩
/-- What holds all through a round: the graph that no call made, the list of both. -/
structure Gb (w0 : World) (d : Value) (w : World) : Prop where
  z : Row w w0.heap.size graph0 51
  l : Row w (w0.heap.size + 1) #[.pointer none, .pointer (some ⟨w0.heap.size, 0, none⟩)] 26
  no : NoG w d
  old : Below w0.heap.size w0 w
theorem Gb.next {w0 : World} {d : Value} {w w' : World} (h : Gb w0 d w) (hb : Below w.heap.size w w') : Gb w0 d w' :=
  ⟨h.z.below hb h.z.lt, h.l.below hb h.l.lt, h.no.below hb, h.old.trans (hb.mono h.old.size)⟩
theorem built_graph : Try.prog.built 51 [] = some graph0 := by kernel_rfl
end Go.Proofs.Ytkbhckjpmgkgjaa
