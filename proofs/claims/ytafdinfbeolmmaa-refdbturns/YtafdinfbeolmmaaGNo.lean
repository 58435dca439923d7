/- My own work: graphs that no call made reach nothing. -/
import Derived.Test.YtafdinfbeolmmaaBase
import Derived.Great.BuildSlice
namespace Go.Proofs.Ytafdinfbeolmmaa
open Go.RowKit

/-- The zero Graph's cells. -/
abbrev graph0 : Array Value := #[.slice none 0 0, .slice none 0 0, .map none]
/-- No graph: nil, or one whose cells are zero. -/
def NoG (w : World) (t : Value) : Prop := t = .pointer none ∨ ∃ g, t = .pointer (some ⟨g, 0, none⟩) ∧ Row w g graph0 51
theorem NoG.below {w w' : World} {t : Value} (h : NoG w t) (hb : Below w.heap.size w w') : NoG w' t := h.imp id fun ⟨g, e, r⟩ => ⟨g, e, r.below hb r.lt⟩
theorem NoG.ptr {w : World} {t : Value} (h : NoG w t) : ∃ x, t = .pointer x := by
  rcases h with rfl | ⟨g, rfl, _⟩ <;> exact ⟨_, rfl⟩
theorem map_ne (w : World) : Sem.run Try.prog (binOp BinOp.neq 49 (.map none) (.map none)) w = .ok (.bool false) w := by kernel_rfl
set_option maxRecDepth 20000 in
theorem gmade_no (t : Value) (w : World) (h : NoG w t) : Calls Try.prog 33 #[t] w fun e w' => e = .returned (.bool false) ∧ w' = w := by
  rcases h with rfl | ⟨g, rfl, hR⟩
  · go_enter Try.func33, Try.ntmps33
    go_wp2
    go_ret
    exact ⟨rfl, rfl⟩
  · have hc : w.cell? ⟨g, 2, none⟩ = some (.map none) := (hR.cell 2).trans rfl
    have hn := map_ne w
    clear hR
    go_enter Try.func33, Try.ntmps33
    go_wp2
    go_ret
    exact ⟨rfl, rfl⟩
theorem gclosure_no (t p : Value) (w : World) (h : NoG w t) : Calls Try.prog 13 #[t, p] w fun e w' => e = .returned (.tuple #[.slice none 0 0, .int .i64 1]) ∧ Below w.heap.size w w' := by
  have H := gmade_no t w h
  clear h
  go_enter Try.func13, Try.ntmps13
  go_wp2_with fail
  refine H.mono ?_
  rintro e w' ⟨rfl, rfl⟩
  go_wp2
  go_ret2
  exact ⟨rfl, Below.refl _ _⟩
set_option maxHeartbeats 1000000 in
theorem greferrers_no (t p : Value) (w : World) (h : NoG w t) : Calls Try.prog 15 #[t, p] w fun e w' => e = .returned (.tuple #[.slice none 0 0, .int .i64 1]) ∧ Below w.heap.size w w' := by
  obtain ⟨x, rfl⟩ := h.ptr
  have hb : Below w.heap.size w (w.alloc (.cells #[.pointer x] 26)) := (Below.refl _ _).alloc (Nat.le_refl _) _
  have H := gmade_no (.pointer x) _ (h.below hb)
  have HB : Hid _ := hb
  clear h hb
  go_enter Try.func15, Try.ntmps15
  go_wp2_with fail
  refine H.mono ?_
  rintro e w' ⟨rfl, rfl⟩
  go_wp2
  go_ret2
  exact ⟨rfl, HB.out⟩
theorem gorder_no (t : Value) (w : World) (h : NoG w t) : Calls Try.prog 17 #[t] w fun e w' => e = .returned (.tuple #[.slice none 0 0, .int .i64 1]) ∧ Below w.heap.size w w' := by
  have H := gmade_no t w h
  clear h
  go_enter Try.func17, Try.ntmps17
  go_wp2_with fail
  refine H.mono ?_
  rintro e w' ⟨rfl, rfl⟩
  go_wp2
  go_ret2
  exact ⟨rfl, Below.refl _ _⟩
theorem gdead_no (t p : Value) (w : World) (h : NoG w t) : Calls Try.prog 20 #[t, p] w fun e w' => e = .returned (.slice none 0 0) ∧ Below w.heap.size w w' := by
  have H := gmade_no t w h
  clear h
  go_enter Try.func20, Try.ntmps20
  go_wp2_with fail
  refine H.mono ?_
  rintro e w' ⟨rfl, rfl⟩
  go_wp2
  go_ret
  exact ⟨rfl, Below.refl _ _⟩
set_option maxHeartbeats 1000000 in
theorem gderived_no (t : Value) (p : ByteArray) (w : World) (h : NoG w t) : Calls Try.prog 22 #[t, .string p] w fun e w' => e = .returned (.slice none 0 0) ∧ Below w.heap.size w w' := by
  obtain ⟨x, rfl⟩ := h.ptr
  have hb : Below w.heap.size w ((w.alloc (.cells #[.pointer x] 26)).alloc (.cells #[.string p] 9)) := ((Below.refl _ _).alloc (Nat.le_refl _) _).alloc (by simp) _
  have H := gmade_no (.pointer x) _ (h.below hb)
  have HB : Hid _ := hb
  clear h hb
  go_enter Try.func22, Try.ntmps22
  go_wp2_with fail
  refine H.mono ?_
  rintro e w' ⟨rfl, rfl⟩
  go_wp2
  go_ret
  exact ⟨rfl, HB.out⟩
theorem grefers_no (t p q : Value) (w : World) (h : NoG w t) : Calls Try.prog 24 #[t, p, q] w fun e w' => e = .returned (.bool false) ∧ Below w.heap.size w w' := by
  have H := gmade_no t w h
  clear h
  go_enter Try.func24, Try.ntmps24
  go_wp2_with fail
  refine H.mono ?_
  rintro e w' ⟨rfl, rfl⟩
  go_wp2
  go_ret
  exact ⟨rfl, Below.refl _ _⟩
/-- What holds all through a round: the graph that no call made, the list of both. -/
structure Gb (w0 : World) (d : Value) (w : World) : Prop where
  z : Row w w0.heap.size graph0 51
  l : Row w (w0.heap.size + 1) #[.pointer none, .pointer (some ⟨w0.heap.size, 0, none⟩)] 26
  no : NoG w d
  old : Below w0.heap.size w0 w
theorem Gb.next {w0 : World} {d : Value} {w w' : World} (h : Gb w0 d w) (hb : Below w.heap.size w w') : Gb w0 d w' :=
  ⟨h.z.below hb h.z.lt, h.l.below hb h.l.lt, h.no.below hb, h.old.trans (hb.mono h.old.size)⟩
theorem built_graph : Try.prog.built 51 [] = some graph0 := by kernel_rfl
set_option maxRecDepth 20000 in
set_option maxHeartbeats 4000000 in
theorem law_gnobody (ps : Value) (p : ByteArray) (w : World) :
    Calls Try.prog 4 #[ps, .string p] w fun e w' => e = .returned (.bool true) ∧ Below w.heap.size w w' := by
  go_enter Try.func4, Try.ntmps4
  go_wp2
  go_loopw [17] (fun i wr => ∃ k : Nat, k ≤ 2 ∧ i = .int .i64 k ∧ Gb w (.pointer none) wr) (fun i _ => 2 - (intOf i).toNat)
  case atStart =>
    have r1 := Row.new w graph0 51
    refine ⟨0, by omega, rfl, r1.alloc _, ?_, .inl rfl, ((Below.refl _ _).alloc (Nat.le_refl _) _).alloc (by simp) _⟩
    have h := Row.new (w.alloc (.cells graph0 51)) #[.pointer none, .pointer (some ⟨w.heap.size, 0, none⟩)] 26
    simpa using h
  case round =>
    obtain ⟨k, hk, rfl, hN0⟩ := hrel
    by_cases hlt : k < 2
    · obtain ⟨d, hd, hN⟩ : ∃ d, wr.cell? ⟨w.heap.size + 1, k, none⟩ = some d ∧ Gb w d wr := by
        match k, hlt with
        | 0, _ => exact ⟨_, hN0.l.cell 0, hN0⟩
        | 1, _ => exact ⟨_, hN0.l.cell 1, hN0.z, hN0.l, .inr ⟨_, rfl, hN0.z⟩, hN0.old⟩
      clear hN0
      have H1 := gclosure_no d ps wr hN.no
      go_wp2_with fail
      refine Calls.mono H1 ?_
      rintro e w1 ⟨rfl, hb1⟩
      have HN1 : Hid _ := hN.next hb1
      clear H1 hb1 hN
      have H2 := greferrers_no d (.string p) w1 HN1.out.no
      go_wp2_with fail
      refine Calls.mono H2 ?_
      rintro e w2 ⟨rfl, hb2⟩
      have HN2 : Hid _ := HN1.out.next hb2
      clear H2 hb2 HN1
      have H3 := gorder_no d w2 HN2.out.no
      go_wp2_with fail
      refine Calls.mono H3 ?_
      rintro e w3 ⟨rfl, hb3⟩
      have HN3 : Hid _ := HN2.out.next hb3
      clear H3 hb3 HN2
      have H4 := gdead_no d ps w3 HN3.out.no
      go_wp2_with fail
      refine Calls.mono H4 ?_
      rintro e w4 ⟨rfl, hb4⟩
      have HN4 : Hid _ := HN3.out.next hb4
      clear H4 hb4 HN3
      have H5 := gderived_no d p w4 HN4.out.no
      go_wp2_with fail
      refine Calls.mono H5 ?_
      rintro e w5 ⟨rfl, hb5⟩
      have HN5 : Hid _ := HN4.out.next hb5
      clear H5 hb5 HN4
      have H6 := grefers_no d (.string p) (.string p) w5 HN5.out.no
      go_wp2_with fail
      refine Calls.mono H6 ?_
      rintro e w6 ⟨rfl, hb6⟩
      have HN6 : Hid _ := HN5.out.next hb6
      clear H6 hb6 HN5
      go_wp2
      go_roundw
      case rel => exact ⟨k + 1, by omega, by go_num, HN6.out.z, HN6.out.l, .inl rfl, HN6.out.old⟩
      case measure => simp [intOf]; omega
    · go_wp2
      go_ret
      exact ⟨rfl, hN0.old⟩
end Go.Proofs.Ytafdinfbeolmmaa
