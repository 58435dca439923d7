/- My own work: a reader in memory; the walks of wrong and take. -/
import Derived.Test.YtimiginpdkokiaaDoorDecM
import Derived.Test.YtimiginpdkokiaaDoorPermA
import Derived.Test.YtimiginpdkokiaaDoorLate
namespace Go.Proofs.YtimiginpdkokiaaDoor
open Go.RowKit

/-- Where a reader lies, and the bytes that it reads. -/
structure Inp where
  gR : Nat
  b : Nat
  off : Nat
  L : Nat
  c : Nat
  a : Option Addr
  f : Nat → Int
/-- A reader that has read so many bytes. -/
structure Rdr (w : World) (I : Inp) (p : Nat) : Prop where
  row : Row w I.gR #[.slice I.a I.L I.c, .int .i64 p] 64
  at' : 0 < I.L → I.a = some ⟨I.b, I.off, none⟩
  cell : ∀ i, i < I.L → w.cell? ⟨I.b, I.off + i, none⟩ = some (.int .u8 (I.f i))
  bd : ∀ i, 0 ≤ I.f i ∧ I.f i < 256
  ne : 0 < I.L → I.b ≠ I.gR
  le : p ≤ I.L
  cap : I.L ≤ I.c
  cm : I.c ≤ 9223372036854775807
  small : I.L ≤ 1048576
/-- Nothing but the reader has changed. -/
abbrev Gr (I : Inp) (w w' : World) : Prop := w.grownBy w' (some I.gR)
theorem Gr.refl (I : Inp) (w : World) : Gr I w w := ⟨rfl, rfl, rfl, Nat.le_refl _, fun _ _ _ => rfl⟩
theorem Gr.trans {I : Inp} {w w1 w2 : World} (h1 : Gr I w w1) (h2 : Gr I w1 w2) : Gr I w w2 := grown_trans h1 (.inl rfl) h2
theorem Gr.of {I : Inp} {w w' : World} (hb : Below w.heap.size w w') : Gr I w w' := Below.grownBy hb _
theorem Gr.row {I : Inp} {w w' : World} (h : Gr I w w') {k : Nat} {C : Array Value} {t : TypeId} (hr : Row w k C t) (hk : k ≠ I.gR) : Row w' k C t :=
  (h.block k hr.lt (fun e => hk (Option.some.inj e))).trans hr
theorem Rdr.go {I : Inp} {w w' : World} {p q : Nat} (h : Rdr w I p) (g : Gr I w w') (hr : Row w' I.gR #[.slice I.a I.L I.c, .int .i64 q] 64) (hq : q ≤ I.L) : Rdr w' I q :=
  ⟨hr, h.at', fun i hi => by
    have hc := h.cell i hi
    have hlt : I.b < w.heap.size := World.block_lt_of_cell? w _ hc
    exact (World.cell?_of_block (w := w) (g.block I.b hlt (fun e => h.ne (by omega) (Option.some.inj e)))).trans hc, h.bd, h.ne, hq, h.cap, h.cm, h.small⟩
theorem Rdr.keep {I : Inp} {w w' : World} {p : Nat} (h : Rdr w I p) (hb : Below w.heap.size w w') : Rdr w' I p := h.go (Gr.of hb) (h.row.below hb h.row.lt) h.le
/-- An error that says what is wrong. -/
def ErrAt (w : World) (ev : Value) (e : Int) : Prop := ∃ g q, ev = .iface 93 (.pointer (some ⟨g, 0, none⟩)) ∧ Row w g #[.int .i64 e, .int .i64 q] 97
theorem ErrAt.keep {w w' : World} {ev : Value} {e : Int} (h : ErrAt w ev e) (hb : Below w.heap.size w w') : ErrAt w' ev e := by
  obtain ⟨g, q, h1, h2⟩ := h
  exact ⟨g, q, h1, h2.below hb h2.lt⟩
set_option maxRecDepth 20000 in
theorem wrong_ok (I : Inp) (p : Nat) (w : World) (h : Rdr w I p) (e : Int) : Calls Tryd.prog 44 #[.pointer (some ⟨I.gR, 0, none⟩), .int .i64 e] w fun r w' => ∃ ev, r = .returned ev ∧ ErrAt w' ev e ∧ Below w.heap.size w w' := by
  have c1 := (h.row.cell 1).trans (rfl : _ = some (Value.int .i64 p))
  have HB : Hid (Below w.heap.size w (w.alloc (.cells #[.int .i64 e, .int .i64 p] 97))) := (Below.refl _ _).alloc (Nat.le_refl _) _
  have HR : Hid (Row (w.alloc (.cells #[.int .i64 e, .int .i64 p] 97)) w.heap.size #[.int .i64 e, .int .i64 p] 97) := Row.new w _ _
  clear h
  go_enter Tryd.func44, Tryd.ntmps44
  go_wp2
  go_ret
  exact ⟨_, rfl, ⟨_, _, rfl, HR.out⟩, HB.out⟩
set_option maxRecDepth 20000 in
set_option maxHeartbeats 2000000 in
theorem take_no (I : Inp) (p n : Nat) (w : World) (h : Rdr w I p) (hn : I.L < p + n) (hn' : n ≤ 4611686018427387904) : Calls Tryd.prog 77 #[.pointer (some ⟨I.gR, 0, none⟩), .int .i64 n] w fun r w' => ∃ ev, r = .returned (.tuple #[.slice none 0 0, ev]) ∧ ErrAt w' ev 11 ∧ Below w.heap.size w w' := by
  have HC0 : Hid (∀ wx, Row wx I.gR #[.slice I.a I.L I.c, .int .i64 p] 64 → wx.cell? ⟨I.gR, 0, none⟩ = some (.slice I.a I.L I.c)) := fun wx hr => hr.cell 0
  have HC1 : Hid (∀ wx, Row wx I.gR #[.slice I.a I.L I.c, .int .i64 p] 64 → wx.cell? ⟨I.gR, 1, none⟩ = some (.int .i64 p)) := fun wx hr => hr.cell 1
  have HW : Hid (Calls Tryd.prog 44 #[.pointer (some ⟨I.gR, 0, none⟩), .int .i64 11] w.drew fun r w' => ∃ ev, r = .returned ev ∧ ErrAt w' ev 11 ∧ Below w.drew.heap.size w.drew w') := wrong_ok I p w.drew (h.keep (Below.refl _ _).drew) 11
  have hd : Row w.drew I.gR #[.slice I.a I.L I.c, .int .i64 p] 64 := Row.drew h.row
  have h1 := h.small
  have h2 := h.le
  have ht : ((I.L : Int) - (p : Int) < (n : Int)) := by omega
  have hwp : IntKind.i64.wrap ((I.L : Int) - (p : Int)) = (I.L : Int) - (p : Int) := by rw [IntKind.wrap_i64]; omega
  have hwn : n ≤ 4611686018427387904 → IntKind.i64.wrap ((p : Int) + (n : Int)) = ((p + n : Nat) : Int) := fun _ => by rw [IntKind.wrap_i64]; omega
  replace hwn := hwn (by omega)
  clear h
  go_enter Tryd.func77, Tryd.ntmps77
  go_wp2_with fail
  refine wp_region_permA [(false, 0), (false, 1), (false, 2), (false, 3), (false, 4), (false, 5), (false, 6), (false, 7), (false, 8), (false, 9), (false, 10), (false, 11)] (fun wx => Row wx I.gR #[.slice I.a I.L I.c, .int .i64 p] 64) (by kernel_rfl) (by kernel_rfl) hd ?_
  refine a_move (some 7) _ rfl rfl rfl (by rfl) ?_
  simp only [Act.put, List.setIfInBounds_toArray, List.set_cons_zero, List.set_cons_succ]
  refine a_move (some 8) _ rfl rfl rfl (by rfl) ?_
  simp only [Act.put, List.setIfInBounds_toArray, List.set_cons_zero, List.set_cons_succ]
  refine a_value (some 9) ?_ rfl rfl (by rfl) (fun w hw => ?_) ?_
  rotate_left
  · go_simp
    with_reducible rfl
  simp only [Act.put, List.setIfInBounds_toArray, List.set_cons_zero, List.set_cons_succ]
  refine a_value (some 10) ?_ rfl rfl (by rfl) (fun w hw => ?_) ?_
  rotate_left
  · go_simp
    with_reducible rfl
  simp only [Act.put, List.setIfInBounds_toArray, List.set_cons_zero, List.set_cons_succ]
  refine a_value (some 11) ?_ rfl rfl (by rfl) (fun w hw => ?_) ?_
  rotate_left
  · have c := HC0.out _ hw
    go_simp
    with_reducible rfl
  simp only [Act.put, List.setIfInBounds_toArray, List.set_cons_zero, List.set_cons_succ]
  refine a_value (some 12) ?_ rfl rfl (by rfl) (fun w hw => ?_) ?_
  rotate_left
  · go_simp
    with_reducible rfl
  simp only [Act.put, List.setIfInBounds_toArray, List.set_cons_zero, List.set_cons_succ]
  refine a_move (some 13) _ rfl rfl rfl (by rfl) ?_
  simp only [Act.put, List.setIfInBounds_toArray, List.set_cons_zero, List.set_cons_succ]
  refine a_value (some 14) ?_ rfl rfl (by rfl) (fun w hw => ?_) ?_
  rotate_left
  · go_simp
    with_reducible rfl
  simp only [Act.put, List.setIfInBounds_toArray, List.set_cons_zero, List.set_cons_succ]
  refine a_value (some 15) ?_ rfl rfl (by rfl) (fun w hw => ?_) ?_
  rotate_left
  · go_simp
    with_reducible rfl
  simp only [Act.put, List.setIfInBounds_toArray, List.set_cons_zero, List.set_cons_succ]
  refine a_value (some 16) ?_ rfl rfl (by rfl) (fun w hw => ?_) ?_
  rotate_left
  · have c := HC1.out _ hw
    go_simp
    with_reducible rfl
  simp only [Act.put, List.setIfInBounds_toArray, List.set_cons_zero, List.set_cons_succ]
  refine a_value (some 17) ?_ rfl rfl (by rfl) (fun w hw => ?_) ?_
  rotate_left
  · go_simp
    with_reducible rfl
  simp only [Act.put, List.setIfInBounds_toArray, List.set_cons_zero, List.set_cons_succ]
  refine a_value (some 18) ?_ rfl rfl (by rfl) (fun w hw => ?_) ?_
  rotate_left
  · go_simp
    with_reducible rfl
  simp only [Act.put, List.setIfInBounds_toArray, List.set_cons_zero, List.set_cons_succ]
  refine a_done ?_
  try simp only [Exit.then]
  go_wp2_with fail
  refine Calls.mono HW.out ?_
  rintro r w2 ⟨ev, rfl, he, hb⟩
  have HE : Hid (ErrAt w2 ev 11) := he
  have HB : Hid (Below w.heap.size w w2) := (Below.refl _ _).drew.trans hb
  clear he hb HW
  go_wp2
  go_ret2
  exact ⟨_, rfl, HE.out, HB.out⟩
set_option maxRecDepth 20000 in
set_option maxHeartbeats 2000000 in
theorem take_yes (I : Inp) (p n : Nat) (w : World) (h : Rdr w I p) (hn : p + n ≤ I.L) (hpos : 0 < I.L) : Calls Tryd.prog 77 #[.pointer (some ⟨I.gR, 0, none⟩), .int .i64 n] w fun r w' => ∃ o, r = .returned (.tuple #[.slice (some ⟨I.b, o, none⟩) n (I.c - p), .nilIface]) ∧ (0 < n → o = I.off + p) ∧ Rdr w' I (p + n) ∧ Gr I w w' := by
  have HC0 : Hid (∀ wx, Row wx I.gR #[.slice I.a I.L I.c, .int .i64 p] 64 → wx.cell? ⟨I.gR, 0, none⟩ = some (.slice (some ⟨I.b, I.off, none⟩) I.L I.c)) := fun wx hr => by rw [← h.at' hpos]; exact hr.cell 0
  have HC1 : Hid (∀ wx, Row wx I.gR #[.slice I.a I.L I.c, .int .i64 p] 64 → wx.cell? ⟨I.gR, 1, none⟩ = some (.int .i64 p)) := fun wx hr => hr.cell 1
  have hd : Row w.drew I.gR #[.slice I.a I.L I.c, .int .i64 p] 64 := Row.drew h.row
  have hd2 : Row w.drew.drew I.gR #[.slice I.a I.L I.c, .int .i64 p] 64 := Row.drew hd
  have h1 := h.small
  have h2 := h.le
  have h3 := h.cap
  have h4 := h.cm
  have ht : ¬ ((I.L : Int) - (p : Int) < (n : Int)) := by omega
  have hwp : IntKind.i64.wrap ((I.L : Int) - (p : Int)) = (I.L : Int) - (p : Int) := by rw [IntKind.wrap_i64]; omega
  have hwn : n ≤ 4611686018427387904 → IntKind.i64.wrap ((p : Int) + (n : Int)) = ((p + n : Nat) : Int) := fun _ => by rw [IntKind.wrap_i64]; omega
  replace hwn := hwn (by omega)
  have q1 : (0 : Int) ≤ (p : Int) + (n : Int) ∧ (p : Int) + (n : Int) ≤ (I.c : Int) := by omega
  have q2 : ((p : Int) + (n : Int)).toNat = p + n := by omega
  have q3 : p ≤ p + n := by omega
  obtain ⟨o, ho, hon⟩ : ∃ o, (if I.c = p then some (⟨I.b, I.off, none⟩ : Addr) else some ⟨I.b, I.off + p, none⟩) = some ⟨I.b, o, none⟩ ∧ (0 < n → o = I.off + p) := by
    by_cases hc : I.c = p
    · exact ⟨I.off, if_pos hc, fun h => by omega⟩
    · exact ⟨I.off + p, if_neg hc, fun _ => rfl⟩
  have HH : Hid (Rdr w I p) := h
  have HON : Hid (0 < n → o = I.off + p) := hon
  clear h hon
  go_enter Tryd.func77, Tryd.ntmps77
  go_wp2_with fail
  refine wp_region_permA [(false, 0), (false, 1), (false, 2), (false, 3), (false, 4), (false, 5), (false, 6), (false, 7), (false, 8), (false, 9), (false, 10), (false, 11)] (fun wx => Row wx I.gR #[.slice I.a I.L I.c, .int .i64 p] 64) (by kernel_rfl) (by kernel_rfl) hd ?_
  refine a_move (some 7) _ rfl rfl rfl (by rfl) ?_
  simp only [Act.put, List.setIfInBounds_toArray, List.set_cons_zero, List.set_cons_succ]
  refine a_move (some 8) _ rfl rfl rfl (by rfl) ?_
  simp only [Act.put, List.setIfInBounds_toArray, List.set_cons_zero, List.set_cons_succ]
  refine a_value (some 9) ?_ rfl rfl (by rfl) (fun w hw => ?_) ?_
  rotate_left
  · go_simp
    with_reducible rfl
  simp only [Act.put, List.setIfInBounds_toArray, List.set_cons_zero, List.set_cons_succ]
  refine a_value (some 10) ?_ rfl rfl (by rfl) (fun w hw => ?_) ?_
  rotate_left
  · go_simp
    with_reducible rfl
  simp only [Act.put, List.setIfInBounds_toArray, List.set_cons_zero, List.set_cons_succ]
  refine a_value (some 11) ?_ rfl rfl (by rfl) (fun w hw => ?_) ?_
  rotate_left
  · have c := HC0.out _ hw
    go_simp
    with_reducible rfl
  simp only [Act.put, List.setIfInBounds_toArray, List.set_cons_zero, List.set_cons_succ]
  refine a_value (some 12) ?_ rfl rfl (by rfl) (fun w hw => ?_) ?_
  rotate_left
  · go_simp
    with_reducible rfl
  simp only [Act.put, List.setIfInBounds_toArray, List.set_cons_zero, List.set_cons_succ]
  refine a_move (some 13) _ rfl rfl rfl (by rfl) ?_
  simp only [Act.put, List.setIfInBounds_toArray, List.set_cons_zero, List.set_cons_succ]
  refine a_value (some 14) ?_ rfl rfl (by rfl) (fun w hw => ?_) ?_
  rotate_left
  · go_simp
    with_reducible rfl
  simp only [Act.put, List.setIfInBounds_toArray, List.set_cons_zero, List.set_cons_succ]
  refine a_value (some 15) ?_ rfl rfl (by rfl) (fun w hw => ?_) ?_
  rotate_left
  · go_simp
    with_reducible rfl
  simp only [Act.put, List.setIfInBounds_toArray, List.set_cons_zero, List.set_cons_succ]
  refine a_value (some 16) ?_ rfl rfl (by rfl) (fun w hw => ?_) ?_
  rotate_left
  · have c := HC1.out _ hw
    go_simp
    with_reducible rfl
  simp only [Act.put, List.setIfInBounds_toArray, List.set_cons_zero, List.set_cons_succ]
  refine a_value (some 17) ?_ rfl rfl (by rfl) (fun w hw => ?_) ?_
  rotate_left
  · go_simp
    with_reducible rfl
  simp only [Act.put, List.setIfInBounds_toArray, List.set_cons_zero, List.set_cons_succ]
  refine a_value (some 18) ?_ rfl rfl (by rfl) (fun w hw => ?_) ?_
  rotate_left
  · go_simp
    with_reducible rfl
  simp only [Act.put, List.setIfInBounds_toArray, List.set_cons_zero, List.set_cons_succ]
  refine a_done ?_
  try simp only [Exit.then]
  go_wp2_with fail
  refine wp_region_permA [(false, 0), (false, 1), (false, 2), (false, 3), (false, 4), (false, 5), (false, 6), (false, 7), (false, 8), (false, 9), (false, 10), (false, 11), (false, 12), (false, 13), (false, 14), (false, 15)] (fun wx => Row wx I.gR #[.slice I.a I.L I.c, .int .i64 p] 64) (by kernel_rfl) (by kernel_rfl) hd2 ?_
  refine a_move (some 21) _ rfl rfl rfl (by rfl) ?_
  simp only [Act.put, List.setIfInBounds_toArray, List.set_cons_zero, List.set_cons_succ]
  refine a_value (some 22) ?_ rfl rfl (by rfl) (fun w hw => ?_) ?_
  rotate_left
  · go_simp
    with_reducible rfl
  simp only [Act.put, List.setIfInBounds_toArray, List.set_cons_zero, List.set_cons_succ]
  refine a_value (some 23) ?_ rfl rfl (by rfl) (fun w hw => ?_) ?_
  rotate_left
  · go_simp
    with_reducible rfl
  simp only [Act.put, List.setIfInBounds_toArray, List.set_cons_zero, List.set_cons_succ]
  refine a_value (some 24) ?_ rfl rfl (by rfl) (fun w hw => ?_) ?_
  rotate_left
  · have c := HC0.out _ hw
    go_simp
    with_reducible rfl
  simp only [Act.put, List.setIfInBounds_toArray, List.set_cons_zero, List.set_cons_succ]
  refine a_move (some 25) _ rfl rfl rfl (by rfl) ?_
  simp only [Act.put, List.setIfInBounds_toArray, List.set_cons_zero, List.set_cons_succ]
  refine a_value (some 26) ?_ rfl rfl (by rfl) (fun w hw => ?_) ?_
  rotate_left
  · go_simp
    with_reducible rfl
  simp only [Act.put, List.setIfInBounds_toArray, List.set_cons_zero, List.set_cons_succ]
  refine a_value (some 27) ?_ rfl rfl (by rfl) (fun w hw => ?_) ?_
  rotate_left
  · go_simp
    with_reducible rfl
  simp only [Act.put, List.setIfInBounds_toArray, List.set_cons_zero, List.set_cons_succ]
  refine a_value (some 28) ?_ rfl rfl (by rfl) (fun w hw => ?_) ?_
  rotate_left
  · have c := HC1.out _ hw
    go_simp
    with_reducible rfl
  simp only [Act.put, List.setIfInBounds_toArray, List.set_cons_zero, List.set_cons_succ]
  refine a_move (some 29) _ rfl rfl rfl (by rfl) ?_
  simp only [Act.put, List.setIfInBounds_toArray, List.set_cons_zero, List.set_cons_succ]
  refine a_value (some 30) ?_ rfl rfl (by rfl) (fun w hw => ?_) ?_
  rotate_left
  · go_simp
    with_reducible rfl
  simp only [Act.put, List.setIfInBounds_toArray, List.set_cons_zero, List.set_cons_succ]
  refine a_value (some 31) ?_ rfl rfl (by rfl) (fun w hw => ?_) ?_
  rotate_left
  · go_simp
    with_reducible rfl
  simp only [Act.put, List.setIfInBounds_toArray, List.set_cons_zero, List.set_cons_succ]
  refine a_value (some 32) ?_ rfl rfl (by rfl) (fun w hw => ?_) ?_
  rotate_left
  · have c := HC1.out _ hw
    go_simp
    with_reducible rfl
  simp only [Act.put, List.setIfInBounds_toArray, List.set_cons_zero, List.set_cons_succ]
  refine a_move (some 33) _ rfl rfl rfl (by rfl) ?_
  simp only [Act.put, List.setIfInBounds_toArray, List.set_cons_zero, List.set_cons_succ]
  refine a_value (some 34) ?_ rfl rfl (by rfl) (fun w hw => ?_) ?_
  rotate_left
  · go_simp
    with_reducible rfl
  simp only [Act.put, List.setIfInBounds_toArray, List.set_cons_zero, List.set_cons_succ]
  refine a_value (some 35) ?_ rfl rfl (by rfl) (fun w hw => ?_) ?_
  rotate_left
  · go_simp
    with_reducible rfl
  simp only [Act.put, List.setIfInBounds_toArray, List.set_cons_zero, List.set_cons_succ]
  refine a_value (some 6) ?_ rfl rfl (by rfl) (fun w hw => ?_) ?_
  rotate_left
  · go_simp
    with_reducible rfl
  simp only [Act.put, List.setIfInBounds_toArray, List.set_cons_zero, List.set_cons_succ]
  refine a_done ?_
  try simp only [Exit.then]
  have k1 := hd2.cell 1
  have z1 := hd2.frozen 1
  have HK : Hid (∀ v, v = Value.int .i64 ((p + n : Nat) : Int) → Rdr (w.drew.drew.setCell ⟨I.gR, 1, none⟩ v) I (p + n) ∧ Gr I w (w.drew.drew.setCell ⟨I.gR, 1, none⟩ v)) := fun v hv => by
    have g : Gr I w (w.drew.drew.setCell ⟨I.gR, 1, none⟩ v) := ⟨rfl, rfl, rfl, by simp, fun k _ hk => heap_setCell_other w.drew.drew ⟨I.gR, 1, none⟩ k v (fun e => hk (congrArg some e))⟩
    refine ⟨HH.out.go g ?_ hn, g⟩
    have := hd2.setCell (i := 1) v
    rw [hv] at this ⊢
    exact this
  clear hd hd2 HH
  go_wp2
  go_ret2
  exact ⟨o, rfl, HON.out, (HK.out _ (by simp)).1, (HK.out _ (by simp)).2⟩
end Go.Proofs.YtimiginpdkokiaaDoor
