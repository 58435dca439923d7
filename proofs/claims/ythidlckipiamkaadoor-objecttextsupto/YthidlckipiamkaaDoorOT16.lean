/- My own work: the walk of ObjectTexts. -/
import Derived.Test.YthidlckipiamkaaDoorOT15
import Derived.BigFrame
namespace Go.Proofs.YthidlckipiamkaaDoor
open Go.RowKit
open S2 (bl bl_len bl_inj splitB Tab NTab)

set_option maxRecDepth 20000 in
set_option maxHeartbeats 4000000 in
theorem texts_same (a1 a2 : Option Addr) (l : List ByteArray) (c1 c2 : Nat) (w : World) (h1 : StrsAt w a1 l c1) (h2 : StrsAt w a2 l c2) : Calls Tryd.prog 20 #[.slice a1 l.length c1, .slice a2 l.length c2] w fun e w' => e = .returned (.bool true) ∧ Below w.heap.size w w' := by
  obtain ⟨b1, o1, ha1, hc1⟩ := h1.ex
  obtain ⟨b2, o2, ha2, hc2⟩ := h2.ex
  have hl1 := h1.le
  have hl2 := h2.le
  have hm := h1.len
  unfold big at hm
  have HA1 : Hid _ := ha1
  have HA2 : Hid _ := ha2
  have HC1 : Hid (∀ wx, Below w.heap.size w wx → ∀ i (h : i < l.length), wx.cell? ⟨b1, o1 + i, none⟩ = some (.string l[i])) := fun wx hx i h => (World.cell?_of_block (w := w) (hx.block b1 (World.block_lt_of_cell? _ _ (hc1 i h)))).trans (hc1 i h)
  have HC2 : Hid (∀ wx, Below w.heap.size w wx → ∀ i (h : i < l.length), wx.cell? ⟨b2, o2 + i, none⟩ = some (.string l[i])) := fun wx hx i h => (World.cell?_of_block (w := w) (hx.block b2 (World.block_lt_of_cell? _ _ (hc2 i h)))).trans (hc2 i h)
  obtain ⟨L1, hL1⟩ : ∃ L, L = l.length := ⟨_, rfl⟩
  rw [← hL1]
  rw [← hL1] at hl1 hl2 hm
  have HL1 : Hid _ := hL1
  clear ha1 ha2 hc1 hc2 hL1 h1 h2
  go_enter Tryd.func20, Tryd.ntmps20
  go_wp2
  go_loopw [5] (fun i wr => ∃ n : Nat, i = .int .i64 n ∧ n ≤ L1 ∧ Below w.heap.size w wr) (fun i _ => L1 - (intOf i).toNat)
  case atStart => exact ⟨0, rfl, Nat.zero_le _, Below.refl _ _⟩
  case round =>
    obtain ⟨n, rfl, hn, hB⟩ := hrel
    have HB : Hid _ := hB
    clear hB
    by_cases hlt : n < L1
    · have g1 : n < l.length := by have := HL1.out; omega
      obtain rfl := HA1.out (by omega)
      obtain rfl := HA2.out (by omega)
      obtain ⟨x, hx⟩ : ∃ x, x = l[n] := ⟨_, rfl⟩
      have k1 := HC1.out wr.drew (HB.out.trans ((Below.refl _ _).drew.mono HB.out.size)) n g1
      have k2 := HC2.out wr.drew (HB.out.trans ((Below.refl _ _).drew.mono HB.out.size)) n g1
      rw [← hx] at k1 k2
      have k1' : wr.cell? ⟨b1, o1 + n, none⟩ = some (.string x) := k1
      have k2' : wr.cell? ⟨b2, o2 + n, none⟩ = some (.string x) := k2
      have hlt' : (n : Int) < (L1 : Int) := by omega
      clear hx
      go_wp2_with fail
      go_quiet (fail)
      obtain ⟨w4, hw4⟩ : ∃ u, u = wr.drewN nq := ⟨_, rfl⟩
      rw [← hw4]
      have HB4 : Hid (Below w.heap.size w w4) := by
        rw [hw4]
        exact below_drewN HB.out nq
      clear hw4 k1 k2 k1' k2'
      go_wp2
      go_roundw
      case rel => exact ⟨n + 1, by go_num, by omega, HB4.out⟩
      case measure => simp [intOf]; omega
    · have hlt' : ¬ (n : Int) < (L1 : Int) := by omega
      go_wp2
      go_ret
      exact ⟨rfl, HB.out⟩
set_option maxHeartbeats 4000000 in
theorem infos_same (j : Inf) (a1 a2 : Option Addr) (c1 c2 : Nat) (w : World) (h1 : StrsAt w a1 j.refs c1) (h2 : StrsAt w a2 j.refs c2) : Calls Tryd.prog 8 #[.agg (infV j a1 c1), .agg (infV j a2 c2)] w fun e w' => e = .returned (.bool true) ∧ Below w.heap.size w w' := by
  have hb : Below w.heap.size w ((w.alloc (.cells (infV j a1 c1) 24)).alloc (.cells (infV j a2 c2) 24)) := ((Below.refl _ _).alloc (Nat.le_refl _) _).alloc (by simp) _
  have H := texts_same a1 a2 j.refs c1 c2 _ (h1.keep hb) (h2.keep hb)
  have HB : Hid _ := hb
  clear h1 h2 hb
  go_enter Tryd.func8, Tryd.ntmps8
  go_wp2_with fail
  refine H.mono ?_
  rintro e w1 ⟨rfl, hb1⟩
  clear H
  go_wp2
  go_ret
  exact ⟨rfl, HB.out.trans (hb1.mono HB.out.size)⟩
/-- What both Reads tell is the same info. -/
theorem infos_nil (w : World) : Calls Tryd.prog 8 #[.agg info0, .agg info0] w fun e w' => e = .returned (.bool true) ∧ Below w.heap.size w w' :=
  infos_same ⟨⟨#[]⟩, ⟨#[]⟩, ⟨#[]⟩, []⟩ none none 0 0 w ⟨⟨0, 0, fun h => absurd h (by decide), fun i h => absurd h (by simp)⟩, fun _ => ⟨rfl, rfl⟩, Nat.le_refl _, by unfold maxLen; omega, Nat.zero_le _, fun r hr => by cases hr⟩ ⟨⟨0, 0, fun h => absurd h (by decide), fun i h => absurd h (by simp)⟩, fun _ => ⟨rfl, rfl⟩, Nat.le_refl _, by unfold maxLen; omega, Nat.zero_le _, fun r hr => by cases hr⟩
theorem onames_ok (w : World) : Calls Tryd.prog 9 #[] w fun e w' => e = .returned (.bool true) ∧ w' = w := by
  go_enter Tryd.func9, Tryd.ntmps9
  go_wp2
  go_ret
  exact ⟨rfl, rfl⟩
section
variable {w : World} {ops : Array Oper} {rest : List Oper} {o : Oper} {a : Act} {Q : Exit → Act → World → Prop}
theorem loadGI (C : Array Value) (g : Nat) (hr : Row w g C 24) (hC : C.size = 4) (hw : Region.wanted o (yielded ops a.tmps) = true) (x : Operand) (ho : o.op = .load 24 x) (hx : a.eval x = .pointer (some ⟨g, 0, none⟩))
    (k : wpList Tryd.prog ops Q rest (a.put o.dst (.agg C)) w) : wpList Tryd.prog ops Q (o :: rest) a w :=
  BigFrame.wpList_want hw fun K hK => by
    unfold Oper.wp execOp
    simp only [ho, hx, Instr.loadAt, Instr.sureAddr, Sem.run_bind, Sem.run_pure, Result.andThen_ok, run_loadVar_row w g 24 24 C (0, 0) _ hr Tryd.underlying24 rfl (by rw [infoI, hC]), Oper.upon]
    exact hK _ _ k
end
theorem read_shape {D : ByteArray → Int} {j : Inf} {s : ByteArray} {w w1 : World} {e : Ending} (h : ReadPost D j s w e w1) : ∃ (C : Array Value) (m : Int), e = .returned (.tuple #[.agg C, .int .i64 m]) ∧ C.size = 4 ∧ C.all (·.oneCell') = true := by
  obtain ⟨⟨_, a, c, rfl, _⟩ | ⟨_, rfl⟩, _⟩ := h
  · exact ⟨_, _, rfl, rfl, infV_one _ _ _⟩
  · exact ⟨_, _, rfl, rfl, info0_one⟩
/-- What both Reads tell: infos that are the same, and the same number. -/
theorem reads_meet {D : ByteArray → Int} {j : Inf} {s : ByteArray} {w w1 w2 w3 : World} {e e' : Ending} (h1 : ReadPost D j s w e w1) (h12 : Below w1.heap.size w1 w2) (h2 : ReadPost D j s w2 e' w3) :
    ∃ (C C' : Array Value) (m : Int), e = .returned (.tuple #[.agg C, .int .i64 m]) ∧ e' = .returned (.tuple #[.agg C', .int .i64 m]) ∧ C.size = 4 ∧ C'.size = 4 ∧ C.all (·.oneCell') = true ∧ C'.all (·.oneCell') = true ∧ Below w.heap.size w w1 ∧ Below w2.heap.size w2 w3 ∧
      ∀ wx, Below w3.heap.size w3 wx → Calls Tryd.prog 8 #[.agg C, .agg C'] wx fun e w' => e = .returned (.bool true) ∧ Below wx.heap.size wx w' := by
  obtain ⟨⟨hg, a, c, rfl, hi⟩ | ⟨hg, rfl⟩, hb1⟩ := h1
  · obtain ⟨⟨_, a', c', rfl, hi'⟩ | ⟨hg', _⟩, hb3⟩ := h2
    · exact ⟨_, _, 0, rfl, rfl, rfl, rfl, infV_one _ _ _, infV_one _ _ _, hb1, hb3, fun wx hx => infos_same j a a' c c' wx ((hi.refs.keep h12).keep (hb3.trans (hx.mono hb3.size)) |> fun h => h) (hi'.refs.keep hx)⟩
    · rw [hg] at hg'; cases hg'
  · obtain ⟨⟨hg', _⟩ | ⟨_, rfl⟩, hb3⟩ := h2
    · rw [hg] at hg'; cases hg'
    · exact ⟨_, _, 10, rfl, rfl, rfl, rfl, info0_one, info0_one, hb1, hb3, fun wx _ => infos_nil wx⟩
set_option maxRecDepth 20000 in
set_option maxHeartbeats 8000000 in
/-- ObjectTexts: whatever the info, the path and the text. -/
theorem law_texts (i : Inf) (a : Option Addr) (c : Nat) (p s : ByteArray) (w : World) (h : InfAt w i a c) (hp : p.size ≤ big) (hs : s.size ≤ 1048576) (hT : Tab w) (hN : NTab w) : Calls Tryd.prog 3 #[.agg (infV i a c), .string p, .string s] w fun e w' => e = .returned (.bool true) ∧ Below w.heap.size w w' := by
  obtain ⟨D, hD⟩ := dp_ex w hT
  obtain ⟨w1, hw1⟩ : ∃ x, x = w.alloc (.cells (infV i a c) 24) := ⟨_, rfl⟩
  have hb1 : Below w.heap.size w w1 := by rw [hw1]; exact (Below.refl _ _).alloc (Nat.le_refl _) _
  have hr1 : Row w1 w.heap.size (infV i a c) 24 := by rw [hw1]; exact Row.new w _ _
  have hw1' := hw1.symm
  have HT : Hid (∀ wx, Below w.heap.size w wx → Tab wx ∧ NTab wx) := fun wx hx => ⟨hT.below hx hT.pos, NTab.keep hN hx⟩
  have H1 := text_ok w D hD i a c w1 hb1 (h.keep hb1) (HT.out w1 hb1).1 (HT.out w1 hb1).2
  have HD : Hid (DP w D) := hD
  have HI : Hid (InfAt w i a c) := h
  obtain ⟨V, hV⟩ : ∃ V : Value, V = if may D i then .tuple #[.string ⟨(txt i).toArray⟩, .int .i64 0] else .tuple #[.string ⟨#[]⟩, .int .i64 10] := ⟨_, rfl⟩
  have HVs : Hid (∃ (t : ByteArray) (n : Int), V = .tuple #[.string t, .int .i64 n]) := by
    show ∃ (t : ByteArray) (n : Int), V = .tuple #[.string t, .int .i64 n]
    rw [hV]
    split
    · exact ⟨_, _, rfl⟩
    · exact ⟨_, _, rfl⟩
  unfold TextPost at H1
  rw [← hV] at H1
  obtain ⟨t, n, hVe⟩ := HVs.out
  rw [hVe] at H1 hV
  have HV : Hid _ := hV
  have HB1 : Hid _ := hb1
  have HR1 : Hid _ := hr1
  clear hw1 hb1 hr1 hT hN hD h hV hVe HVs
  go_enter Tryd.func3, Tryd.ntmps3
  go_wp2_with (refine wpList_load_row rfl 24 _ rfl w.heap.size rfl 24 (infV i a c) (0, 0) _ HR1.out Tryd.underlying24 rfl (infV_size i a c) ?_)
  refine H1.mono ?_
  rintro e w2 ⟨rfl, hb2⟩
  have hB2 : Below w.heap.size w w2 := HB1.out.trans (hb2.mono HB1.out.size)
  have hr2 : Row w2 w.heap.size (infV i a c) 24 := Row.below HR1.out hb2 (Row.lt HR1.out)
  have H2 := rtext_ok w D HD.out i a c w2 hB2 (HI.out.keep hB2)
  unfold TextPost at H2
  rw [← HV.out] at H2
  have HB2 : Hid _ := hB2
  have HR2 : Hid _ := hr2
  clear H1 HR1 HB1 hb2 hB2 hr2
  go_wp2_with (refine wpList_load_row rfl 24 _ rfl w.heap.size rfl 24 (infV i a c) (0, 0) _ HR2.out Tryd.underlying24 rfl (infV_size i a c) ?_)
  refine H2.mono ?_
  rintro e w3 ⟨rfl, hb3⟩
  have hB3 : Below w.heap.size w w3 := HB2.out.trans (hb3.mono HB2.out.size)
  have H3 := read_ok w D HD.out p s w3 hB3 hp hs (HT.out w3 hB3).1 (HT.out w3 hB3).2
  have HB3 : Hid _ := hB3
  clear H2 HR2 HB2 hb3 hB3 HV
  go_wp2_with fail
  refine H3.mono ?_
  rintro e w4 hP3
  obtain ⟨C, m, rfl, hC, hC1⟩ := read_shape hP3
  have hb45 : Below w4.heap.size w4 (w4.alloc (.cells C 24)) := (Below.refl _ _).alloc (Nat.le_refl _) _
  have hB4 : Below w.heap.size w w4 := HB3.out.trans (hP3.2.mono HB3.out.size)
  have hB5 : Below w.heap.size w (w4.alloc (.cells C 24)) := hB4.trans (hb45.mono hB4.size)
  have HR5 : Hid (Row (w4.alloc (.cells C 24)) w4.heap.size C 24) := Row.new w4 _ _
  have H4 := rread_ok w D HD.out p s (w4.alloc (.cells C 24)) hB5 hp hs
  have HP3 : Hid _ := hP3
  have HB5 : Hid (Below w.heap.size w (w4.alloc (.cells C 24)) ∧ Below w4.heap.size w4 (w4.alloc (.cells C 24))) := ⟨hB5, hb45⟩
  have hsz : (Tryd.prog.info? 24).map (·.size) = some C.size := by rw [infoI, hC]
  have hsz0 : info0.size = C.size := by rw [hC]; rfl
  clear H3 HB3 hP3 hB4 hB5 hb45
  go_wp2_with (refine wpList_store_new rfl 24 _ _ rfl w4 info0 C 24 rfl w4.heap.size rfl rfl rfl hsz hsz0 hC1 ?_)
  refine H4.mono ?_
  rintro e w6 hP4
  obtain ⟨C1, C', m1, e1, rfl, _, hC', _, hC1', _, hb6, HIn⟩ := reads_meet HP3.out HB5.out.2 hP4
  simp only [Ending.returned.injEq, Value.tuple.injEq, Array.mk.injEq, List.cons.injEq, Value.agg.injEq, Value.int.injEq, and_true, true_and] at e1
  obtain ⟨rfl, rfl⟩ := e1
  have hb67 : Below w6.heap.size w6 (w6.alloc (.cells C' 24)) := (Below.refl _ _).alloc (Nat.le_refl _) _
  have HR7 : Hid (Row (w6.alloc (.cells C' 24)) w6.heap.size C' 24) := Row.new w6 _ _
  have HR57 : Hid (Row (w6.alloc (.cells C' 24)) w4.heap.size C 24) := Row.alloc (Row.below HR5.out hb6 (Row.lt HR5.out)) _
  have H5 := HIn _ hb67
  have hB6 : Below w.heap.size w w6 := HB5.out.1.trans (hb6.mono HB5.out.1.size)
  have HB7 : Hid (Below w.heap.size w (w6.alloc (.cells C' 24))) := hB6.trans (hb67.mono hB6.size)
  have hsz' : (Tryd.prog.info? 24).map (·.size) = some C'.size := by rw [infoI, hC']
  have hsz0' : info0.size = C'.size := by rw [hC']; rfl
  have hn := onames_ok
  clear H4 HP3 HB5 hP4 hb67 hB6 HIn HR5 hb6
  go_wp2_with (first
    | refine wpList_store_new rfl 24 _ _ rfl w6 info0 C' 24 rfl w6.heap.size rfl rfl rfl hsz' hsz0' hC1' ?_
    | refine loadGI C w4.heap.size HR57.out hC rfl _ rfl rfl ?_
    | refine loadGI C' w6.heap.size HR7.out hC' rfl _ rfl rfl ?_)
  refine H5.mono ?_
  rintro e w8 ⟨rfl, hb8⟩
  have HB8 : Hid (Below w.heap.size w w8) := HB7.out.trans (hb8.mono HB7.out.size)
  have hn8 := hn w8
  clear H5 hb8 hn
  go_wp2_with fail
  refine hn8.mono ?_
  rintro e w9 ⟨rfl, rfl⟩
  clear hn8
  go_wp2
  go_ret
  exact ⟨rfl, HB8.out⟩
end Go.Proofs.YthidlckipiamkaaDoor
