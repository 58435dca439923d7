/- My own work: which infos may be. -/
import Derived.Test.YthidlckipiamkaaDoorOT1
import Derived.Test.YthidlckipiamkaaDoorPPair
import Derived.BigFrame
namespace Go.Proofs.YthidlckipiamkaaDoor
open Go.RowKit
open S2 (bl bl_len bl_inj splitB splitV Tab NTab arr)

/-- An info. -/
structure Inf where
  path : ByteArray
  hash : ByteArray
  der : ByteArray
  refs : List ByteArray
/-- An info's four cells. -/
abbrev infV (i : Inf) (a : Option Addr) (c : Nat) : Array Value := #[.string i.path, .string i.hash, .string i.der, .slice a i.refs.length c]
/-- An info that lies there. -/
structure InfAt (w : World) (i : Inf) (a : Option Addr) (c : Nat) : Prop where
  refs : StrsAt w a i.refs c
  path : i.path.size ≤ big
  hash : i.hash.size ≤ big
  der : i.der.size ≤ big
theorem InfAt.keep {w w' : World} {i : Inf} {a : Option Addr} {c : Nat} (h : InfAt w i a c) (hb : Below w.heap.size w w') : InfAt w' i a c := ⟨h.refs.keep hb, h.path, h.hash, h.der⟩
theorem infoI : (Tryd.prog.info? 24).map (·.size) = some 4 := by kernel_rfl
theorem infV_size (i : Inf) (a : Option Addr) (c : Nat) : (Tryd.prog.info? 24).map (·.size) = some (infV i a c).size := infoI
/-- What both Parses tell of texts, whatever lies above a world. -/
structure DP (w0 : World) (D : ByteArray → Int) : Prop where
  prog : ∀ s, s.size ≤ big → ∀ wr, Below w0.heap.size w0 wr → ∃ g, Calls Tryd.prog 21 #[.string s] wr fun e w' => e = .returned (.tuple #[.agg (arr g 32), .int .i64 (D s)]) ∧ Below wr.heap.size wr w'
  ref : ∀ s, s.size ≤ big → ∀ wr, Below w0.heap.size w0 wr → ∃ g, Calls Tryd.prog 24 #[.string s] wr fun e w' => e = .returned (.tuple #[.agg (arr g 32), .int .i64 (D s)]) ∧ Below wr.heap.size wr w'
  ok : ∀ s, s.size ≤ big → D s = 0 → S2.signsB (bl s) = true ∧ s.size = 52
theorem dp_ex (w0 : World) (hT : Tab w0) : ∃ D, DP w0 D := by
  have key : ∀ s : ByteArray, ∃ c : Int, s.size ≤ big → ∃ g : Nat → Int,
      (∀ wr, Below w0.heap.size w0 wr → Calls Tryd.prog 21 #[.string s] wr fun e w' => e = .returned (.tuple #[.agg (arr g 32), .int .i64 c]) ∧ Below wr.heap.size wr w') ∧
      (∀ wr, Below w0.heap.size w0 wr → Calls Tryd.prog 24 #[.string s] wr fun e w' => e = .returned (.tuple #[.agg (arr g 32), .int .i64 c]) ∧ Below wr.heap.size wr w') ∧ (c = 0 → S2.signsB (bl s) = true ∧ s.size = 52) := fun s => by
    by_cases hs : s.size ≤ big
    · obtain ⟨g, c, h⟩ := S2.parse_pair2 s w0 hT hs
      exact ⟨c, fun _ => ⟨g, h⟩⟩
    · exact ⟨0, fun h => absurd h hs⟩
  refine ⟨fun s => (key s).choose, ⟨fun s hs wr hb => ?_, fun s hs wr hb => ?_, fun s hs h0 => ?_⟩⟩
  · obtain ⟨g, h1, _, _⟩ := (key s).choose_spec hs
    exact ⟨g, h1 wr hb⟩
  · obtain ⟨g, _, h1, _⟩ := (key s).choose_spec hs
    exact ⟨g, h1 wr hb⟩
  · obtain ⟨g, _, _, h1⟩ := (key s).choose_spec hs
    exact h1 h0
/-- Has an info paths where there must be some? -/
def hasP (i : Inf) : Bool := isP i.path && ((i.der.toList == []) || isP i.der) && i.refs.all isP
/-- May an info be? -/
def may (D : ByteArray → Int) (i : Inf) : Bool := decide (D i.hash = 0) && risR i.refs && hasP i
section
variable {w : World} {ops : Array Oper} {rest : List Oper} {o : Oper} {a : Act} {Q : Exit → Act → World → Prop}
theorem wpList_runG (hw : Region.wanted o (yielded ops a.tmps) = true) (op : Op) (_ho : o.op = op) (v : Value) (w' : World) (h : (execOp a.eval o).run Tryd.prog w = .ok (.value v) w') (k : wpList Tryd.prog ops Q rest (a.put o.dst v) w') : wpList Tryd.prog ops Q (o :: rest) a w :=
  BigFrame.wpList_want hw fun K hK => by
    unfold Oper.wp
    rw [h]
    simp only [Oper.upon]
    exact hK _ _ k
theorem loadG (t : TypeId) (C : Array Value) (g : Nat) (hl : (Instr.loadAt t (.pointer (some ⟨g, 0, none⟩))).run Tryd.prog w = .ok (.agg C) w) (hw : Region.wanted o (yielded ops a.tmps) = true) (x : Operand) (ho : o.op = .load t x) (hx : a.eval x = .pointer (some ⟨g, 0, none⟩))
    (k : wpList Tryd.prog ops Q rest (a.put o.dst (.agg C)) w) : wpList Tryd.prog ops Q (o :: rest) a w :=
  wpList_runG hw _ rfl (.agg C) w (by
    unfold execOp
    simp only [ho, hx, hl, Sem.run_bind, Sem.run_pure, Result.andThen_ok]) k
theorem loadI0 {g : Nat} {C : Array Value} (hr : Row w g C 24) (hC : C.size = 4) : (Instr.loadAt 24 (.pointer (some ⟨g, 0, none⟩))).run Tryd.prog w = .ok (.agg C) w := by
  simp only [Instr.loadAt, Instr.sureAddr, Sem.run_bind, Sem.run_pure, Result.andThen_ok, run_loadVar_row w g 24 24 C (0, 0) _ hr Tryd.underlying24 rfl (by rw [infoI, hC])]
end
theorem beq_nil (s : ByteArray) : (s.toList == []) = decide (s.size = 0) := by
  rw [ByteArray.toList_eq]
  by_cases h : s.size = 0
  · have : s.data.toList = [] := List.eq_nil_of_length_eq_zero (by rw [Array.length_toList]; exact h)
    rw [this, decide_eq_true h]
    rfl
  · rw [decide_eq_false h]
    have : s.data.toList ≠ [] := fun e => h (by
      have := congrArg List.length e
      rw [Array.length_toList] at this
      exact this)
    simpa using this
set_option maxRecDepth 20000 in
set_option maxHeartbeats 4000000 in
theorem hasPaths_ok (i : Inf) (a : Option Addr) (c : Nat) (w : World) (h : InfAt w i a c) (hT : Tab w) (hN : NTab w) : Calls Tryd.prog 23 #[.agg (infV i a c)] w fun r w' => r = .returned (.bool (hasP i)) ∧ Below w.heap.size w w' := by
  obtain ⟨p, hs, d, rs⟩ := i
  have hb0 : Below w.heap.size w (w.alloc (.cells (infV ⟨p, hs, d, rs⟩ a c) 24)) := (Below.refl _ _).alloc (Nat.le_refl _) _
  have hR : Row (w.alloc (.cells (infV ⟨p, hs, d, rs⟩ a c) 24)) w.heap.size (infV ⟨p, hs, d, rs⟩ a c) 24 := Row.new w _ _
  have HX : Hid (∀ wx, Below w.heap.size w wx → Tab wx ∧ NTab wx ∧ StrsAt wx a rs c) := fun wx hb => ⟨hT.below hb hT.pos, S2.NTab.keep hN hb, h.refs.keep hb⟩
  have HL : Hid (p.size ≤ 140737488355328 ∧ d.size ≤ 140737488355328) := ⟨by have := h.path; simp only [big] at this; omega, by have := h.der; simp only [big] at this; omega⟩
  generalize hwB : w.alloc (.cells (infV ⟨p, hs, d, rs⟩ a c) 24) = wB at *
  have c0 := (hR.cell 0).trans (rfl : _ = some (Value.string p))
  have HC : Hid (∀ wx, Below wB.heap.size wB wx → wx.cell? ⟨w.heap.size, 2, none⟩ = some (.string d) ∧ wx.cell? ⟨w.heap.size, 3, none⟩ = some (.slice a rs.length c)) := fun wx hb => ⟨((Row.below hR hb (Row.lt hR)).cell 2).trans rfl, ((Row.below hR hb (Row.lt hR)).cell 3).trans rfl⟩
  have HB : Hid _ := hb0
  have hp := isPath_ok p wB HL.out.1 (HX.out wB hb0).1 (HX.out wB hb0).2.1
  have HV : Hid (hasP ⟨p, hs, d, rs⟩ = (isP p && ((d.toList == []) || isP d) && rs.all isP)) := rfl
  clear h hT hN hb0 hR
  obtain ⟨bp, hbp⟩ : ∃ b, b = isP p := ⟨_, rfl⟩
  rw [← hbp] at hp HV
  clear hbp
  cases bp with
  | false =>
    go_enter Tryd.func23, Tryd.ntmps23
    go_wp2_with fail
    refine hp.mono ?_
    rintro e w1 ⟨rfl, hb1⟩
    have HB1 : Hid (Below w.heap.size w w1) := HB.out.trans (hb1.mono HB.out.size)
    clear hp hb1
    go_wp2
    go_ret
    exact ⟨by rw [HV.out]; rfl, HB1.out⟩
  | true =>
    have HCF : Hid (∀ wx, Below w.heap.size w wx → Calls Tryd.prog 34 #[.slice a rs.length c, .func (.func 35) #[] #[]] wx fun r w' => r = .returned (.bool (!rs.all isP)) ∧ Below wx.heap.size wx w') := fun wx hb => containsFunc_ok a rs c wx (HX.out wx hb).2.2 (HX.out wx hb).1 (HX.out wx hb).2.1
    obtain ⟨br, hbr⟩ : ∃ b, b = rs.all isP := ⟨_, rfl⟩
    rw [← hbr] at HCF HV
    clear hbr
    cases hd : (d.toList == []) with
    | true =>
      rw [hd] at HV
      go_enter Tryd.func23, Tryd.ntmps23
      go_wp2_with fail
      refine hp.mono ?_
      rintro e w1 ⟨rfl, hb1⟩
      have HB1 : Hid (Below w.heap.size w w1) := HB.out.trans (hb1.mono HB.out.size)
      obtain ⟨c2, c3⟩ := HC.out w1 hb1
      have hcf := HCF.out w1 HB1.out
      clear hp hb1
      go_wp2_with fail
      refine hcf.mono ?_
      rintro e w2 ⟨rfl, hb2⟩
      have HB2 : Hid (Below w.heap.size w w2) := HB1.out.trans (hb2.mono HB1.out.size)
      clear hcf hb2
      go_wp2
      go_ret
      exact ⟨by rw [HV.out]; simp, HB2.out⟩
    | false =>
      rw [hd] at HV
      have HPD : Hid (∀ wx, Below w.heap.size w wx → Calls Tryd.prog 33 #[.string d] wx fun e w' => e = .returned (.bool (isP d)) ∧ Below wx.heap.size wx w') := fun wx hb => isPath_ok d wx HL.out.2 (HX.out wx hb).1 (HX.out wx hb).2.1
      obtain ⟨bd, hbd⟩ : ∃ b, b = isP d := ⟨_, rfl⟩
      rw [← hbd] at HPD HV
      clear hbd
      cases bd with
      | false =>
        go_enter Tryd.func23, Tryd.ntmps23
        go_wp2_with fail
        refine hp.mono ?_
        rintro e w1 ⟨rfl, hb1⟩
        have HB1 : Hid (Below w.heap.size w w1) := HB.out.trans (hb1.mono HB.out.size)
        obtain ⟨c2, c3⟩ := HC.out w1 hb1
        have hpd := HPD.out w1 HB1.out
        clear hp hb1
        go_wp2_with fail
        refine hpd.mono ?_
        rintro e w2 ⟨rfl, hb2⟩
        have HB2 : Hid (Below w.heap.size w w2) := HB1.out.trans (hb2.mono HB1.out.size)
        clear hpd hb2
        go_wp2
        go_ret
        exact ⟨by rw [HV.out]; rfl, HB2.out⟩
      | true =>
        go_enter Tryd.func23, Tryd.ntmps23
        go_wp2_with fail
        refine hp.mono ?_
        rintro e w1 ⟨rfl, hb1⟩
        have HB1 : Hid (Below w.heap.size w w1) := HB.out.trans (hb1.mono HB.out.size)
        obtain ⟨c2, c3⟩ := HC.out w1 hb1
        have HBB : Hid _ := hb1
        have hpd := HPD.out w1 HB1.out
        clear hp hb1
        go_wp2_with fail
        refine hpd.mono ?_
        rintro e w2 ⟨rfl, hb2⟩
        have HB2 : Hid (Below w.heap.size w w2) := HB1.out.trans (hb2.mono HB1.out.size)
        obtain ⟨e2, e3⟩ := HC.out w2 (HBB.out.trans (hb2.mono HBB.out.size))
        have hcf := HCF.out w2 HB2.out
        clear hpd hb2 c2 c3
        go_wp2_with fail
        refine hcf.mono ?_
        rintro e w3 ⟨rfl, hb3⟩
        have HB3 : Hid (Below w.heap.size w w3) := HB2.out.trans (hb3.mono HB2.out.size)
        clear hcf hb3
        go_wp2
        go_ret
        exact ⟨by rw [HV.out]; simp, HB3.out⟩
set_option maxRecDepth 20000 in
set_option maxHeartbeats 4000000 in
theorem mayBe_ok (w0 : World) (D : ByteArray → Int) (hD : DP w0 D) (i : Inf) (a : Option Addr) (c : Nat) (w : World) (hw : Below w0.heap.size w0 w) (h : InfAt w i a c) (hT : Tab w) (hN : NTab w) : Calls Tryd.prog 10 #[.agg (infV i a c)] w fun r w' => r = .returned (.bool (may D i)) ∧ Below w.heap.size w w' := by
  have hb0 : Below w.heap.size w (w.alloc (.cells (infV i a c) 24)) := (Below.refl _ _).alloc (Nat.le_refl _) _
  have hR : Row (w.alloc (.cells (infV i a c) 24)) w.heap.size (infV i a c) 24 := Row.new w _ _
  have HX : Hid (∀ wx, Below w.heap.size w wx → Tab wx ∧ NTab wx ∧ InfAt wx i a c) := fun wx hb => ⟨hT.below hb hT.pos, S2.NTab.keep hN hb, h.keep hb⟩
  generalize hwB : w.alloc (.cells (infV i a c) 24) = wB at *
  obtain ⟨g, hpa⟩ := hD.prog i.hash h.hash wB (hw.trans (hb0.mono hw.size))
  have c1 := (hR.cell 1).trans (rfl : _ = some (Value.string i.hash))
  have HRX : Hid (∀ wx, Below wB.heap.size wB wx → Row wx w.heap.size (infV i a c) 24) := fun wx hb => Row.below hR hb (Row.lt hR)
  have HB : Hid _ := hb0
  obtain ⟨G, hG⟩ : ∃ G, G = arr g 32 := ⟨_, rfl⟩
  have hGs : G.size = 32 := by rw [hG, S2.arr_size]
  have hG1 : G.all (·.oneCell') = true := by rw [hG]; exact S2.arr_one _ _
  have hiG : (Tryd.prog.info? 52).map (·.size) = some G.size := by rw [hGs]; kernel_rfl
  rw [← hG] at hpa
  have HV : Hid (may D i = (decide (D i.hash = 0) && risR i.refs && hasP i)) := rfl
  obtain ⟨x, hx⟩ : ∃ x, x = D i.hash := ⟨_, rfl⟩
  rw [← hx] at hpa HV
  obtain ⟨Z, hZ⟩ : ∃ Z, Z = S2.zeros32 := ⟨_, rfl⟩
  clear h hT hN hb0 hR hG hx hw hD
  by_cases h0 : x = 0
  · subst h0
    have HRR : Hid (∀ wx, Below w.heap.size w wx → Calls Tryd.prog 22 #[.slice a i.refs.length c] wx fun r w' => r = .returned (.bool (risR i.refs)) ∧ Below wx.heap.size wx w') := fun wx hb => rightRefs_ok a i.refs c wx (HX.out wx hb).2.2.refs
    have HHP : Hid (∀ wx, Below w.heap.size w wx → Calls Tryd.prog 23 #[.agg (infV i a c)] wx fun r w' => r = .returned (.bool (hasP i)) ∧ Below wx.heap.size wx w') := fun wx hb => hasPaths_ok i a c wx (HX.out wx hb).2.2 (HX.out wx hb).1 (HX.out wx hb).2.1
    obtain ⟨br, hbr⟩ : ∃ b, b = risR i.refs := ⟨_, rfl⟩
    obtain ⟨bh, hbh⟩ : ∃ b, b = hasP i := ⟨_, rfl⟩
    rw [← hbr] at HRR HV
    rw [← hbh] at HHP HV
    clear hbr hbh
    cases br with
    | false =>
      go_enter Tryd.func10, Tryd.ntmps10
      go_wp2_with fail
      refine hpa.mono ?_
      rintro e w1 ⟨rfl, hb1⟩
      have hx1 : Below w1.heap.size w1 (w1.alloc (.cells G 52)) := (Below.refl _ _).alloc (Nat.le_refl _) _
      have hb2 := hb1.trans (hx1.mono hb1.size)
      have HB2 : Hid (Below w.heap.size w (w1.alloc (.cells G 52))) := HB.out.trans (hb2.mono HB.out.size)
      have c3 := ((HRX.out _ hb2).cell 3).trans (rfl : _ = some (Value.slice a i.refs.length c))
      have hrr := HRR.out _ HB2.out
      clear hpa hb1 hx1 hb2 c1
      go_wp2_with (refine wpList_store_new rfl 52 _ _ rfl w1 S2.zeros32 G 52 rfl w1.heap.size rfl rfl rfl hiG (by rw [hGs]; rfl) hG1 ?_)
      refine hrr.mono ?_
      rintro e w3 ⟨rfl, hb3⟩
      have HB3 : Hid (Below w.heap.size w w3) := HB2.out.trans (hb3.mono HB2.out.size)
      clear hrr hb3 c3
      go_wp2
      go_ret
      exact ⟨by rw [HV.out]; rfl, HB3.out⟩
    | true =>
      go_enter Tryd.func10, Tryd.ntmps10
      go_wp2_with fail
      refine hpa.mono ?_
      rintro e w1 ⟨rfl, hb1⟩
      have hx1 : Below w1.heap.size w1 (w1.alloc (.cells G 52)) := (Below.refl _ _).alloc (Nat.le_refl _) _
      have hb2 := hb1.trans (hx1.mono hb1.size)
      have HBb : Hid _ := hb2
      have HB2 : Hid (Below w.heap.size w (w1.alloc (.cells G 52))) := HB.out.trans (hb2.mono HB.out.size)
      have c3 := ((HRX.out _ hb2).cell 3).trans (rfl : _ = some (Value.slice a i.refs.length c))
      have hrr := HRR.out _ HB2.out
      clear hpa hb1 hx1 hb2 c1
      go_wp2_with (refine wpList_store_new rfl 52 _ _ rfl w1 S2.zeros32 G 52 rfl w1.heap.size rfl rfl rfl hiG (by rw [hGs]; rfl) hG1 ?_)
      refine hrr.mono ?_
      rintro e w3 ⟨rfl, hb3⟩
      have HB3 : Hid (Below w.heap.size w w3) := HB2.out.trans (hb3.mono HB2.out.size)
      have HR3 : Hid _ := HRX.out w3 (HBb.out.trans (hb3.mono HBb.out.size))
      have hhp := HHP.out w3 HB3.out
      clear hrr hb3 c3
      go_wp2_with (refine loadG 24 (infV i a c) w.heap.size (loadI0 HR3.out rfl) rfl _ rfl rfl ?_)
      refine hhp.mono ?_
      rintro e w4 ⟨rfl, hb4⟩
      have HB4 : Hid (Below w.heap.size w w4) := HB3.out.trans (hb4.mono HB3.out.size)
      clear hhp hb4
      go_wp2
      go_ret
      exact ⟨by rw [HV.out]; simp, HB4.out⟩
  · have hx0 : (x == 0) = false := by simpa using h0
    have hx1 : decide (x = 0) = false := decide_eq_false h0
    rw [hx1] at HV
    go_enter Tryd.func10, Tryd.ntmps10
    go_wp2_with fail
    refine hpa.mono ?_
    rintro e w1 ⟨rfl, hb1⟩
    have hxx : Below w1.heap.size w1 (w1.alloc (.cells G 52)) := (Below.refl _ _).alloc (Nat.le_refl _) _
    have hb2 := hb1.trans (hxx.mono hb1.size)
    have HB2 : Hid (Below w.heap.size w (w1.alloc (.cells G 52))) := HB.out.trans (hb2.mono HB.out.size)
    clear hpa hb1 hxx hb2 c1
    go_wp2_with (refine wpList_store_new rfl 52 _ _ rfl w1 S2.zeros32 G 52 rfl w1.heap.size rfl rfl rfl hiG (by rw [hGs]; rfl) hG1 ?_)
    go_ret
    exact ⟨by rw [HV.out]; rfl, HB2.out⟩
end Go.Proofs.YthidlckipiamkaaDoor
