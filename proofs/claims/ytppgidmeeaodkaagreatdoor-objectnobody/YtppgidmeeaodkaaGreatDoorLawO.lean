/- My own work: the walk of ObjectNobody. -/
import Derived.Test.YtppgidmeeaodkaaGreatDoorONo
import Derived.Test.YtppgidmeeaodkaaGreatDoorPRefM
import Derived.Great.BuildSlice
import Derived.BigFrame
namespace Go.Proofs.YtppgidmeeaodkaaGreatDoor
open Go.RowKit
open S2 (arr arr_size pathE mayB makeV refMake_ok)

section
variable {w : World} {ops : Array Oper} {rest : List Oper} {o : Oper} {a : Act} {Q : Exit → Act → World → Prop}
theorem wpList_run (hgd : o.guard = none) (op : Op) (_ho : o.op = op) (v : Value) (w' : World) (h : (execOp a.eval o).run Tryz.prog w = .ok (.value v) w') (k : wpList Tryz.prog ops Q rest (a.put o.dst v) w') : wpList Tryz.prog ops Q (o :: rest) a w :=
  wpList_plain hgd fun K hK => by
    unfold Oper.wp
    rw [h]
    simp only [Oper.upon]
    exact hK _ _ k
theorem wpList_runG (hw : Region.wanted o (yielded ops a.tmps) = true) (op : Op) (_ho : o.op = op) (v : Value) (w' : World) (h : (execOp a.eval o).run Tryz.prog w = .ok (.value v) w') (k : wpList Tryz.prog ops Q rest (a.put o.dst v) w') : wpList Tryz.prog ops Q (o :: rest) a w :=
  BigFrame.wpList_want hw fun K hK => by
    unfold Oper.wp
    rw [h]
    simp only [Oper.upon]
    exact hK _ _ k
theorem loadG (t : TypeId) (C : Array Value) (g : Nat) (hl : (Instr.loadAt t (.pointer (some ⟨g, 0, none⟩))).run Tryz.prog w = .ok (.agg C) w) (hw : Region.wanted o (yielded ops a.tmps) = true) (x : Operand) (ho : o.op = .load t x) (hx : a.eval x = .pointer (some ⟨g, 0, none⟩))
    (k : wpList Tryz.prog ops Q rest (a.put o.dst (.agg C)) w) : wpList Tryz.prog ops Q (o :: rest) a w :=
  wpList_runG hw _ rfl (.agg C) w (by
    unfold execOp
    simp only [ho, hx, hl, Sem.run_bind, Sem.run_pure, Result.andThen_ok]) k
theorem loadN0 {g : Nat} {C : Array Value} (hr : Row w g C 40) (hC : C.size = 5) : (Instr.loadAt 40 (.pointer (some ⟨g, 0, none⟩))).run Tryz.prog w = .ok (.agg C) w := by
  simp only [Instr.loadAt, Instr.sureAddr, Sem.run_bind, Sem.run_pure, Result.andThen_ok, run_loadVar_row w g 40 40 C (0, 0) _ hr Tryz.underlying40 rfl (by rw [infoN, hC])]
theorem loadI0 {g : Nat} {C : Array Value} (hr : Row w g C 55) (hC : C.size = 4) : (Instr.loadAt 55 (.pointer (some ⟨g, 0, none⟩))).run Tryz.prog w = .ok (.agg C) w := by
  simp only [Instr.loadAt, Instr.sureAddr, Sem.run_bind, Sem.run_pure, Result.andThen_ok, run_loadVar_row w g 55 55 C (0, 0) _ hr Tryz.underlying55 rfl (by rw [infoI, hC])]
end
/-- A digest with one byte. -/
def path8 (x : Int) : Nat → Int := fun i => if i = 0 then x else 0
theorem u8_bd (m : Int) : 0 ≤ IntKind.u8.wrap m ∧ IntKind.u8.wrap m < 256 := by
  unfold IntKind.wrap
  simp only [IntKind.signed, IntKind.bits]
  simp
  omega
set_option maxHeartbeats 2000000 in
/-- Path: some text. -/
theorem path_ok (m : Int) (w : World) : Calls Tryz.prog 14 #[.int .i64 m] w fun e w' => e = .returned (.string (pathE ⟨#[107]⟩ (path8 (IntKind.u8.wrap m)) ⟨#[97]⟩)) ∧ Below w.heap.size w w' := by
  have m0 : mayB ⟨#[107]⟩ ⟨#[97]⟩ = true := by kernel_rfl
  have hM := refMake_ok ⟨#[107]⟩ (path8 (IntKind.u8.wrap m)) ⟨#[97]⟩ w (by decide) (by decide) (fun i => by unfold path8; split; exact u8_bd m; decide) (fun i hi => by unfold path8; rw [if_neg (by omega)])
  have e : makeV ⟨#[107]⟩ (path8 (IntKind.u8.wrap m)) ⟨#[97]⟩ = .tuple #[.string (pathE ⟨#[107]⟩ (path8 (IntKind.u8.wrap m)) ⟨#[97]⟩), .int .i64 0] := by unfold makeV; rw [m0]; rfl
  rw [e] at hM
  obtain ⟨P, hP⟩ : ∃ P, P = pathE ⟨#[107]⟩ (path8 (IntKind.u8.wrap m)) ⟨#[97]⟩ := ⟨_, rfl⟩
  rw [← hP] at hM ⊢
  obtain ⟨x, hx⟩ : ∃ x, x = IntKind.u8.wrap m := ⟨_, rfl⟩
  rw [← hx] at hM
  have hx' := hx.symm
  clear e m0 hP hx
  go_enter Tryz.func14, Tryz.ntmps14
  go_wp2_with (refine wpList_run rfl (.build 76 #[(0, .tmp 7)]) rfl (.agg (arr (path8 x) 32)) w (by kernel_rfl) ?_)
  refine hM.mono ?_
  rintro e w1 ⟨rfl, hb1⟩
  clear hM
  go_wp2
  go_ret
  exact ⟨rfl, hb1⟩
set_option maxHeartbeats 2000000 in
theorem infos_zero (w : World) : Calls Tryz.prog 27 #[.agg info0, .agg info0] w fun e w' => e = .returned (.bool true) ∧ Below w.heap.size w w' := by
  have hb : Below w.heap.size w ((w.alloc (.cells info0 55)).alloc (.cells info0 55)) := ((Below.refl _ _).alloc (Nat.le_refl _) _).alloc (by simp) _
  have HB : Hid _ := hb
  have H : ∀ wx, Calls Tryz.prog 72 #[.slice none 0 0, .slice none 0 0] wx fun e w' => e = .returned (.bool true) ∧ w' = wx := fun wx => by
    go_enter Tryz.func72, Tryz.ntmps72
    go_wp2
    refine wp_loop_rounds 1 ?_
    rw [rounds_succ]
    go_wp2
    go_ret
    exact ⟨rfl, rfl⟩
  have HH : Hid _ := H
  clear hb H
  go_enter Tryz.func27, Tryz.ntmps27
  go_wp2_with fail
  refine (HH.out _).mono ?_
  rintro e w1 ⟨rfl, rfl⟩
  go_wp2
  go_ret
  exact ⟨rfl, HB.out⟩
theorem conv_nil (w : World) : (convert 36 9 (.slice none 0 0)).run Tryz.prog w = .ok (.string ⟨#[]⟩) w := by kernel_rfl
set_option maxRecDepth 20000 in
set_option maxHeartbeats 2000000 in
theorem same_zero (w : World) : Calls Tryz.prog 24 #[.agg node0, .agg node0] w fun e w' => e = .returned (.bool true) ∧ Below w.heap.size w w' := by
  have hb : Below w.heap.size w ((w.alloc (.cells node0 40)).alloc (.cells node0 40)) := ((Below.refl _ _).alloc (Nat.le_refl _) _).alloc (by simp) _
  have HB : Hid _ := hb
  have hcv := conv_nil
  clear hb
  go_enter Tryz.func24, Tryz.ntmps24
  go_wp2
  refine wp_loop_rounds 1 ?_
  rw [rounds_succ]
  go_wp2
  refine wp_loop_rounds 1 ?_
  rw [rounds_succ]
  go_wp2
  go_ret
  exact ⟨rfl, HB.out⟩
/-- What holds all through a round: the objects that no call made, the list of both. -/
structure Ob (w0 : World) (d : Value) (w : World) : Prop where
  z : Row w w0.heap.size #[.pointer none] 66
  l : Row w (w0.heap.size + 1) #[.pointer none, .pointer (some ⟨w0.heap.size, 0, none⟩)] 30
  no : NoObj w d
  old : Below w0.heap.size w0 w
theorem Ob.next {w0 : World} {d : Value} {w w' : World} (h : Ob w0 d w) (hb : Below w.heap.size w w') : Ob w0 d w' :=
  ⟨h.z.below hb h.z.lt, h.l.below hb h.l.lt, h.no.below hb, h.old.trans (hb.mono h.old.size)⟩
set_option maxRecDepth 20000 in
set_option maxHeartbeats 4000000 in
theorem law_onobody (n : Int) (w00 : World) :
    Calls Tryz.prog 4 #[.int .i64 n] w00 fun e w' => e = .returned (.bool true) ∧ Below w00.heap.size w00 w' := by
  have HPa : Hid (∀ m wx, ∃ P, Calls Tryz.prog 14 #[.int .i64 m] wx fun e w' => e = .returned (.string P) ∧ Below wx.heap.size wx w') := fun m wx => ⟨_, path_ok m wx⟩
  go_enter Tryz.func4, Tryz.ntmps4
  go_wp2_with fail
  obtain ⟨p, hp⟩ := HPa.out _ w00
  refine Calls.mono hp ?_
  rintro e w ⟨rfl, hb00⟩
  have HB00 : Hid (Below w00.heap.size w00 w) := hb00
  clear hp hb00 HPa
  go_wp2
  go_loopw [21] (fun i wr => ∃ k : Nat, k ≤ 2 ∧ i = .int .i64 k ∧ Ob w (.pointer none) wr) (fun i _ => 2 - (intOf i).toNat)
  case atStart =>
    have r1 := Row.new w #[.pointer none] 66
    refine ⟨0, by omega, rfl, r1.alloc _, ?_, .inl rfl, ((Below.refl _ _).alloc (Nat.le_refl _) _).alloc (by simp) _⟩
    have h := Row.new (w.alloc (.cells #[.pointer none] 66)) #[.pointer none, .pointer (some ⟨w.heap.size, 0, none⟩)] 30
    simpa using h
  case round =>
    obtain ⟨k, hk, rfl, hN0⟩ := hrel
    by_cases hlt : k < 2
    · obtain ⟨d, hd, hN⟩ : ∃ d, wr.cell? ⟨w.heap.size + 1, k, none⟩ = some d ∧ Ob w d wr := by
        match k, hlt with
        | 0, _ => exact ⟨_, hN0.l.cell 0, hN0⟩
        | 1, _ => exact ⟨_, hN0.l.cell 1, hN0.z, hN0.l, .inr ⟨_, rfl, hN0.z⟩, hN0.old⟩
      clear hN0
      have H1 := oget_no d (.string p) wr hN.no
      go_wp2_with fail
      refine Calls.mono H1 ?_
      rintro e w1 ⟨rfl, hb1⟩
      have HN1 : Hid _ := (hN.next hb1).next ((Below.refl _ w1).alloc (Nat.le_refl _) (.cells node0 40))
      have HR1 : Hid _ := Row.new w1 node0 40
      clear H1 hb1 hN
      have H2 := oinfo_no d (.string p) _ HN1.out.no
      go_wp2_with (refine wpList_store_new rfl 40 _ _ rfl w1 node0 node0 40 rfl w1.heap.size rfl rfl rfl infoN rfl node00_one ?_)
      refine Calls.mono H2 ?_
      rintro e w2 ⟨rfl, hb2⟩
      have HN2 : Hid _ := (HN1.out.next hb2).next ((Below.refl _ w2).alloc (Nat.le_refl _) (.cells info0 55))
      have HRn : Hid (Row (w2.alloc (.cells info0 55)) w1.heap.size node0 40) := (Row.below HR1.out hb2 (Row.lt HR1.out)).alloc _
      have HRi : Hid _ := Row.new w2 info0 55
      clear H2 hb2 HN1 HR1
      have H3 := oadd_no d (.string p) #[.int .i64 1, .bool false, .slice none 0 0, .slice none 0 0, .slice none 0 0] (.slice none 0 0) (.string ⟨#[]⟩) _ HN2.out.no
      go_wp2_with (refine wpList_store_new rfl 55 _ _ rfl w2 info0 info0 55 rfl w2.heap.size rfl rfl rfl infoI rfl info0_one ?_)
      refine Calls.mono H3 ?_
      rintro e w3 ⟨rfl, hb3⟩
      have HN3 : Hid _ := HN2.out.next hb3
      have HRn3 : Hid (Row w3 w1.heap.size node0 40) := Row.below HRn.out hb3 (Row.lt HRn.out)
      have HRi3 : Hid (Row w3 w2.heap.size info0 55) := Row.below HRi.out hb3 (Row.lt HRi.out)
      clear H3 hb3 HN2 HRn HRi
      have H4 := same_zero w3
      go_wp2_with (refine loadG 40 node0 w1.heap.size (loadN0 HRn3.out rfl) rfl _ rfl rfl ?_)
      refine Calls.mono H4 ?_
      rintro e w4 ⟨rfl, hb4⟩
      have HN4 : Hid _ := HN3.out.next hb4
      have HRi4 : Hid (Row w4 w2.heap.size info0 55) := Row.below HRi3.out hb4 (Row.lt HRi3.out)
      clear H4 hb4 HN3 HRn3 HRi3
      have H5 := infos_zero w4
      go_wp2_with (refine loadG 55 info0 w2.heap.size (loadI0 HRi4.out rfl) rfl _ rfl rfl ?_)
      refine Calls.mono H5 ?_
      rintro e w5 ⟨rfl, hb5⟩
      have HN5 : Hid _ := HN4.out.next hb5
      clear H5 hb5 HN4 HRi4
      have H6 := olist_no d w5 HN5.out.no
      go_wp2_with fail
      refine Calls.mono H6 ?_
      rintro e w6 ⟨rfl, hw6⟩
      subst hw6
      clear H6
      have H7 := overify_no d (.string p) _ HN5.out.no
      go_wp2_with fail
      refine Calls.mono H7 ?_
      rintro e w7 ⟨rfl, hb7⟩
      have HN7 : Hid _ := HN5.out.next hb7
      clear H7 hb7 HN5
      have H8 := odelete_no d (.string p) _ HN7.out.no
      go_wp2_with fail
      refine Calls.mono H8 ?_
      rintro e w8 ⟨rfl, hb8⟩
      have HN8 : Hid _ := HN7.out.next hb8
      clear H8 hb8 HN7
      go_wp2
      go_roundw
      case rel => exact ⟨k + 1, by omega, by go_num, HN8.out.z, HN8.out.l, .inl rfl, HN8.out.old⟩
      case measure => simp [intOf]; omega
    · obtain rfl : k = 2 := by omega
      have HB0 : Hid (Below w00.heap.size w00 wr) := HB00.out.trans (hN0.old.mono HB00.out.size)
      clear hN0
      have H1 := oopen_no (.pointer none) wr (.inl rfl)
      go_wp2_with fail
      refine Calls.mono H1 ?_
      rintro e w1 ⟨rfl, hb1⟩
      have HB1 : Hid (Below w00.heap.size w00 w1) := HB0.out.trans (hb1.mono HB0.out.size)
      clear H1 hb1 HB0
      have hr := Row.new w1 #[.pointer none, .pointer none, .pointer none] 72
      have H2 := oopen_no (.pointer (some ⟨w1.heap.size, 0, none⟩)) _ (.inr ⟨_, rfl, hr⟩)
      have HB2 : Hid _ := HB1.out.alloc HB1.out.size (.cells #[.pointer none, .pointer none, .pointer none] 72)
      clear hr HB1
      go_wp2_with fail
      refine Calls.mono H2 ?_
      rintro e w3 ⟨rfl, hb3⟩
      have HB3 : Hid (Below w00.heap.size w00 w3) := HB2.out.trans (hb3.mono HB2.out.size)
      clear H2 hb3 HB2
      go_wp2
      go_ret
      exact ⟨rfl, HB3.out⟩
end Go.Proofs.YtppgidmeeaodkaaGreatDoor
