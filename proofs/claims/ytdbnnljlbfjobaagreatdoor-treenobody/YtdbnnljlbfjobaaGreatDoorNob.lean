/- My own work: the walk of the law TreeNobody. -/
import Derived.Test.YtdbnnljlbfjobaaGreatDoorBlank
namespace Go.Proofs.YtdbnnljlbfjobaaGreatDoor
open Go.RowKit Go.Lib

theorem conv_nil (w : World) : (convert 31 9 (.slice none 0 0)).run Tryz.prog w = .ok (.string ⟨#[]⟩) w := by kernel_rfl
set_option maxRecDepth 20000 in
set_option maxHeartbeats 2000000 in
theorem same_zero (w : World) : Calls Tryz.prog 20 #[.agg node0, .agg node0] w fun e w' => e = .returned (.bool true) ∧ Below w.heap.size w w' := by
  have hb : Below w.heap.size w ((w.alloc (.cells node0 35)).alloc (.cells node0 35)) := ((Below.refl _ _).alloc (Nat.le_refl _) _).alloc (by simp) _
  have HB : Hid _ := hb
  have hcv := conv_nil
  clear hb
  go_enter Tryz.func20, Tryz.ntmps20
  go_wp2
  refine wp_loop_rounds 1 ?_
  rw [rounds_succ]
  go_wp2
  refine wp_loop_rounds 1 ?_
  rw [rounds_succ]
  go_wp2
  go_ret
  exact ⟨rfl, HB.out⟩

/-- What holds all through a round: the tree that no call made, the list of both. -/
structure Tb (w0 : World) (d : Value) (w : World) : Prop where
  z : Row w w0.heap.size #[.pointer none, .pointer none, .pointer none] 50
  l : Row w (w0.heap.size + 1) #[.pointer none, .pointer (some ⟨w0.heap.size, 0, none⟩)] 27
  no : NoTree w d
  old : Below w0.heap.size w0 w
theorem Tb.next {w0 : World} {d : Value} {w w' : World} (h : Tb w0 d w) (hb : Below w.heap.size w w') : Tb w0 d w' :=
  ⟨h.z.below hb h.z.lt, h.l.below hb h.l.lt, h.no.below hb, h.old.trans (hb.mono h.old.size)⟩

set_option maxRecDepth 20000 in
set_option maxHeartbeats 4000000 in
theorem law_nobody (p : ByteArray) (w : World) (hG : GH w) :
    Calls Tryz.prog 4 #[.string p] w fun e w' => e = .returned (.bool true) ∧ Below w.heap.size w w' := by
  have HG : Hid _ := hG
  clear hG
  go_enter Tryz.func4, Tryz.ntmps4
  go_wp2
  go_loopw [21] (fun i wr => ∃ k : Nat, k ≤ 2 ∧ i = .int .i64 k ∧ Tb w (.pointer none) wr) (fun i _ => 2 - (intOf i).toNat)
  case atStart =>
    have r1 := Row.new w #[.pointer none, .pointer none, .pointer none] 50
    refine ⟨0, by omega, rfl, r1.alloc _, ?_, .inl rfl, ((Below.refl _ _).alloc (Nat.le_refl _) _).alloc (by simp) _⟩
    have h := Row.new (w.alloc (.cells #[.pointer none, .pointer none, .pointer none] 50)) #[.pointer none, .pointer (some ⟨w.heap.size, 0, none⟩)] 27
    simpa using h
  case round =>
    obtain ⟨k, hk, rfl, hN0⟩ := hrel
    by_cases hlt : k < 2
    · obtain ⟨d, hd, hN⟩ : ∃ d, wr.cell? ⟨w.heap.size + 1, k, none⟩ = some d ∧ Tb w d wr := by
        match k, hlt with
        | 0, _ => exact ⟨_, hN0.l.cell 0, hN0⟩
        | 1, _ => exact ⟨_, hN0.l.cell 1, hN0.z, hN0.l, .inr ⟨_, rfl, hN0.z⟩, hN0.old⟩
      clear hN0
      have H1 := tget_no d (.string p) wr hN.no
      go_wp2_with fail
      refine Calls.mono H1 ?_
      rintro e w1 ⟨rfl, hb1⟩
      have HN1 : Hid _ := (hN.next hb1).next ((Below.refl _ w1).alloc (Nat.le_refl _) (.cells node0 35))
      have HR1 : Hid _ := Row.new w1 node0 35
      clear H1 hb1 hN
      have H2 := troom_no d _ HN1.out.no
      go_wp2_with (refine wpList_store_new rfl 35 _ _ rfl w1 node0 node0 35 rfl w1.heap.size rfl rfl rfl infoN rfl node0_one ?_)
      refine Calls.mono H2 ?_
      rintro e w2 ⟨rfl, hw2⟩
      subst hw2
      clear H2
      have H3 : Hid _ := same_zero (w1.alloc (.cells node0 35))
      generalize w1.alloc (.cells node0 35) = w2 at *
      go_wp2_with (refine wpList_load_row rfl 35 _ rfl w1.heap.size rfl 35 node0 (0, 0) _ HR1.out Tryz.underlying35 rfl infoN ?_)
      refine Calls.mono H3.out ?_
      rintro e w3 ⟨rfl, hb3⟩
      have hN3 := HN1.out.next hb3
      clear H3 hb3 HR1 HN1
      have H4 := tput_no d (.string p) _ w3 rfl hN3.no
      go_wp2_with fail
      refine Calls.mono H4 ?_
      rintro e w4 ⟨rfl, hb4⟩
      have hN4 := hN3.next hb4
      clear H4 hb4 hN3
      have H5 := tremove_no d (.string p) w4 hN4.no
      go_wp2_with fail
      refine Calls.mono H5 ?_
      rintro e w5 ⟨rfl, hw5⟩
      subst hw5
      clear H5
      have H6 := trename_no d (.string p) (.string p) _ hN4.no
      go_wp2_with fail
      refine Calls.mono H6 ?_
      rintro e w5 ⟨rfl, hw5⟩
      subst hw5
      clear H6
      have H7 := tcommit_no d _ hN4.no
      go_wp2_with fail
      refine Calls.mono H7 ?_
      rintro e w5 ⟨rfl, hw5⟩
      subst hw5
      clear H7
      have H8 := tabort_no d _ hN4.no
      go_wp2_with fail
      refine Calls.mono H8 ?_
      rintro e w5 ⟨rfl, hw5⟩
      subst hw5
      clear H8
      have HN5 : Hid _ := hN4
      clear hN4
      go_wp2
      go_roundw
      case rel => exact ⟨k + 1, by omega, by go_num, HN5.out.z, HN5.out.l, .inl rfl, HN5.out.old⟩
      case measure => simp [intOf]; omega
    · obtain rfl : k = 2 := by omega
      have HB0 : Hid _ := hN0.old
      clear hN0
      have H1 := format_no (.pointer none) wr (.inl rfl)
      go_wp2_with fail
      refine Calls.mono H1 ?_
      rintro e wF ⟨rfl, hwF⟩
      subst hwF
      clear H1
      have hr := Row.new wF #[.slice none 0 0, .slice none 0 0, .slice none 0 0] 60
      have H2 := mount_no (.pointer (some ⟨wF.heap.size, 0, none⟩)) _ (.inr ⟨_, rfl, hr⟩)
      have HB1 : Hid _ := HB0.out.alloc HB0.out.size (.cells #[.slice none 0 0, .slice none 0 0, .slice none 0 0] 60)
      clear hr HB0
      go_wp2_with fail
      refine Calls.mono H2 ?_
      rintro e w1 ⟨rfl, hw1⟩
      subst hw1
      clear H2
      generalize wF.alloc (.cells #[.slice none 0 0, .slice none 0 0, .slice none 0 0] 60) = w1 at *
      have H3 := new_ok 9 w1 (by omega) (by omega)
      rw [show ((9 : Nat) : Int) = 9 from rfl] at H3
      have HH3 : Hid _ := H3
      clear H3
      go_wp2_with fail
      refine Calls.mono HH3.out ?_
      rintro e w2 ⟨g, g1, c1, g2, c2, rfl, hD, hb2⟩
      have HB2 : Hid (Below w.heap.size w w2) := HB1.out.trans (hb2.mono HB1.out.size)
      have H4 := mount_none (GH.below HG.out HB2.out) hD (by decide) (unmarked_zero _ fun _ _ => rfl) (fun v _ => eqB_no _ _ 256 0 (by decide) (by simp [secF, placeF, treeF, freshD]))
      have HH4 : Hid _ := H4
      clear HH3 hD hb2 HB1 H4
      go_wp2_with fail
      refine Calls.mono HH4.out ?_
      rintro e w3 ⟨rfl, hb3⟩
      have HB3 : Hid (Below w.heap.size w w3) := HB2.out.trans (hb3.mono HB2.out.size)
      clear HH4 HB2 hb3
      go_wp2
      go_ret
      exact ⟨rfl, HB3.out⟩
end Go.Proofs.YtdbnnljlbfjobaaGreatDoor
