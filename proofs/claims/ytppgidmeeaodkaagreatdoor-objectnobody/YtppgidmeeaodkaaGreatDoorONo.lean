/- My own work: objects that no call made. -/
import Derived.Test.YtppgidmeeaodkaaGreatDoorIs
import Derived.Test.YtppgidmeeaodkaaGreatDoorNoT
import Derived.Laws.CopyOwn
namespace Go.Proofs.YtppgidmeeaodkaaGreatDoor
open Go.RowKit

/-- No objects: nil, or one pointer that is nil. -/
def NoObj (w : World) (o : Value) : Prop := o = .pointer none ∨ ∃ g, o = .pointer (some ⟨g, 0, none⟩) ∧ Row w g #[.pointer none] 66
theorem NoObj.below {w w' : World} {t : Value} (h : NoObj w t) (hb : Below w.heap.size w w') : NoObj w' t := h.imp id fun ⟨g, e, r⟩ => ⟨g, e, r.below hb r.lt⟩
/-- The zero Info's cells. -/
abbrev info0 : Array Value := #[.string ⟨#[]⟩, .string ⟨#[]⟩, .string ⟨#[]⟩, .slice none 0 0]
theorem info0_one : info0.all (·.oneCell') = true := by kernel_rfl
theorem infoI : (Tryz.prog.info? 55).map (·.size) = some 4 := by kernel_rfl
theorem node00_one : node0.all (·.oneCell') = true := by kernel_rfl
theorem results_cells2 {P : Program} {fn : Func} {p q u : Tmp} {ty tz : TypeId} (h : fn.results = #[.cell p ty, .cell q tz, .tmp u]) (tmps : Array Value) (w : World) (g k : Nat) (t s : TypeId) (cs ds : Array Value) (fr fs : Nat × Nat) (d d' : TypeDesc)
    (hp : tmps.getD p undef = .pointer (some ⟨g, 0, none⟩)) (hg : w.heap[g]? = some (.cells cs t fr)) (hq : tmps.getD q undef = .pointer (some ⟨k, 0, none⟩)) (hk : w.heap[k]? = some (.cells ds s fs))
    (hu : P.underlying ty = some d) (hd : (match d with | .struct _ | .array _ _ => true | _ => false) = true) (hi : (P.info? ty).map (·.size) = some cs.size)
    (hu' : P.underlying tz = some d') (hd' : (match d' with | .struct _ | .array _ _ => true | _ => false) = true) (hi' : (P.info? tz).map (·.size) = some ds.size) :
    (results fn tmps).run P w = .ok (.tuple #[.agg cs, .agg ds, tmps.getD u undef]) w := by
  have hp' : tmps[p]?.getD undef = .pointer (some ⟨g, 0, none⟩) := by simpa using hp
  have hq' : tmps[q]?.getD undef = .pointer (some ⟨k, 0, none⟩) := by simpa using hq
  simp [results, h, hp', hq', asAddr, run_loadVar_row w g t ty cs fr d hg hu hd hi, run_loadVar_row w k s tz ds fs d' hk hu' hd' hi', Result.andThen]
theorem resInfo : Tryz.f23.results = #[.cell 4 55, .tmp 5] := by kernel_rfl
theorem resFind : Tryz.f73.results = #[.cell 4 40, .cell 5 55, .tmp 6] := by kernel_rfl
theorem resGet : Tryz.f28.results = #[.cell 4 40, .tmp 5] := by kernel_rfl

theorem omade_no (t : Value) (w : World) (h : NoObj w t) : Calls Tryz.prog 42 #[t] w fun e w' => e = .returned (.bool false) ∧ w' = w := by
  rcases h with rfl | ⟨g, rfl, hR⟩
  · go_enter Tryz.func42, Tryz.ntmps42
    go_wp2
    go_ret
    exact ⟨rfl, rfl⟩
  · have hc : w.cell? ⟨g, 0, none⟩ = some (.pointer none) := (hR.cell 0).trans rfl
    clear hR
    go_enter Tryz.func42, Tryz.ntmps42
    go_wp2
    go_ret
    exact ⟨rfl, rfl⟩
set_option maxHeartbeats 2000000 in
theorem oinfo_no (o p : Value) (w : World) (h : NoObj w o) : Calls Tryz.prog 23 #[o, p] w fun e w' => e = .returned (.tuple #[.agg info0, .int .i64 1]) ∧ Below w.heap.size w w' := by
  have hb : Below w.heap.size w (w.alloc (.cells info0 55)) := (Below.refl _ _).alloc (Nat.le_refl _) _
  have H := omade_no o _ (h.below hb)
  have HR : Hid _ := Row.new w info0 55
  have HB : Hid _ := below_setRow hb (Nat.le_refl _) info0
  clear h hb
  go_enter Tryz.func23, Tryz.ntmps23
  go_wp2_with fail
  refine H.mono ?_
  rintro e w' ⟨rfl, rfl⟩
  go_wp2_with (refine wpList_store_row rfl 55 _ _ rfl w.heap.size info0 rfl rfl 55 info0 HR.out infoI rfl info0_one ?_)
  exact bodyPost_ret (results_cell_row2 resInfo _ _ w.heap.size 55 info0 (0, 0) _ rfl (Row.setRow HR.out) Tryz.underlying55 rfl infoI) rfl ⟨rfl, HB.out⟩
set_option maxHeartbeats 4000000 in
theorem ofind_no (o p : Value) (w : World) (h : NoObj w o) : Calls Tryz.prog 73 #[o, p] w fun e w' => e = .returned (.tuple #[.agg node0, .agg info0, .int .i64 1]) ∧ Below w.heap.size w w' := by
  have hb : Below w.heap.size w ((w.alloc (.cells node0 40)).alloc (.cells info0 55)) := ((Below.refl _ _).alloc (Nat.le_refl _) _).alloc (by simp) _
  have hR : Row ((w.alloc (.cells node0 40)).alloc (.cells info0 55)) w.heap.size node0 40 := (Row.new w node0 40).alloc _
  have hR2 : Row ((w.alloc (.cells node0 40)).alloc (.cells info0 55)) (w.heap.size + 1) info0 55 := by
    have e := Row.new (w.alloc (.cells node0 40)) info0 55
    rw [World.size_alloc] at e
    exact e
  generalize hw0 : (w.alloc (.cells node0 40)).alloc (.cells info0 55) = w0 at *
  have H := oinfo_no o p w0 (h.below hb)
  have HR : Hid _ := hR
  have HR2 : Hid _ := hR2
  have HB : Hid _ := hb
  clear h hb hR hR2
  go_enter Tryz.func73, Tryz.ntmps73
  go_wp2_with fail
  refine H.mono ?_
  rintro e w1 ⟨rfl, hb1⟩
  have hx : Below w1.heap.size w1 (w1.alloc (.cells info0 55)) := (Below.refl _ _).alloc (Nat.le_refl _) _
  have hb2 := HB.out.trans ((hb1.trans (hx.mono hb1.size)).mono HB.out.size)
  have HR' : Hid (Row (w1.alloc (.cells info0 55)) w.heap.size node0 40) := (Row.below HR.out hb1 (Row.lt HR.out)).alloc _
  have HR2' : Hid (Row ((w1.alloc (.cells info0 55)).setRow w.heap.size node0) (w.heap.size + 1) info0 55) := (setRow_other _ _ _ _ (by omega)).trans ((Row.below HR2.out hb1 (Row.lt HR2.out)).alloc _)
  have HR3' : Hid (Row (((w1.alloc (.cells info0 55)).setRow w.heap.size node0).setRow (w.heap.size + 1) info0) w.heap.size node0 40) := (setRow_other _ _ _ _ (by omega)).trans (Row.setRow HR'.out)
  have HBE : Hid _ := below_setRow (below_setRow hb2 (Nat.le_refl _) node0) (Nat.le_succ _) info0
  clear H hb1 hx hb2 hw0
  go_wp2_with (first
    | refine wpList_store_new rfl 55 _ _ rfl w1 info0 info0 55 rfl w1.heap.size rfl rfl rfl infoI rfl info0_one ?_
    | refine wpList_store_row rfl 40 _ _ rfl w.heap.size node0 rfl rfl 40 node0 HR'.out infoN rfl node00_one ?_
    | refine wpList_store_row rfl 55 _ _ rfl (w.heap.size + 1) info0 rfl rfl 55 info0 HR2'.out infoI rfl info0_one ?_)
  exact bodyPost_ret (results_cells2 resFind _ _ w.heap.size (w.heap.size + 1) 40 55 node0 info0 (0, 0) (0, 0) _ _ rfl HR3'.out rfl (Row.setRow HR2'.out) Tryz.underlying40 rfl infoN Tryz.underlying55 rfl infoI) rfl ⟨rfl, HBE.out⟩
set_option maxHeartbeats 4000000 in
theorem oget_no (o p : Value) (w : World) (h : NoObj w o) : Calls Tryz.prog 28 #[o, p] w fun e w' => e = .returned (.tuple #[.agg node0, .int .i64 1]) ∧ Below w.heap.size w w' := by
  have hb : Below w.heap.size w (w.alloc (.cells node0 40)) := (Below.refl _ _).alloc (Nat.le_refl _) _
  have hR := Row.new w node0 40
  generalize hw0 : w.alloc (.cells node0 40) = w0 at *
  have H := ofind_no o p w0 (h.below hb)
  have HR : Hid _ := hR
  have HB : Hid _ := hb
  clear h hb hR
  go_enter Tryz.func28, Tryz.ntmps28
  go_wp2_with fail
  refine H.mono ?_
  rintro e w1 ⟨rfl, hb1⟩
  have hx : Below w1.heap.size w1 ((w1.alloc (.cells node0 40)).alloc (.cells info0 55)) := ((Below.refl _ _).alloc (Nat.le_refl _) _).alloc (by simp) _
  have HR6 : Hid (Row ((w1.alloc (.cells node0 40)).alloc (.cells info0 55)) w1.heap.size node0 40) := (Row.new w1 node0 40).alloc _
  have HR7 : Hid (Row ((w1.alloc (.cells node0 40)).alloc (.cells info0 55)) (w1.heap.size + 1) info0 55) := by
    have e := Row.new (w1.alloc (.cells node0 40)) info0 55
    rw [World.size_alloc] at e
    exact e
  have hb2 := HB.out.trans ((hb1.trans (hx.mono hb1.size)).mono HB.out.size)
  have HR' : Hid (Row ((w1.alloc (.cells node0 40)).alloc (.cells info0 55)) w.heap.size node0 40) := ((Row.below HR.out hb1 (Row.lt HR.out)).alloc _).alloc _
  generalize hw2 : (w1.alloc (.cells node0 40)).alloc (.cells info0 55) = w2 at *
  have hlt : w.heap.size < w1.heap.size := Nat.lt_of_lt_of_le (Row.lt HR.out) hb1.size
  have HR7' : Hid (Row (w2.setRow w1.heap.size node0) (w1.heap.size + 1) info0 55) := (setRow_other _ _ _ _ (by omega)).trans HR7.out
  have HR6' : Hid (Row ((w2.setRow w1.heap.size node0).setRow (w1.heap.size + 1) info0) w1.heap.size node0 40) := (setRow_other _ _ _ _ (by omega)).trans (Row.setRow HR6.out)
  have HR4' : Hid (Row ((w2.setRow w1.heap.size node0).setRow (w1.heap.size + 1) info0) w.heap.size node0 40) := (setRow_other _ _ _ _ (by omega)).trans ((setRow_other _ _ _ _ (by omega)).trans HR'.out)
  have HBE : Hid _ := below_setRow (below_setRow (below_setRow hb2 (by omega : w.heap.size ≤ w1.heap.size) node0) (by omega : w.heap.size ≤ w1.heap.size + 1) info0) (Nat.le_refl _) node0
  clear H hb1 hx hb2 hlt hw0
  go_wp2_with (first
    | refine wpList_store_row rfl 40 _ _ rfl w1.heap.size node0 rfl rfl 40 node0 HR6.out infoN rfl node00_one ?_
    | refine wpList_store_row rfl 55 _ _ rfl (w1.heap.size + 1) info0 rfl rfl 55 info0 HR7'.out infoI rfl info0_one ?_
    | refine wpList_load_row rfl 40 _ rfl w1.heap.size rfl 40 node0 (0, 0) _ HR6'.out Tryz.underlying40 rfl infoN ?_
    | refine wpList_store_row rfl 40 _ _ rfl w.heap.size node0 rfl rfl 40 node0 HR4'.out infoN rfl node00_one ?_)
  exact bodyPost_ret (results_cell_row2 resGet _ _ w.heap.size 40 node0 (0, 0) _ rfl (Row.setRow HR4'.out) Tryz.underlying40 rfl infoN) rfl ⟨rfl, HBE.out⟩
set_option maxHeartbeats 4000000 in
theorem overify_no (o p : Value) (w : World) (h : NoObj w o) : Calls Tryz.prog 30 #[o, p] w fun e w' => e = .returned (.int .i64 1) ∧ Below w.heap.size w w' := by
  have H := ofind_no o p w h
  clear h
  go_enter Tryz.func30, Tryz.ntmps30
  go_wp2_with fail
  refine H.mono ?_
  rintro e w1 ⟨rfl, hb1⟩
  have hx : Below w1.heap.size w1 ((w1.alloc (.cells node0 40)).alloc (.cells info0 55)) := ((Below.refl _ _).alloc (Nat.le_refl _) _).alloc (by simp) _
  have HR6 : Hid (Row ((w1.alloc (.cells node0 40)).alloc (.cells info0 55)) w1.heap.size node0 40) := (Row.new w1 node0 40).alloc _
  have HR7 : Hid (Row ((w1.alloc (.cells node0 40)).alloc (.cells info0 55)) (w1.heap.size + 1) info0 55) := by
    have e := Row.new (w1.alloc (.cells node0 40)) info0 55
    rw [World.size_alloc] at e
    exact e
  have hb2 := hb1.trans (hx.mono hb1.size)
  generalize hw2 : (w1.alloc (.cells node0 40)).alloc (.cells info0 55) = w2 at *
  have HR7' : Hid (Row (w2.setRow w1.heap.size node0) (w1.heap.size + 1) info0 55) := (setRow_other _ _ _ _ (by omega)).trans HR7.out
  have hs := hb1.size
  have HBE : Hid _ := below_setRow (below_setRow hb2 (by omega : w.heap.size ≤ w1.heap.size) node0) (by omega : w.heap.size ≤ w1.heap.size + 1) info0
  clear H hb1 hx hb2 hs
  go_wp2_with (first
    | refine wpList_store_row rfl 40 _ _ rfl w1.heap.size node0 rfl rfl 40 node0 HR6.out infoN rfl node00_one ?_
    | refine wpList_store_row rfl 55 _ _ rfl (w1.heap.size + 1) info0 rfl rfl 55 info0 HR7'.out infoI rfl info0_one ?_)
  go_ret
  exact ⟨rfl, HBE.out⟩
set_option maxHeartbeats 4000000 in
theorem odelete_no (o p : Value) (w : World) (h : NoObj w o) : Calls Tryz.prog 18 #[o, p] w fun e w' => e = .returned (.int .i64 1) ∧ Below w.heap.size w w' := by
  have H := oinfo_no o p w h
  clear h
  go_enter Tryz.func18, Tryz.ntmps18
  go_wp2_with fail
  refine H.mono ?_
  rintro e w1 ⟨rfl, hb1⟩
  have hx : Below w1.heap.size w1 (w1.alloc (.cells info0 55)) := (Below.refl _ _).alloc (Nat.le_refl _) _
  have HBE : Hid _ := hb1.trans (hx.mono hb1.size)
  clear H hb1 hx
  go_wp2_with (refine wpList_store_new rfl 55 _ _ rfl w1 info0 info0 55 rfl w1.heap.size rfl rfl rfl infoI rfl info0_one ?_)
  go_ret
  exact ⟨rfl, HBE.out⟩
theorem olist_no (o : Value) (w : World) (h : NoObj w o) : Calls Tryz.prog 29 #[o] w fun e w' => e = .returned (.slice none 0 0) ∧ w' = w := by
  have H := omade_no o w h
  clear h
  go_enter Tryz.func29, Tryz.ntmps29
  go_wp2_with fail
  refine H.mono ?_
  rintro e w' ⟨rfl, rfl⟩
  go_wp2
  go_ret
  exact ⟨rfl, rfl⟩
theorem oadd_no (o p : Value) (C : Array Value) (r d : Value) (w : World) (h : NoObj w o) : Calls Tryz.prog 16 #[o, p, .agg C, r, d] w fun e w' => e = .returned (.int .i64 1) ∧ Below w.heap.size w w' := by
  have hb : Below w.heap.size w (w.alloc (.cells C 40)) := (Below.refl _ _).alloc (Nat.le_refl _) _
  have H := omade_no o _ (h.below hb)
  have HB : Hid _ := hb
  clear h hb
  go_enter Tryz.func16, Tryz.ntmps16
  go_wp2_with fail
  refine H.mono ?_
  rintro e w' ⟨rfl, rfl⟩
  go_wp2
  go_ret
  exact ⟨rfl, HB.out⟩
set_option maxHeartbeats 4000000 in
theorem putMissing_no (t : Value) (b : Nat) (s1 s2 : ByteArray) (w : World) (h : NoTree w t) (hr : Row w b #[.string s1, .string s2] 9) : Calls Tryz.prog 38 #[t, .slice (some ⟨b, 0, none⟩) 2 2] w fun e w' => e = .returned (.tuple #[.slice none 0 0, .int .i64 1]) ∧ Below w.heap.size w w' := by
  have H := tget_no t (.string s1) w h
  have c0 := (hr.cell 0).trans (rfl : _ = some (Value.string s1))
  clear h hr
  go_enter Tryz.func38, Tryz.ntmps38
  go_wp2
  refine wp_loop_rounds 1 ?_
  rw [rounds_succ]
  go_wp2_with fail
  refine H.mono ?_
  rintro e w1 ⟨rfl, hb1⟩
  have hx : Below w1.heap.size w1 (w1.alloc (.cells node0 40)) := (Below.refl _ _).alloc (Nat.le_refl _) _
  have HBE : Hid _ := hb1.trans (hx.mono hb1.size)
  have H2 := is_other 1 14 (by decide) (w1.alloc (.cells node0 40))
  clear H hb1 hx c0
  go_wp2_with (refine wpList_store_new rfl 40 _ _ rfl w1 node0 node0 40 rfl w1.heap.size rfl rfl rfl infoN rfl node00_one ?_)
  refine H2.mono ?_
  rintro e w2 ⟨rfl, hw2⟩
  subst hw2
  clear H2
  go_wp2
  go_ret2
  exact ⟨rfl, HBE.out⟩
set_option maxHeartbeats 4000000 in
theorem oopen_no (t : Value) (w : World) (h : NoTree w t) : Calls Tryz.prog 10 #[t] w fun e w' => e = .returned (.tuple #[.pointer none, .int .i64 1]) ∧ Below w.heap.size w w' := by
  have hb : Below w.heap.size w (w.alloc (.cells #[.string ⟨#[47, 115, 116, 111, 114, 101]⟩, .string ⟨#[47, 100, 98]⟩] 9)) := (Below.refl _ _).alloc (Nat.le_refl _) _
  have H := putMissing_no t w.heap.size _ _ _ (h.below hb) (Row.new w #[.string ⟨#[47, 115, 116, 111, 114, 101]⟩, .string ⟨#[47, 100, 98]⟩] 9)
  have HB : Hid _ := hb
  clear h hb
  go_enter Tryz.func10, Tryz.ntmps10
  go_wp2_with fail
  refine H.mono ?_
  rintro e w1 ⟨rfl, hb1⟩
  have HBE : Hid _ := HB.out.trans (hb1.mono HB.out.size)
  clear H hb1
  go_wp2
  refine wp_loop_rounds 1 ?_
  rw [rounds_succ]
  go_wp2
  go_ret2
  exact ⟨rfl, HBE.out⟩
end Go.Proofs.YtppgidmeeaodkaaGreatDoor
