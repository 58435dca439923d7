/- My own work: the walk of read. -/
import Derived.Test.YtmpgfepkdhjibaaDoorRd8j
import Derived.Test.YtmpgfepkdhjibaaDoorRt2
import Derived.Test.YtmpgfepkdhjibaaDoorRCell
import Derived.Test.YtmpgfepkdhjibaaDoorPermA
namespace Go.Proofs.YtmpgfepkdhjibaaDoor
open Go.RowKit

section
variable {P : Program} {ops : Array Oper} {S : World → Prop} {Q : Act → World → Prop} {a : Act} {w : World} {o : Oper} {i : Nat} {fs : List (Bool × Nat)}
theorem a_load_row (dd : Option Tmp) (ty : TypeId) (x : Operand) (hi : ops[i]? = some o) (hd' : o.dst = dd) (ho : o.op = .load ty x) (hw : Region.wanted o (yielded ops a.tmps) = true) (g : Nat) (hx : a.eval x = .pointer (some ⟨g, 0, none⟩)) (t : TypeId) (C : Array Value) (d : TypeDesc)
    (hC : ∀ w, S w → Row w g C t) (hu : P.underlying ty = some d) (hd : (match d with | .struct _ | .array _ _ => true | _ => false) = true) (hs : (P.info? ty).map (·.size) = some C.size)
    (k : wpPermA P ops S Q fs (a.put dd (.agg C)) w) : wpPermA P ops S Q ((false, i) :: fs) a w :=
  a_value dd (.agg C) hi hd' hw (fun wx hwx => by
    unfold execOp
    simp only [ho, hx, Instr.loadAt, Instr.sureAddr, Sem.run_bind, Sem.run_pure, Result.andThen_ok, run_loadVar_row wx g t ty C (0, 0) d (hC wx hwx) hu hd hs]) k
theorem a_store_row (ty : TypeId) (x y : Operand) (hi : ops[i]? = some o) (hd : o.dst = none) (ho : o.op = .store ty x y) (hw : Region.wanted o (yielded ops a.tmps) = true) (g : Nat) (C : Array Value) (hx : a.eval x = .pointer (some ⟨g, 0, none⟩)) (hy : a.eval y = .agg C) (t : TypeId) (old : Array Value) (hg : Row w g old t)
    (hs : (P.info? ty).map (·.size) = some C.size) (hold : old.size = C.size) (h1 : C.all (·.oneCell') = true) (hS : S (w.setRow g C)) (k : wpPermA P ops S Q fs a (w.setRow g C)) : wpPermA P ops S Q ((true, i) :: fs) a w :=
  a_store (w.setRow g C) hi hd hw (by
    unfold execOp
    simp only [ho, hx, hy, Instr.storeAt, Instr.sureAddr, Sem.run_bind, Sem.run_pure, Result.andThen_ok, run_storeVar_row w g t ty old C hg hs hold h1]) hS k
end
section
variable {w : World} {ops : Array Oper} {rest : List Oper} {o : Oper} {a : Act} {Q : Exit → Act → World → Prop}
theorem store_new (hgd : o.guard = none) (ty : TypeId) (x y : Operand) (ho : o.op = .store ty x y) (W : World) (Z C : Array Value) (t : TypeId) (hw : w = W.alloc (.cells Z t)) (g : Nat) (hg : g = W.heap.size) (hx : a.eval x = .pointer (some ⟨g, 0, none⟩)) (hy : a.eval y = .agg C)
    (hi : (Tryd.prog.info? ty).map (·.size) = some C.size) (hs : Z.size = C.size) (h1 : C.all (·.oneCell') = true)
    (h : wpList Tryd.prog ops Q rest (a.put o.dst undef) (W.alloc (.cells C t))) : wpList Tryd.prog ops Q (o :: rest) a w := by
  subst hw
  subst hg
  refine wpList_store_row hgd ty x y ho W.heap.size C hx hy t Z (heap_alloc_new W _) hi hs h1 ?_
  rw [World.setRow_alloc_new]
  exact h
end
/-- Why a text is none. -/
def Fails (s : ByteArray) (e : Int) : Prop := (1048576 < s.size ∧ e = 3) ∨ (s.size ≤ 1048576 ∧ (((∀ y, bl s ≠ drvE y) ∧ e = 10) ∨ ∃ y, bl s = drvE y ∧ rightE y ≠ 0 ∧ e = rightE y))
/-- What is read of a text. -/
def Got (s : ByteArray) (d : Dv) (er : Option Int) : Prop := (er = none ∧ s.size ≤ 1048576 ∧ bl s = drvE d ∧ rightE d = 0) ∨ (∃ e, er = some e ∧ Fails s e)
def erq (b : Bool) : Option Int := if b then some 10 else none
def er2 (s : ByteArray) (p : Nat) (b : Bool) : Option Int := if p < s.size then orE (erq b) 10 else erq b
def er3 (s : ByteArray) (p : Nat) (b : Bool) (d : Dv) : Option Int := if rightE d = 0 then er2 s p b else orE (er2 s p b) (rightE d)
theorem got_ok {s : ByteArray} {d : Dv} {p : Nat} {b : Bool} (hs : s.size ≤ 1048576) (hp : p ≤ s.size) (h : Oc drvE s 0 false d p b) : Got s d (er3 s p b d) := by
  have hbl := bl_len s
  rcases h.2 rfl with ⟨rfl, e2⟩ | ⟨rfl, e2⟩
  · rw [List.drop_zero] at e2
    by_cases hlt : p < s.size
    · have he : er3 s p false d = some 10 := by
        unfold er3 er2
        rw [if_pos hlt]
        split <;> rfl
      rw [he]
      refine .inr ⟨10, rfl, .inr ⟨hs, .inl ⟨fun y e => ?_, rfl⟩⟩⟩
      rw [e2] at e
      have h3 := drvE_pf d y ((bl s).drop p) [] (by rw [e]; simp)
      have h4 := congrArg List.length h3.2
      simp only [List.length_drop, List.length_nil] at h4
      omega
    · have hd : (bl s).drop p = [] := List.drop_of_length_le (by omega)
      rw [hd, List.append_nil] at e2
      have he : er2 s p false = none := by
        unfold er2
        rw [if_neg hlt]
        rfl
      by_cases hr : rightE d = 0
      · exact .inl ⟨by unfold er3; rw [if_pos hr, he], hs, e2, hr⟩
      · exact .inr ⟨rightE d, by unfold er3; rw [if_neg hr, he]; rfl, .inr ⟨hs, .inr ⟨d, e2, hr, rfl⟩⟩⟩
  · have he2 : er2 s p true = some 10 := by
      unfold er2
      split <;> rfl
    have he : er3 s p true d = some 10 := by
      unfold er3
      rw [he2]
      split <;> rfl
    rw [he]
    exact .inr ⟨10, rfl, .inr ⟨hs, .inl ⟨fun y e => e2 y [] (by rw [List.drop_zero, e]; simp), rfl⟩⟩⟩
/-- What read tells. -/
def ReadPost (s : ByteArray) (w : World) (r : Ending) (w' : World) : Prop :=
  Below w.heap.size w w' ∧ ∃ cs ev d er g, r = .returned (.tuple #[.agg cs, ev]) ∧ w.heap.size ≤ g ∧ DrvO g w' (.agg cs) d ∧ ErV w' ev er ∧ Got s d er
theorem resultsRead : Tryd.f25.results = #[.cell 2 27, .tmp 3] := by kernel_rfl
theorem Gr.below {g B : Nat} {w w' : World} (h : Gr g w w') (h1 : B ≤ g) (h2 : B ≤ w.heap.size) : Below B w w' :=
  ⟨h.os, h.tape, h.output, h.size, fun k hk => h.block k (by omega) (fun e => by have := Option.some.inj e; omega)⟩
/-- While read is on its way. -/
structure Rs (w wx : World) (s : ByteArray) (d : Dv) (cs : Array Value) (k5 p : Nat) (er : Option Int) : Prop where
  old : Below w.heap.size w wx
  rd : Rd wx (w.heap.size + 1) s p er
  res : Row wx w.heap.size zDrv 27
  row : Row wx k5 cs 27
  dv : DrvO (w.heap.size + 1) wx (.agg cs) d
theorem Rs.gr {w wx w' : World} {s : ByteArray} {d : Dv} {cs : Array Value} {k5 p p' : Nat} {er er' : Option Int} (h : Rs w wx s d cs k5 p er) (hg : Gr (w.heap.size + 1) wx w') (hr : Rd w' (w.heap.size + 1) s p' er') : Rs w w' s d cs k5 p' er' := by
  have hs := h.old.size
  refine ⟨h.old.trans (hg.below (by omega) hs), hr, hg.row h.res (by omega), hg.row h.row ?_, h.dv.keep fun k hk hlt => hg.block k hlt (fun e => by have := Option.some.inj e; omega)⟩
  obtain ⟨ev, h1, _⟩ := h.rd.ex
  exact row_apart h.row h1 (by decide)
theorem Rs.keep {w wx w' : World} {s : ByteArray} {d : Dv} {cs : Array Value} {k5 p : Nat} {er : Option Int} (h : Rs w wx s d cs k5 p er) (hb : Below wx.heap.size wx w') : Rs w w' s d cs k5 p er := h.gr (Gr.of hb) (h.rd.keep hb)
theorem Rs.done {w wx : World} {s : ByteArray} {d : Dv} {cs : Array Value} {k5 p : Nat} {er : Option Int} {ev : Value} (h : Rs w wx s d cs k5 p er) (he : ErV wx ev er) (hg : Got s d er) : ReadPost s w (.returned (.tuple #[.agg cs, ev])) (wx.setRow w.heap.size cs) := by
  refine ⟨h.old.trans (below_setRow (Nat.le_refl _) _), cs, ev, d, er, w.heap.size + 1, rfl, by omega, h.dv.keep fun k hk hlt => setRow_other wx w.heap.size k cs (by omega), ?_, hg⟩
  cases er with
  | none => exact he
  | some e =>
    obtain ⟨k, q, e3, e4⟩ := he
    exact ⟨k, q, e3, e4.other (row_apart e4 h.res (by decide))⟩
set_option maxRecDepth 20000 in
set_option maxHeartbeats 8000000 in
theorem read_big (s : ByteArray) (w : World) (hs : 1048576 < s.size) : Calls Tryd.prog 25 #[.string s] w fun r w' => ReadPost s w r w' := by
  obtain ⟨RP, hRP⟩ : ∃ RP, RP = ReadPost s w := ⟨_, rfl⟩
  have HRP : Hid (∀ r w', ReadPost s w r w' → RP r w') := fun r w' h => by rw [hRP]; exact h
  rw [← hRP]
  have hbig : (1048576 : Int) < (s.size : Int) := by omega
  have HS : Hid (1048576 < s.size) := hs
  have hR : Row ((w.alloc (.cells zDrv 27)).alloc (.cells #[.int .i64 3, .int .i64 0] 94)) w.heap.size zDrv 27 := (Row.new w zDrv 27).alloc _
  have HF : Hid (Row ((w.alloc (.cells zDrv 27)).alloc (.cells #[.int .i64 3, .int .i64 0] 94)) (w.heap.size + 1) #[.int .i64 3, .int .i64 0] 94) := by
    have := Row.new (w.alloc (.cells zDrv 27)) #[.int .i64 3, .int .i64 0] 94
    rwa [alloc_size] at this
  have HB : Hid (Below w.heap.size w ((w.alloc (.cells zDrv 27)).alloc (.cells #[.int .i64 3, .int .i64 0] 94))) := below_new (below_new (Below.refl _ _) _) _
  clear hRP hs
  go_enter Tryd.func25, Tryd.ntmps25
  go_wp2_with (refine wpList_store_row rfl 27 _ _ rfl w.heap.size zDrv rfl rfl 27 zDrv hR info_drv rfl (drv_one _ _ _ _ _ _ _ _ _ _ _ _ _ _ _ _ _) ?_)
  refine bodyPost_ret (results_cell_row2 resultsRead _ _ w.heap.size 27 zDrv (0, 0) _ rfl (Row.setRow hR) Tryd.underlying27 rfl info_drv) rfl ?_
  refine HRP.out _ _ ?_
  rw [setRow_same hR]
  exact ⟨HB.out, _, _, dv0, some 3, w.heap.size, rfl, Nat.le_refl _, drvO_zero _ _, ⟨_, _, rfl, HF.out⟩, .inr ⟨3, rfl, .inl ⟨HS.out, rfl⟩⟩⟩
set_option maxRecDepth 20000 in
set_option maxHeartbeats 8000000 in
theorem read_small (s : ByteArray) (w : World) (hs : s.size ≤ 1048576) (hT : ETab w) : Calls Tryd.prog 25 #[.string s] w fun r w' => ReadPost s w r w' := by
  obtain ⟨RP, hRP⟩ : ∃ RP, RP = ReadPost s w := ⟨_, rfl⟩
  have HRP : Hid (∀ r w', ReadPost s w r w' → RP r w') := fun r w' h => by rw [hRP]; exact h
  rw [← hRP]
  have hbig : ¬ (1048576 : Int) < (s.size : Int) := by omega
  have HSM : Hid (s.size ≤ 1048576) := hs
  have hR : Row ((w.alloc (.cells zDrv 27)).alloc (.cells #[.string s, .int .i64 0, .nilIface] 97)) w.heap.size zDrv 27 := (Row.new w zDrv 27).alloc _
  have hF : Row ((w.alloc (.cells zDrv 27)).alloc (.cells #[.string s, .int .i64 0, .nilIface] 97)) (w.heap.size + 1) #[.string s, .int .i64 0, .nilIface] 97 := by
    have := Row.new (w.alloc (.cells zDrv 27)) #[.string s, .int .i64 0, .nilIface] 97
    rwa [alloc_size] at this
  have HR : Hid (Row ((w.alloc (.cells zDrv 27)).alloc (.cells #[.string s, .int .i64 0, .nilIface] 97)) w.heap.size zDrv 27) := hR
  have HB : Hid (Below w.heap.size w ((w.alloc (.cells zDrv 27)).alloc (.cells #[.string s, .int .i64 0, .nilIface] 97))) := below_new (below_new (Below.refl _ _) _) _
  have hTT : ETab ((w.alloc (.cells zDrv 27)).alloc (.cells #[.string s, .int .i64 0, .nilIface] 97)) := by
    obtain ⟨t, fr, ht⟩ := hT
    exact ⟨t, fr, (HB.out.block 0 (ETab.pos ⟨t, fr, ht⟩)).trans ht⟩
  have HC := rdrv_ok (w.heap.size + 1) s 0 false ((w.alloc (.cells zDrv 27)).alloc (.cells #[.string s, .int .i64 0, .nilIface] 97)) ⟨⟨_, hF, rfl⟩, Nat.zero_le _, hs⟩ hTT (by omega)
  have HSZ : Hid (((w.alloc (.cells zDrv 27)).alloc (.cells #[.string s, .int .i64 0, .nilIface] 97)).heap.size = w.heap.size + 2) := by show _ = _; simp
  clear hRP hs hR hF hTT hT
  go_enter Tryd.func25, Tryd.ntmps25
  go_wp2_with fail
  refine Calls.mono HC ?_
  rintro e w2 ⟨hg2, v2, d, p1, b1, rfl, hd, hr2, ho2⟩
  obtain ⟨cs, rfl, hda, hcs, hone⟩ := hd.at
  have hci : (Tryd.prog.info? 27).map (·.size) = some cs.size := by rw [hcs]; exact info_drv
  have HCS : Hid (cs.size = 7) := hcs
  have HONE : Hid (cs.all (·.oneCell') = true) := hone
  have hs2 := hg2.size
  have HX : Hid (Rs w (w2.alloc (.cells cs 27)) s d cs w2.heap.size p1 (erq b1)) := by
    have h0 := HSZ.out
    have hb : Below w2.heap.size w2 (w2.alloc (.cells cs 27)) := below_new (Below.refl _ _) _
    have hRw : Row w2 w.heap.size zDrv 27 := hg2.row HR.out (by omega)
    exact ⟨(HB.out.trans (hg2.below (by omega) (by omega))).trans (hb.mono (by omega)), hr2.keep hb, hRw.alloc _, Row.new w2 cs _, hd.keep fun k _ hlt => hb.block k hlt⟩
  have HK2 : Hid (w2.heap.size ≠ w.heap.size) := by have h0 := HSZ.out; show _ ≠ _; omega
  have HGOT : Hid (Got s d (er3 s p1 b1 d)) := got_ok HSM.out hr2.le ho2
  have hle1 := hr2.le
  clear hg2 hr2 ho2 hd hda hs2 HC HR HB HSZ
  go_wp2_with (refine store_new rfl 27 _ _ rfl w2 _ cs 27 rfl w2.heap.size rfl rfl rfl hci (by rw [hcs]; rfl) hone ?_)
  generalize hk5 : w2.heap.size = k5 at *
  generalize w2.alloc (.cells cs 27) = w3 at *
  have HK : Hid (k5 ≠ w.heap.size) := HK2.out
  clear HK2 hk5 hci hcs hone
  obtain ⟨ev0, hrow0, hev0⟩ := HX.out.rd.ex
  have hrd0 : Row w3.drew (w.heap.size + 1) #[.string s, .int .i64 p1, ev0] 97 := Row.drew hrow0
  refine wp_region_mix [false, false, false, false, false, false, false, false, false, false] (fun wx => Row wx (w.heap.size + 1) #[.string s, .int .i64 p1, ev0] 97) (by kernel_rfl) (by kernel_rfl) hrd0 ?_
  refine m_move _ rfl (by rfl) ?_
  simp only [Act.put, List.setIfInBounds_toArray, List.set_cons_zero, List.set_cons_succ]
  refine m_value ?_ (by rfl) (fun w hw => ?_) ?_
  rotate_left
  · go_simp
    with_reducible rfl
  simp only [Act.put, List.setIfInBounds_toArray, List.set_cons_zero, List.set_cons_succ]
  refine m_value ?_ (by rfl) (fun w hw => ?_) ?_
  rotate_left
  · go_simp
    with_reducible rfl
  simp only [Act.put, List.setIfInBounds_toArray, List.set_cons_zero, List.set_cons_succ]
  refine m_value ?_ (by rfl) (fun w hw => ?_) ?_
  rotate_left
  · have c := (hw.cell 1).trans (rfl : _ = some (Value.int .i64 p1))
    go_simp
    with_reducible rfl
  simp only [Act.put, List.setIfInBounds_toArray, List.set_cons_zero, List.set_cons_succ]
  refine m_move _ rfl (by rfl) ?_
  simp only [Act.put, List.setIfInBounds_toArray, List.set_cons_zero, List.set_cons_succ]
  refine m_value ?_ (by rfl) (fun w hw => ?_) ?_
  rotate_left
  · go_simp
    with_reducible rfl
  simp only [Act.put, List.setIfInBounds_toArray, List.set_cons_zero, List.set_cons_succ]
  refine m_value ?_ (by rfl) (fun w hw => ?_) ?_
  rotate_left
  · go_simp
    with_reducible rfl
  simp only [Act.put, List.setIfInBounds_toArray, List.set_cons_zero, List.set_cons_succ]
  refine m_value ?_ (by rfl) (fun w hw => ?_) ?_
  rotate_left
  · have c := (hw.cell 0).trans (rfl : _ = some (Value.string s))
    go_simp
    with_reducible rfl
  simp only [Act.put, List.setIfInBounds_toArray, List.set_cons_zero, List.set_cons_succ]
  refine m_value ?_ (by rfl) (fun w hw => ?_) ?_
  rotate_left
  · go_simp
    with_reducible rfl
  simp only [Act.put, List.setIfInBounds_toArray, List.set_cons_zero, List.set_cons_succ]
  refine m_value ?_ (by rfl) (fun w hw => ?_) ?_
  rotate_left
  · go_simp
    with_reducible rfl
  simp only [Act.put, List.setIfInBounds_toArray, List.set_cons_zero, List.set_cons_succ]
  refine m_done ?_
  try simp only [Exit.then]
  have HXd : Hid (Rs w w3.drew s d cs k5 p1 (erq b1)) := HX.out.keep (Below.refl _ _).drew
  clear HX hrow0 hev0 hrd0
  by_cases hlt : p1 < s.size
  · have hlt' : (p1 : Int) < (s.size : Int) := by omega
    have HER : Hid (er2 s p1 b1 = orE (erq b1) 10) := by show _ = _; unfold er2; rw [if_pos hlt]
    have HF := fail_ok (w.heap.size + 1) s p1 (erq b1) 10 w3.drew HXd.out.rd
    go_wp2_with fail
    refine Calls.mono HF ?_
    rintro e w4 ⟨⟨v4, rfl⟩, hr4, hg4⟩
    have HY : Hid (Rs w w4 s d cs k5 p1 (orE (erq b1) 10)) := HXd.out.gr hg4 hr4
    clear HF hr4 hg4 HXd
    have HC := right_ok d cs w4 (by
      obtain ⟨cs', e1, e2, _⟩ := HY.out.dv.at
      obtain rfl : cs = cs' := Value.agg.inj e1
      exact e2)
    have hr5 := HY.out.row
    have hci0 : (Tryd.prog.info? 27).map (·.size) = some cs.size := by rw [HCS.out]; exact info_drv
    go_wp2_with (refine wpList_load_row rfl 27 _ rfl k5 rfl 27 cs (0, 0) _ hr5 Tryd.underlying27 rfl hci0 ?_)
    refine Calls.mono HC ?_
    rintro e wr1 ⟨rfl, hbr⟩
    have HZ0 : Hid (Rs w wr1 s d cs k5 p1 (orE (erq b1) 10)) := HY.out.keep hbr
    clear HC hr5 hci0 hbr HY
    by_cases hre : rightE d = 0
    · have hnb : (rightE d == 0) = true := by rw [hre]; rfl
      have HZ : Hid (Rs w wr1 s d cs k5 p1 (er3 s p1 b1 d)) := by
        show Rs _ _ _ _ _ _ _ _
        unfold er3
        rw [if_pos hre, HER.out]
        exact HZ0.out
      clear HZ0
      have hcs := HCS.out
      have hone := HONE.out
      obtain ⟨ev, hrow, hev⟩ := HZ.out.rd.ex
      have hk5 : k5 ≠ w.heap.size := HK.out
      have hk6 : k5 ≠ w.heap.size + 1 := row_apart HZ.out.row hrow (by decide)
      have HZd : Hid (Rs w wr1.drew s d cs k5 p1 (er3 s p1 b1 d)) := HZ.out.keep (Below.refl _ _).drew
      have hev2 : ErV wr1.drew ev (er3 s p1 b1 d) := by
        generalize (er3 s p1 b1 d) = er at hev ⊢
        cases er with
        | none => exact hev
        | some e => exact hev
      have HE : Hid (ReadPost s w (.returned (.tuple #[.agg cs, ev])) (wr1.drew.setRow w.heap.size cs)) := HZd.out.done hev2 HGOT.out
      have hS0 : Row wr1.drew (w.heap.size + 1) #[.string s, .int .i64 p1, ev] 97 ∧ Row wr1.drew k5 cs 27 := ⟨hrow, HZ.out.row⟩
      have hS1 : Row (wr1.drew.setRow w.heap.size cs) (w.heap.size + 1) #[.string s, .int .i64 p1, ev] 97 ∧ Row (wr1.drew.setRow w.heap.size cs) k5 cs 27 := ⟨hS0.1.other (by omega), hS0.2.other hk5⟩
      have hRz : Row wr1.drew w.heap.size zDrv 27 := HZd.out.res
      have hci : (Tryd.prog.info? 27).map (·.size) = some cs.size := by rw [hcs]; exact info_drv
      clear hrow hev hev2 HZ HZd HGOT hk5 hk6
      go_wp2_with fail
      refine wp_region_permA [(false, 0), (false, 1), (false, 2), (false, 3), (false, 4), (true, 5), (false, 6)] (fun wx => Row wx (w.heap.size + 1) #[.string s, .int .i64 p1, ev] 97 ∧ Row wx k5 cs 27) (by kernel_rfl) (by kernel_rfl) hS0 ?_
      refine a_load_row (some 38) 27 _ rfl rfl rfl (by rfl) k5 rfl 27 cs _ (fun wx hw => hw.2) Tryd.underlying27 rfl hci ?_
      simp only [Act.put, List.setIfInBounds_toArray, List.set_cons_zero, List.set_cons_succ]
      refine a_move (some 39) _ rfl rfl rfl (by rfl) ?_
      simp only [Act.put, List.setIfInBounds_toArray, List.set_cons_zero, List.set_cons_succ]
      refine a_value (some 40) ?_ rfl rfl (by rfl) (fun w hw => ?_) ?_
      rotate_left
      · go_simp
        with_reducible rfl
      simp only [Act.put, List.setIfInBounds_toArray, List.set_cons_zero, List.set_cons_succ]
      refine a_value (some 41) ?_ rfl rfl (by rfl) (fun w hw => ?_) ?_
      rotate_left
      · go_simp
        with_reducible rfl
      simp only [Act.put, List.setIfInBounds_toArray, List.set_cons_zero, List.set_cons_succ]
      refine a_value (some 42) ?_ rfl rfl (by rfl) (fun w hw => ?_) ?_
      rotate_left
      · have c := (hw.1.cell 2).trans (rfl : _ = some (ev))
        go_simp
        with_reducible rfl
      simp only [Act.put, List.setIfInBounds_toArray, List.set_cons_zero, List.set_cons_succ]
      refine a_store_row 27 _ _ rfl rfl rfl (by rfl) w.heap.size cs rfl rfl 27 zDrv hRz hci (by rw [hcs]; rfl) hone hS1 ?_
      refine a_value (some 3) ?_ rfl rfl (by rfl) (fun w hw => ?_) ?_
      rotate_left
      · go_simp
        with_reducible rfl
      simp only [Act.put, List.setIfInBounds_toArray, List.set_cons_zero, List.set_cons_succ]
      refine a_done ?_
      try simp only [Exit.then]
      have HR3 : Hid (Row (wr1.drew.setRow w.heap.size cs) w.heap.size cs 27) := hRz.setRow
      clear hS0 hS1 hRz
      go_wp2
      refine bodyPost_ret (results_cell_row2 resultsRead _ _ w.heap.size 27 cs (0, 0) _ rfl HR3.out Tryd.underlying27 rfl hci) rfl ?_
      exact HRP.out _ _ HE.out
    · have hnb : (rightE d == 0) = false := by simpa using hre
      have HF := fail_ok (w.heap.size + 1) s p1 (orE (erq b1) 10) (rightE d) wr1 HZ0.out.rd
      have HRE : Hid (¬ rightE d = 0) := hre
      generalize hgen : rightE d = re at *
      go_wp2_with fail
      refine Calls.mono HF ?_
      rintro e wr2 ⟨⟨vz, rfl⟩, hrf, hgf⟩
      have HZ : Hid (Rs w wr2 s d cs k5 p1 (er3 s p1 b1 d)) := by
        show Rs _ _ _ _ _ _ _ _
        unfold er3
        rw [hgen, if_neg HRE.out, HER.out]
        exact HZ0.out.gr hgf hrf
      clear HF HZ0 hrf hgf hgen
      have hcs := HCS.out
      have hone := HONE.out
      obtain ⟨ev, hrow, hev⟩ := HZ.out.rd.ex
      have hk5 : k5 ≠ w.heap.size := HK.out
      have hk6 : k5 ≠ w.heap.size + 1 := row_apart HZ.out.row hrow (by decide)
      have HZd : Hid (Rs w wr2.drew s d cs k5 p1 (er3 s p1 b1 d)) := HZ.out.keep (Below.refl _ _).drew
      have hev2 : ErV wr2.drew ev (er3 s p1 b1 d) := by
        generalize (er3 s p1 b1 d) = er at hev ⊢
        cases er with
        | none => exact hev
        | some e => exact hev
      have HE : Hid (ReadPost s w (.returned (.tuple #[.agg cs, ev])) (wr2.drew.setRow w.heap.size cs)) := HZd.out.done hev2 HGOT.out
      have hS0 : Row wr2.drew (w.heap.size + 1) #[.string s, .int .i64 p1, ev] 97 ∧ Row wr2.drew k5 cs 27 := ⟨hrow, HZ.out.row⟩
      have hS1 : Row (wr2.drew.setRow w.heap.size cs) (w.heap.size + 1) #[.string s, .int .i64 p1, ev] 97 ∧ Row (wr2.drew.setRow w.heap.size cs) k5 cs 27 := ⟨hS0.1.other (by omega), hS0.2.other hk5⟩
      have hRz : Row wr2.drew w.heap.size zDrv 27 := HZd.out.res
      have hci : (Tryd.prog.info? 27).map (·.size) = some cs.size := by rw [hcs]; exact info_drv
      clear hrow hev hev2 HZ HZd HGOT hk5 hk6
      go_wp2_with fail
      refine wp_region_permA [(false, 0), (false, 1), (false, 2), (false, 3), (false, 4), (true, 5), (false, 6)] (fun wx => Row wx (w.heap.size + 1) #[.string s, .int .i64 p1, ev] 97 ∧ Row wx k5 cs 27) (by kernel_rfl) (by kernel_rfl) hS0 ?_
      refine a_load_row (some 38) 27 _ rfl rfl rfl (by rfl) k5 rfl 27 cs _ (fun wx hw => hw.2) Tryd.underlying27 rfl hci ?_
      simp only [Act.put, List.setIfInBounds_toArray, List.set_cons_zero, List.set_cons_succ]
      refine a_move (some 39) _ rfl rfl rfl (by rfl) ?_
      simp only [Act.put, List.setIfInBounds_toArray, List.set_cons_zero, List.set_cons_succ]
      refine a_value (some 40) ?_ rfl rfl (by rfl) (fun w hw => ?_) ?_
      rotate_left
      · go_simp
        with_reducible rfl
      simp only [Act.put, List.setIfInBounds_toArray, List.set_cons_zero, List.set_cons_succ]
      refine a_value (some 41) ?_ rfl rfl (by rfl) (fun w hw => ?_) ?_
      rotate_left
      · go_simp
        with_reducible rfl
      simp only [Act.put, List.setIfInBounds_toArray, List.set_cons_zero, List.set_cons_succ]
      refine a_value (some 42) ?_ rfl rfl (by rfl) (fun w hw => ?_) ?_
      rotate_left
      · have c := (hw.1.cell 2).trans (rfl : _ = some (ev))
        go_simp
        with_reducible rfl
      simp only [Act.put, List.setIfInBounds_toArray, List.set_cons_zero, List.set_cons_succ]
      refine a_store_row 27 _ _ rfl rfl rfl (by rfl) w.heap.size cs rfl rfl 27 zDrv hRz hci (by rw [hcs]; rfl) hone hS1 ?_
      refine a_value (some 3) ?_ rfl rfl (by rfl) (fun w hw => ?_) ?_
      rotate_left
      · go_simp
        with_reducible rfl
      simp only [Act.put, List.setIfInBounds_toArray, List.set_cons_zero, List.set_cons_succ]
      refine a_done ?_
      try simp only [Exit.then]
      have HR3 : Hid (Row (wr2.drew.setRow w.heap.size cs) w.heap.size cs 27) := hRz.setRow
      clear hS0 hS1 hRz
      go_wp2
      refine bodyPost_ret (results_cell_row2 resultsRead _ _ w.heap.size 27 cs (0, 0) _ rfl HR3.out Tryd.underlying27 rfl hci) rfl ?_
      exact HRP.out _ _ HE.out
  · have hlt' : ¬ (p1 : Int) < (s.size : Int) := by omega
    have HER : Hid (er2 s p1 b1 = erq b1) := by show _ = _; unfold er2; rw [if_neg hlt]
    have HY := HXd
    clear HXd
    have HC := right_ok d cs w3.drew (by
      obtain ⟨cs', e1, e2, _⟩ := HY.out.dv.at
      obtain rfl : cs = cs' := Value.agg.inj e1
      exact e2)
    have hr5 := HY.out.row
    have hci0 : (Tryd.prog.info? 27).map (·.size) = some cs.size := by rw [HCS.out]; exact info_drv
    go_wp2_with (refine wpList_load_row rfl 27 _ rfl k5 rfl 27 cs (0, 0) _ hr5 Tryd.underlying27 rfl hci0 ?_)
    refine Calls.mono HC ?_
    rintro e wr1 ⟨rfl, hbr⟩
    have HZ0 : Hid (Rs w wr1 s d cs k5 p1 (erq b1)) := HY.out.keep hbr
    clear HC hr5 hci0 hbr HY
    by_cases hre : rightE d = 0
    · have hnb : (rightE d == 0) = true := by rw [hre]; rfl
      have HZ : Hid (Rs w wr1 s d cs k5 p1 (er3 s p1 b1 d)) := by
        show Rs _ _ _ _ _ _ _ _
        unfold er3
        rw [if_pos hre, HER.out]
        exact HZ0.out
      clear HZ0
      have hcs := HCS.out
      have hone := HONE.out
      obtain ⟨ev, hrow, hev⟩ := HZ.out.rd.ex
      have hk5 : k5 ≠ w.heap.size := HK.out
      have hk6 : k5 ≠ w.heap.size + 1 := row_apart HZ.out.row hrow (by decide)
      have HZd : Hid (Rs w wr1.drew s d cs k5 p1 (er3 s p1 b1 d)) := HZ.out.keep (Below.refl _ _).drew
      have hev2 : ErV wr1.drew ev (er3 s p1 b1 d) := by
        generalize (er3 s p1 b1 d) = er at hev ⊢
        cases er with
        | none => exact hev
        | some e => exact hev
      have HE : Hid (ReadPost s w (.returned (.tuple #[.agg cs, ev])) (wr1.drew.setRow w.heap.size cs)) := HZd.out.done hev2 HGOT.out
      have hS0 : Row wr1.drew (w.heap.size + 1) #[.string s, .int .i64 p1, ev] 97 ∧ Row wr1.drew k5 cs 27 := ⟨hrow, HZ.out.row⟩
      have hS1 : Row (wr1.drew.setRow w.heap.size cs) (w.heap.size + 1) #[.string s, .int .i64 p1, ev] 97 ∧ Row (wr1.drew.setRow w.heap.size cs) k5 cs 27 := ⟨hS0.1.other (by omega), hS0.2.other hk5⟩
      have hRz : Row wr1.drew w.heap.size zDrv 27 := HZd.out.res
      have hci : (Tryd.prog.info? 27).map (·.size) = some cs.size := by rw [hcs]; exact info_drv
      clear hrow hev hev2 HZ HZd HGOT hk5 hk6
      go_wp2_with fail
      refine wp_region_permA [(false, 0), (false, 1), (false, 2), (false, 3), (false, 4), (true, 5), (false, 6)] (fun wx => Row wx (w.heap.size + 1) #[.string s, .int .i64 p1, ev] 97 ∧ Row wx k5 cs 27) (by kernel_rfl) (by kernel_rfl) hS0 ?_
      refine a_load_row (some 38) 27 _ rfl rfl rfl (by rfl) k5 rfl 27 cs _ (fun wx hw => hw.2) Tryd.underlying27 rfl hci ?_
      simp only [Act.put, List.setIfInBounds_toArray, List.set_cons_zero, List.set_cons_succ]
      refine a_move (some 39) _ rfl rfl rfl (by rfl) ?_
      simp only [Act.put, List.setIfInBounds_toArray, List.set_cons_zero, List.set_cons_succ]
      refine a_value (some 40) ?_ rfl rfl (by rfl) (fun w hw => ?_) ?_
      rotate_left
      · go_simp
        with_reducible rfl
      simp only [Act.put, List.setIfInBounds_toArray, List.set_cons_zero, List.set_cons_succ]
      refine a_value (some 41) ?_ rfl rfl (by rfl) (fun w hw => ?_) ?_
      rotate_left
      · go_simp
        with_reducible rfl
      simp only [Act.put, List.setIfInBounds_toArray, List.set_cons_zero, List.set_cons_succ]
      refine a_value (some 42) ?_ rfl rfl (by rfl) (fun w hw => ?_) ?_
      rotate_left
      · have c := (hw.1.cell 2).trans (rfl : _ = some (ev))
        go_simp
        with_reducible rfl
      simp only [Act.put, List.setIfInBounds_toArray, List.set_cons_zero, List.set_cons_succ]
      refine a_store_row 27 _ _ rfl rfl rfl (by rfl) w.heap.size cs rfl rfl 27 zDrv hRz hci (by rw [hcs]; rfl) hone hS1 ?_
      refine a_value (some 3) ?_ rfl rfl (by rfl) (fun w hw => ?_) ?_
      rotate_left
      · go_simp
        with_reducible rfl
      simp only [Act.put, List.setIfInBounds_toArray, List.set_cons_zero, List.set_cons_succ]
      refine a_done ?_
      try simp only [Exit.then]
      have HR3 : Hid (Row (wr1.drew.setRow w.heap.size cs) w.heap.size cs 27) := hRz.setRow
      clear hS0 hS1 hRz
      go_wp2
      refine bodyPost_ret (results_cell_row2 resultsRead _ _ w.heap.size 27 cs (0, 0) _ rfl HR3.out Tryd.underlying27 rfl hci) rfl ?_
      exact HRP.out _ _ HE.out
    · have hnb : (rightE d == 0) = false := by simpa using hre
      have HF := fail_ok (w.heap.size + 1) s p1 (erq b1) (rightE d) wr1 HZ0.out.rd
      have HRE : Hid (¬ rightE d = 0) := hre
      generalize hgen : rightE d = re at *
      go_wp2_with fail
      refine Calls.mono HF ?_
      rintro e wr2 ⟨⟨vz, rfl⟩, hrf, hgf⟩
      have HZ : Hid (Rs w wr2 s d cs k5 p1 (er3 s p1 b1 d)) := by
        show Rs _ _ _ _ _ _ _ _
        unfold er3
        rw [hgen, if_neg HRE.out, HER.out]
        exact HZ0.out.gr hgf hrf
      clear HF HZ0 hrf hgf hgen
      have hcs := HCS.out
      have hone := HONE.out
      obtain ⟨ev, hrow, hev⟩ := HZ.out.rd.ex
      have hk5 : k5 ≠ w.heap.size := HK.out
      have hk6 : k5 ≠ w.heap.size + 1 := row_apart HZ.out.row hrow (by decide)
      have HZd : Hid (Rs w wr2.drew s d cs k5 p1 (er3 s p1 b1 d)) := HZ.out.keep (Below.refl _ _).drew
      have hev2 : ErV wr2.drew ev (er3 s p1 b1 d) := by
        generalize (er3 s p1 b1 d) = er at hev ⊢
        cases er with
        | none => exact hev
        | some e => exact hev
      have HE : Hid (ReadPost s w (.returned (.tuple #[.agg cs, ev])) (wr2.drew.setRow w.heap.size cs)) := HZd.out.done hev2 HGOT.out
      have hS0 : Row wr2.drew (w.heap.size + 1) #[.string s, .int .i64 p1, ev] 97 ∧ Row wr2.drew k5 cs 27 := ⟨hrow, HZ.out.row⟩
      have hS1 : Row (wr2.drew.setRow w.heap.size cs) (w.heap.size + 1) #[.string s, .int .i64 p1, ev] 97 ∧ Row (wr2.drew.setRow w.heap.size cs) k5 cs 27 := ⟨hS0.1.other (by omega), hS0.2.other hk5⟩
      have hRz : Row wr2.drew w.heap.size zDrv 27 := HZd.out.res
      have hci : (Tryd.prog.info? 27).map (·.size) = some cs.size := by rw [hcs]; exact info_drv
      clear hrow hev hev2 HZ HZd HGOT hk5 hk6
      go_wp2_with fail
      refine wp_region_permA [(false, 0), (false, 1), (false, 2), (false, 3), (false, 4), (true, 5), (false, 6)] (fun wx => Row wx (w.heap.size + 1) #[.string s, .int .i64 p1, ev] 97 ∧ Row wx k5 cs 27) (by kernel_rfl) (by kernel_rfl) hS0 ?_
      refine a_load_row (some 38) 27 _ rfl rfl rfl (by rfl) k5 rfl 27 cs _ (fun wx hw => hw.2) Tryd.underlying27 rfl hci ?_
      simp only [Act.put, List.setIfInBounds_toArray, List.set_cons_zero, List.set_cons_succ]
      refine a_move (some 39) _ rfl rfl rfl (by rfl) ?_
      simp only [Act.put, List.setIfInBounds_toArray, List.set_cons_zero, List.set_cons_succ]
      refine a_value (some 40) ?_ rfl rfl (by rfl) (fun w hw => ?_) ?_
      rotate_left
      · go_simp
        with_reducible rfl
      simp only [Act.put, List.setIfInBounds_toArray, List.set_cons_zero, List.set_cons_succ]
      refine a_value (some 41) ?_ rfl rfl (by rfl) (fun w hw => ?_) ?_
      rotate_left
      · go_simp
        with_reducible rfl
      simp only [Act.put, List.setIfInBounds_toArray, List.set_cons_zero, List.set_cons_succ]
      refine a_value (some 42) ?_ rfl rfl (by rfl) (fun w hw => ?_) ?_
      rotate_left
      · have c := (hw.1.cell 2).trans (rfl : _ = some (ev))
        go_simp
        with_reducible rfl
      simp only [Act.put, List.setIfInBounds_toArray, List.set_cons_zero, List.set_cons_succ]
      refine a_store_row 27 _ _ rfl rfl rfl (by rfl) w.heap.size cs rfl rfl 27 zDrv hRz hci (by rw [hcs]; rfl) hone hS1 ?_
      refine a_value (some 3) ?_ rfl rfl (by rfl) (fun w hw => ?_) ?_
      rotate_left
      · go_simp
        with_reducible rfl
      simp only [Act.put, List.setIfInBounds_toArray, List.set_cons_zero, List.set_cons_succ]
      refine a_done ?_
      try simp only [Exit.then]
      have HR3 : Hid (Row (wr2.drew.setRow w.heap.size cs) w.heap.size cs 27) := hRz.setRow
      clear hS0 hS1 hRz
      go_wp2
      refine bodyPost_ret (results_cell_row2 resultsRead _ _ w.heap.size 27 cs (0, 0) _ rfl HR3.out Tryd.underlying27 rfl hci) rfl ?_
      exact HRP.out _ _ HE.out
theorem read_ok (s : ByteArray) (w : World) (hT : ETab w) : Calls Tryd.prog 25 #[.string s] w fun r w' => ReadPost s w r w' := by
  by_cases hs : s.size ≤ 1048576
  · exact read_small s w hs hT
  · exact read_big s w (by omega)
end Go.Proofs.YtmpgfepkdhjibaaDoor
