/- My own work: the walk of Own: a derivation in memory of its own. -/
import Derived.Test.YtmpgfepkdhjibaaDoorOwnA
import Derived.Test.YtmpgfepkdhjibaaDoorRt
import Derived.Great.FillDense
namespace Go.Proofs.YtmpgfepkdhjibaaDoor
open Go.RowKit

abbrev zDrv : Array Value := #[.slice none 0 0, .slice none 0 0, .slice none 0 0, .string ⟨#[]⟩, .string ⟨#[]⟩, .slice none 0 0, .slice none 0 0]
/-- While a derivation is copied. -/
structure OwnI (w wx : World) (cs F : Array Value) : Prop where
  old : Below w.heap.size w wx
  box : Row wx w.heap.size cs 27
  res : Row wx (w.heap.size + 1) zDrv 27
  row : Row wx (w.heap.size + 1 + 1) F 27
theorem OwnI.size {w wx : World} {cs F : Array Value} (h : OwnI w wx cs F) : w.heap.size + 1 + 1 + 1 ≤ wx.heap.size := by have := h.row.lt; omega
theorem OwnI.next {w wx w' : World} {cs F : Array Value} (h : OwnI w wx cs F) (hb : Below wx.heap.size wx w') : OwnI w w' cs F :=
  ⟨below_next h.old hb, h.box.below hb h.box.lt, h.res.below hb h.res.lt, h.row.below hb h.row.lt⟩
theorem OwnI.set {w wx : World} {cs F : Array Value} (h : OwnI w wx cs F) (k : Nat) (v : Value) : OwnI w (wx.setCell ⟨w.heap.size + 1 + 1, k, none⟩ v) cs (F.setIfInBounds k v) :=
  ⟨h.old.setCell (by show w.heap.size ≤ w.heap.size + 1 + 1; omega) _, h.box.setCell_other (by omega) v, h.res.setCell_other (by omega) v, h.row.setCell v⟩
theorem own_set {w : World} {g k base n s : Nat} {e : TypeId} {v x : Value} {xs : List Value} (h : w.ownsRow base e s v n xs) (hg : g < base) : (w.setCell ⟨g, k, none⟩ x).ownsRow base e s v n xs :=
  ownsRow_keep h (fun q hq _ => heap_setCell_other w ⟨g, k, none⟩ q x (by have := (ownsRow_lt h q hq).2.1; simp; omega))
theorem own_shape {w : World} {base n s : Nat} {e : TypeId} {v : Value} {xs : List Value} (h : w.ownsRow base e s v n xs) : ∃ a c, v = .slice a n c := by
  obtain ⟨_, ⟨rfl, rfl⟩ | ⟨g, cap, cur, rfl, _⟩⟩ := h
  · exact ⟨_, _, rfl⟩
  · exact ⟨_, _, rfl⟩
theorem none_below {w w' : World} (h : w.grownBy w' (Value.ownBlock (.slice none 0 0))) : Below w.heap.size w w' := ⟨h.os, h.tape, h.output, h.size, fun k hk => h.block k hk (fun e => by cases e)⟩
theorem own_base {w : World} {base base' n s : Nat} {e : TypeId} {v : Value} {xs : List Value} (h : w.ownsRow base e s v n xs) (hb : base' ≤ base) : w.ownsRow base' e s v n xs := by
  obtain ⟨h1, h2 | ⟨g, cap, cur, e1, e2, e3⟩⟩ := h
  · exact ⟨h1, .inl h2⟩
  · exact ⟨h1, .inr ⟨g, cap, cur, e1, by omega, e3⟩⟩
theorem inV_snoc (l : List (ByteArray × List ByteArray)) (nl : List Value) (i : Nat) (h : i < l.length) (hn : nl.length = i) (v : Value) : inV (l.take (i + 1)) (nl ++ [v]) = inV (l.take i) nl ++ [.string l[i].1, v] := by
  unfold inV
  rw [List.take_succ_eq_append_getElem h, List.zip_append (by rw [List.length_take]; omega), List.flatMap_append]
  rfl
/-- While the inputs are copied. -/
structure OwnL (d : Dv) (w wx : World) (CS : Array Value) (x0 x2 x5 x6 iv : Value) (i : Nat) (nl : List Value) : Prop where
  inn : OwnI w wx CS #[x0, iv, x2, .string d.sys, .string d.bld, x5, x6]
  r0 : wx.ownsRow (w.heap.size + 1 + 1 + 1) 46 3 x0 d.outs.length (outV d.outs)
  r2 : wx.ownsRow (w.heap.size + 1 + 1 + 1) 9 1 x2 d.srcs.length (strV d.srcs)
  r5 : wx.ownsRow (w.heap.size + 1 + 1 + 1) 9 1 x5 d.args.length (strV d.args)
  r6 : wx.ownsRow (w.heap.size + 1 + 1 + 1) 60 2 x6 d.env.length (pairV d.env)
  ri : wx.ownsRow (w.heap.size + 1 + 1 + 1) 52 2 iv i (inV (d.ins.take i) nl)
  hn : nl.length = i
  each : ∀ j (h : j < d.ins.length) (h' : j < nl.length), wx.ownsRow (w.heap.size + 1 + 1 + 1) 9 1 nl[j] d.ins[j].2.length (strV d.ins[j].2)
theorem OwnL.next {d : Dv} {w wx w' : World} {CS : Array Value} {x0 x2 x5 x6 iv : Value} {i : Nat} {nl : List Value} (h : OwnL d w wx CS x0 x2 x5 x6 iv i nl) (hb : Below wx.heap.size wx w') : OwnL d w w' CS x0 x2 x5 x6 iv i nl :=
  ⟨h.inn.next hb, own_below h.r0 hb, own_below h.r2 hb, own_below h.r5 hb, own_below h.r6 hb, own_below h.ri hb, h.hn, fun j a b => own_below (h.each j a b) hb⟩
/-- One more input. -/
theorem OwnL.more {d : Dv} {w wx w' : World} {CS : Array Value} {x0 x2 x5 x6 iv iv' v : Value} {i : Nat} {nl : List Value} (h : OwnL d w wx CS x0 x2 x5 x6 iv i nl) (hi : i < d.ins.length) (hv : wx.ownsRow (w.heap.size + 1 + 1 + 1) 9 1 v d.ins[i].2.length (strV d.ins[i].2))
    (ho : w'.ownsRow (w.heap.size + 1 + 1 + 1) 52 2 iv' (i + 1) (inV (d.ins.take i) nl ++ [.string d.ins[i].1, v])) (hg : wx.grownBy w' iv.ownBlock) :
    OwnI w w' CS #[x0, iv, x2, .string d.sys, .string d.bld, x5, x6] ∧ OwnL d w (w'.setCell ⟨w.heap.size + 1 + 1, 1, none⟩ iv') CS x0 x2 x5 x6 iv' (i + 1) (nl ++ [v]) := by
  have hsz := h.inn.size
  have hI : OwnI w w' CS #[x0, iv, x2, .string d.sys, .string d.bld, x5, x6] :=
    ⟨h.inn.old.trans (own_grown (own_base h.ri (show w.heap.size ≤ w.heap.size + 1 + 1 + 1 by omega)) (Below.refl _ _) (by omega) hg), row_grown h.ri hg h.inn.box (by decide), row_grown h.ri hg h.inn.res (by decide), row_grown h.ri hg h.inn.row (by decide)⟩
  have hs : w.heap.size + 1 + 1 < w.heap.size + 1 + 1 + 1 := by omega
  refine ⟨hI, hI.set 1 iv', own_set (ownsRow_grown h.r0 h.ri hg (by decide)) hs, own_set (ownsRow_grown h.r2 h.ri hg (by decide)) hs, own_set (ownsRow_grown h.r5 h.ri hg (by decide)) hs, own_set (ownsRow_grown h.r6 h.ri hg (by decide)) hs, own_set (by rw [inV_snoc d.ins nl i hi h.hn v]; exact ho) hs, by rw [List.length_append, h.hn]; rfl, fun j a b => own_set ?_ hs⟩
  by_cases hj : j < nl.length
  · rw [List.getElem_append_left hj]
    exact ownsRow_grown (h.each j a hj) h.ri hg (by decide)
  · have hj2 : j = i := by
      rw [List.length_append] at b
      have := h.hn
      simp at b
      omega
    subst hj2
    rw [List.getElem_append_right (by omega)]
    simp only [h.hn, Nat.sub_self, List.getElem_cons_zero]
    exact ownsRow_grown hv h.ri hg (by decide)
/-- All are copied. -/
theorem OwnL.done {d : Dv} {w wx : World} {CS : Array Value} {x0 x2 x5 x6 iv : Value} {nl : List Value} (h : OwnL d w wx CS x0 x2 x5 x6 iv d.ins.length nl) : DrvAt wx d #[x0, iv, x2, .string d.sys, .string d.bld, x5, x6] := by
  have hi := SlAt.of h.ri
  rw [List.take_length] at hi
  exact ⟨x0, iv, x2, x5, x6, rfl, SlAt.of h.r0, ⟨nl, h.hn, hi, fun j a b => SlAt.of (h.each j a b)⟩, SlAt.of h.r2, SlAt.of h.r5, SlAt.of h.r6⟩
theorem below_setRow {B g : Nat} {w : World} (h : B ≤ g) (C : Array Value) : Below B w (w.setRow g C) := ⟨rfl, rfl, rfl, by simp [World.setRow], fun k hk => setRow_other w g k C (by omega)⟩
theorem own_setRow {w : World} {g base n s : Nat} {e : TypeId} {v : Value} {xs : List Value} {C : Array Value} (h : w.ownsRow base e s v n xs) (hg : g < base) : (w.setRow g C).ownsRow base e s v n xs :=
  ownsRow_keep h (fun q hq _ => setRow_other w g q C (by have := (ownsRow_lt h q hq).2.1; omega))
/-- The result is written. -/
theorem OwnL.stored {d : Dv} {w wx : World} {CS : Array Value} {x0 x2 x5 x6 iv : Value} {nl : List Value} (h : OwnL d w wx CS x0 x2 x5 x6 iv d.ins.length nl) (C : Array Value) : DrvAt (wx.setRow (w.heap.size + 1) C) d #[x0, iv, x2, .string d.sys, .string d.bld, x5, x6] := by
  have hs : w.heap.size + 1 < w.heap.size + 1 + 1 + 1 := by omega
  have hi := SlAt.of (own_setRow (C := C) h.ri hs)
  rw [List.take_length] at hi
  exact ⟨x0, iv, x2, x5, x6, rfl, SlAt.of (own_setRow h.r0 hs), ⟨nl, h.hn, hi, fun j a b => SlAt.of (own_setRow (h.each j a b) hs)⟩, SlAt.of (own_setRow h.r2 hs), SlAt.of (own_setRow h.r5 hs), SlAt.of (own_setRow h.r6 hs)⟩
theorem drv_one (a0 : Option Addr) (n0 c0 : Nat) (a1 : Option Addr) (n1 c1 : Nat) (a2 : Option Addr) (n2 c2 : Nat) (s b : ByteArray) (a5 : Option Addr) (n5 c5 : Nat) (a6 : Option Addr) (n6 c6 : Nat) : (#[.slice a0 n0 c0, .slice a1 n1 c1, .slice a2 n2 c2, .string s, .string b, .slice a5 n5 c5, .slice a6 n6 c6] : Array Value).all (·.oneCell') = true := by simp [Value.oneCell']
theorem run_one_in (w : World) (p : ByteArray) (v : Value) (_hv : v.oneCell' = true) : (Instr.buildSlice 23 1 #[(0, .agg #[.string p, v])]).run Tryd.prog w = .ok (.slice (some ⟨w.heap.size, 0, none⟩) 1 1) (w.alloc (.cells #[.string p, v] 52)) := by
  obtain ⟨i0, hi, hz0, hz1, hz2⟩ := info_parts info_in
  refine run_buildSlice w 23 52 1 _ _ i0 _ Tryd.underlying23 hi hz0 (by rw [hz1]; decide) (by rw [hz1]; decide) ?_
  have h := Great.fill_whole (s := 2) (by decide) [.agg #[.string p, v]] ((Array.range (1 * i0.size)).map ((Value.agg #[.string ⟨#[]⟩, .slice none 0 0]).cells[· % (Value.agg #[.string ⟨#[]⟩, .slice none 0 0]).cells.size]!)) (fun x hx => by simp at hx; subst hx; rfl) (by simp [hz1])
  rw [hz1] at h ⊢
  simpa [Value.cells] using h
theorem run_none (w : World) : (Instr.buildSlice 24 0 #[]).run Tryd.prog w = .ok (.slice (some ⟨w.heap.size, 0, none⟩) 0 0) (w.alloc (.cells #[] 9)) := by kernel_rfl
theorem slat_new (w : World) (C : List Value) (e : TypeId) (n : Nat) (hn : n ≤ 9223372036854775807) : SlAt (w.alloc (.cells C.toArray e)) (.slice (some ⟨w.heap.size, 0, none⟩) n n) n C := by
  refine ⟨⟨_, n, w.heap.size, 0, rfl, Nat.le_refl _, hn, fun _ => rfl, fun i x hx => ?_⟩, fun n' c' e => by simp at e⟩
  rw [Nat.zero_add, (Row.new w _ e).cell i]
  simpa using hx
theorem resultsOwn : Tryd.f8.results = #[.cell 2 27] := by kernel_rfl
theorem alloc_size (w : World) (o : Obj) : (w.alloc o).heap.size = w.heap.size + 1 := by simp
section
variable {w : World} {ops : Array Oper} {rest : List Oper} {o : Oper} {a : Act} {Q : Exit → Act → World → Prop}
theorem ap_sl (hgd : o.guard = none) (s x : Operand) (t : TypeId) (ho : o.op = .call { callee := .builtin .append, args := #[s, x], argTypes := #[t, t] }) (e : TypeId) (z : Value) (size bytes : Nat) (ht : Tryd.prog.underlying t = some (.slice e))
    (hi : (Tryd.prog.info? e).map (fun i => (i.zero, i.size, i.bytes)) = some (some z, size, bytes)) (hzs : z.cells.size = size) (hsz : 0 < size) (hby : 1 ≤ bytes)
    (base : Nat) (v : Value) (n : Nat) (xs : List Value) (hs : a.eval s = v) (hown : w.ownsRow base e size v n xs) (xv : Value) (m : Nat) (C : List Value) (hx : a.eval x = xv) (hsl : SlAt w xv m C) (hC : C.length = m * size) (h1 : ∀ u ∈ C, u.oneCell' = true)
    (hb : (n + m) * bytes ≤ 140737488355328) (hbase : base ≤ w.heap.size) (h : ∀ v' w', w'.ownsRow base e size v' (n + m) (xs ++ C) → w.grownBy w' v.ownBlock → wpList Tryd.prog ops Q rest (a.put o.dst v') w') : wpList Tryd.prog ops Q (o :: rest) a w := by
  obtain ⟨v', w', hr, r1, r2⟩ := run_append_sl t o.type e z size bytes ht hi hzs hsz base v n xs hown xv m C hsl hC h1 hb hby hbase
  exact Lib.wpList_append_run w hgd s x t t ho v xv hs hx v' w' hr (h v' w' r1 r2)
end
set_option maxRecDepth 20000 in
set_option maxHeartbeats 4000000 in
theorem own_ok (d : Dv) (cs : Array Value) (w : World) (h : DrvAt w d cs) (hf : Few d) : Calls Tryd.prog 8 #[.agg cs] w fun e w' => ∃ cs', e = .returned (.agg cs') ∧ DrvAt w' d cs' ∧ Below w.heap.size w w' := by
  obtain ⟨vo, vi, vs, va, ve, rfl, ho, hi, hs, ha, he⟩ := h.ex
  have HO : Hid (∀ wx, Below w.heap.size w wx → SlAt wx vo d.outs.length (outV d.outs)) := fun wx hb => ho.keep hb
  have HS : Hid (∀ wx, Below w.heap.size w wx → SlAt wx vs d.srcs.length (strV d.srcs)) := fun wx hb => hs.keep hb
  have HA : Hid (∀ wx, Below w.heap.size w wx → SlAt wx va d.args.length (strV d.args)) := fun wx hb => ha.keep hb
  have HE : Hid (∀ wx, Below w.heap.size w wx → SlAt wx ve d.env.length (pairV d.env)) := fun wx hb => he.keep hb
  have HF : Hid (Few d) := hf
  obtain ⟨ns, ia, ic, b, off, _, _, rfl, i1, i2, i3, hin⟩ := hi.cells
  have HIN : Hid _ := hin
  have hi3 : d.ins.length = 0 ∨ ia = some ⟨b, off, none⟩ := by
    by_cases hl : d.ins.length = 0
    · exact .inl hl
    · exact .inr (i3 (by omega))
  clear h ho hi hs ha he hin hf i3
  obtain ⟨CS, hCS⟩ : ∃ CS : Array Value, CS = #[vo, .slice ia d.ins.length ic, vs, .string d.sys, .string d.bld, va, ve] := ⟨_, rfl⟩
  have hI0 : OwnI w (((w.alloc (.cells #[vo, .slice ia d.ins.length ic, vs, .string d.sys, .string d.bld, va, ve] 27)).alloc (.cells zDrv 27)).alloc (.cells #[.slice none 0 0, .slice none 0 0, .slice none 0 0, .string d.sys, .string d.bld, .slice none 0 0, .slice none 0 0] 27)) CS #[.slice none 0 0, .slice none 0 0, .slice none 0 0, .string d.sys, .string d.bld, .slice none 0 0, .slice none 0 0] := by
    subst hCS
    refine ⟨below_new (below_new (below_new (Below.refl _ _) _) _) _, ((Row.new w _ _).alloc _).alloc _, ?_, ?_⟩
    · have := (Row.new (w.alloc (.cells #[vo, .slice ia d.ins.length ic, vs, .string d.sys, .string d.bld, va, ve] 27)) zDrv 27).alloc (.cells #[.slice none 0 0, .slice none 0 0, .slice none 0 0, .string d.sys, .string d.bld, .slice none 0 0, .slice none 0 0] 27)
      rw [alloc_size] at this
      exact this
    · have := Row.new ((w.alloc (.cells #[vo, .slice ia d.ins.length ic, vs, .string d.sys, .string d.bld, va, ve] 27)).alloc (.cells zDrv 27)) #[.slice none 0 0, .slice none 0 0, .slice none 0 0, .string d.sys, .string d.bld, .slice none 0 0, .slice none 0 0] 27
      rw [alloc_size, alloc_size] at this
      exact this
  go_enter Tryd.func8, Tryd.ntmps8
  have hsl0 := HO.out _ hI0.old
  have hB0 : w.heap.size + 1 + 1 + 1 ≤ _ := hI0.size
  have HI0 : Hid _ := hI0
  go_wp2_with (refine ap_sl rfl _ _ 22 rfl 46 _ 3 48 Tryd.underlying22 info_out rfl (by omega) (by omega) (w.heap.size + 1 + 1 + 1) _ 0 [] rfl (World.ownsRow_nil _ _ _ _) _ d.outs.length (outV d.outs) rfl hsl0 (by rw [outV_len]; omega) (outV_one _) (by have := HF.out.outs; omega) hB0 ?_)
  intro x0 wa0 ho0 hg0
  obtain ⟨p0, q0, rfl⟩ := own_shape ho0
  have hb0 := none_below hg0
  have hJ0 := HI0.out.next hb0
  have hc0 := (hJ0.row.cell 0).trans (show _ = some (Value.slice none 0 0) from rfl)
  have hz0 := hJ0.row.frozen 0
  have HK0 : Hid (OwnI w (wa0.setCell ⟨w.heap.size + 1 + 1, 0, none⟩ (.slice p0 d.outs.length q0)) CS #[.slice p0 d.outs.length q0, .slice none 0 0, .slice none 0 0, .string d.sys, .string d.bld, .slice none 0 0, .slice none 0 0]) := hJ0.set 0 _
  have HU0_0 : Hid ((wa0.setCell ⟨w.heap.size + 1 + 1, 0, none⟩ (.slice p0 d.outs.length q0)).ownsRow (w.heap.size + 1 + 1 + 1) 46 3 (.slice p0 d.outs.length q0) d.outs.length (outV d.outs)) := own_set ho0 (by omega)
  clear hsl0 hB0 hb0 hg0 hJ0 ho0 HI0 hI0
  generalize hwb0 : wa0.setCell ⟨w.heap.size + 1 + 1, 0, none⟩ (.slice p0 d.outs.length q0) = wb0 at HK0 HU0_0
  have HV0 : Hid (wb0.ownsRow (w.heap.size + 1 + 1 + 1) 46 3 (.slice p0 d.outs.length q0) d.outs.length (outV d.outs)) := HU0_0
  have HI1 : Hid (OwnI w wb0 CS #[.slice p0 d.outs.length q0, .slice none 0 0, .slice none 0 0, .string d.sys, .string d.bld, .slice none 0 0, .slice none 0 0]) := HK0
  clear HK0 HU0_0
  have hsl1 := HS.out _ HI1.out.old
  have hB1 : w.heap.size + 1 + 1 + 1 ≤ _ := HI1.out.size
  have cD1 := (HI1.out.box.cell 2).trans (show CS[2]? = some vs by rw [hCS]; rfl)
  have cO1 := (HI1.out.row.cell 2).trans (show _ = some (Value.slice none 0 0) from rfl)
  go_wp2_with (refine ap_sl rfl _ _ 24 rfl 9 _ 1 16 Tryd.underlying24 info_str rfl (by omega) (by omega) (w.heap.size + 1 + 1 + 1) _ 0 [] rfl (World.ownsRow_nil _ _ _ _) _ d.srcs.length (strV d.srcs) rfl hsl1 (by rw [strV_len]; omega) (strV_one _) (by have := HF.out.srcs; omega) hB1 ?_)
  intro x1 wa1 ho1 hg1
  obtain ⟨p1, q1, rfl⟩ := own_shape ho1
  have hb1 := none_below hg1
  have hJ1 := HI1.out.next hb1
  have HW0_1 : Hid _ := own_below HV0.out hb1
  have hc1 := (hJ1.row.cell 2).trans (show _ = some (Value.slice none 0 0) from rfl)
  have hz1 := hJ1.row.frozen 2
  have HK1 : Hid (OwnI w (wa1.setCell ⟨w.heap.size + 1 + 1, 2, none⟩ (.slice p1 d.srcs.length q1)) CS #[.slice p0 d.outs.length q0, .slice none 0 0, .slice p1 d.srcs.length q1, .string d.sys, .string d.bld, .slice none 0 0, .slice none 0 0]) := hJ1.set 2 _
  have HU0_1 : Hid ((wa1.setCell ⟨w.heap.size + 1 + 1, 2, none⟩ (.slice p1 d.srcs.length q1)).ownsRow (w.heap.size + 1 + 1 + 1) 46 3 (.slice p0 d.outs.length q0) d.outs.length (outV d.outs)) := own_set HW0_1.out (by omega)
  have HU1_1 : Hid ((wa1.setCell ⟨w.heap.size + 1 + 1, 2, none⟩ (.slice p1 d.srcs.length q1)).ownsRow (w.heap.size + 1 + 1 + 1) 9 1 (.slice p1 d.srcs.length q1) d.srcs.length (strV d.srcs)) := own_set ho1 (by omega)
  clear hsl1 hB1 hb1 hg1 hJ1 ho1 cD1 cO1 HI1 HW0_1 HV0
  generalize hwb1 : wa1.setCell ⟨w.heap.size + 1 + 1, 2, none⟩ (.slice p1 d.srcs.length q1) = wb1 at HK1 HU0_1 HU1_1
  have HV0 : Hid (wb1.ownsRow (w.heap.size + 1 + 1 + 1) 46 3 (.slice p0 d.outs.length q0) d.outs.length (outV d.outs)) := HU0_1
  have HV1 : Hid (wb1.ownsRow (w.heap.size + 1 + 1 + 1) 9 1 (.slice p1 d.srcs.length q1) d.srcs.length (strV d.srcs)) := HU1_1
  have HI2 : Hid (OwnI w wb1 CS #[.slice p0 d.outs.length q0, .slice none 0 0, .slice p1 d.srcs.length q1, .string d.sys, .string d.bld, .slice none 0 0, .slice none 0 0]) := HK1
  clear HK1 HU0_1 HU1_1
  have hsl2 := HA.out _ HI2.out.old
  have hB2 : w.heap.size + 1 + 1 + 1 ≤ _ := HI2.out.size
  have cD2 := (HI2.out.box.cell 5).trans (show CS[5]? = some va by rw [hCS]; rfl)
  have cO2 := (HI2.out.row.cell 5).trans (show _ = some (Value.slice none 0 0) from rfl)
  go_wp2_with (refine ap_sl rfl _ _ 24 rfl 9 _ 1 16 Tryd.underlying24 info_str rfl (by omega) (by omega) (w.heap.size + 1 + 1 + 1) _ 0 [] rfl (World.ownsRow_nil _ _ _ _) _ d.args.length (strV d.args) rfl hsl2 (by rw [strV_len]; omega) (strV_one _) (by have := HF.out.args; omega) hB2 ?_)
  intro x2 wa2 ho2 hg2
  obtain ⟨p2, q2, rfl⟩ := own_shape ho2
  have hb2 := none_below hg2
  have hJ2 := HI2.out.next hb2
  have HW0_2 : Hid _ := own_below HV0.out hb2
  have HW1_2 : Hid _ := own_below HV1.out hb2
  have hc2 := (hJ2.row.cell 5).trans (show _ = some (Value.slice none 0 0) from rfl)
  have hz2 := hJ2.row.frozen 5
  have HK2 : Hid (OwnI w (wa2.setCell ⟨w.heap.size + 1 + 1, 5, none⟩ (.slice p2 d.args.length q2)) CS #[.slice p0 d.outs.length q0, .slice none 0 0, .slice p1 d.srcs.length q1, .string d.sys, .string d.bld, .slice p2 d.args.length q2, .slice none 0 0]) := hJ2.set 5 _
  have HU0_2 : Hid ((wa2.setCell ⟨w.heap.size + 1 + 1, 5, none⟩ (.slice p2 d.args.length q2)).ownsRow (w.heap.size + 1 + 1 + 1) 46 3 (.slice p0 d.outs.length q0) d.outs.length (outV d.outs)) := own_set HW0_2.out (by omega)
  have HU1_2 : Hid ((wa2.setCell ⟨w.heap.size + 1 + 1, 5, none⟩ (.slice p2 d.args.length q2)).ownsRow (w.heap.size + 1 + 1 + 1) 9 1 (.slice p1 d.srcs.length q1) d.srcs.length (strV d.srcs)) := own_set HW1_2.out (by omega)
  have HU2_2 : Hid ((wa2.setCell ⟨w.heap.size + 1 + 1, 5, none⟩ (.slice p2 d.args.length q2)).ownsRow (w.heap.size + 1 + 1 + 1) 9 1 (.slice p2 d.args.length q2) d.args.length (strV d.args)) := own_set ho2 (by omega)
  clear hsl2 hB2 hb2 hg2 hJ2 ho2 cD2 cO2 HI2 HW0_2 HV0 HW1_2 HV1
  generalize hwb2 : wa2.setCell ⟨w.heap.size + 1 + 1, 5, none⟩ (.slice p2 d.args.length q2) = wb2 at HK2 HU0_2 HU1_2 HU2_2
  have HV0 : Hid (wb2.ownsRow (w.heap.size + 1 + 1 + 1) 46 3 (.slice p0 d.outs.length q0) d.outs.length (outV d.outs)) := HU0_2
  have HV1 : Hid (wb2.ownsRow (w.heap.size + 1 + 1 + 1) 9 1 (.slice p1 d.srcs.length q1) d.srcs.length (strV d.srcs)) := HU1_2
  have HV2 : Hid (wb2.ownsRow (w.heap.size + 1 + 1 + 1) 9 1 (.slice p2 d.args.length q2) d.args.length (strV d.args)) := HU2_2
  have HI3 : Hid (OwnI w wb2 CS #[.slice p0 d.outs.length q0, .slice none 0 0, .slice p1 d.srcs.length q1, .string d.sys, .string d.bld, .slice p2 d.args.length q2, .slice none 0 0]) := HK2
  clear HK2 HU0_2 HU1_2 HU2_2
  have hsl3 := HE.out _ HI3.out.old
  have hB3 : w.heap.size + 1 + 1 + 1 ≤ _ := HI3.out.size
  have cD3 := (HI3.out.box.cell 6).trans (show CS[6]? = some ve by rw [hCS]; rfl)
  have cO3 := (HI3.out.row.cell 6).trans (show _ = some (Value.slice none 0 0) from rfl)
  go_wp2_with (refine ap_sl rfl _ _ 25 rfl 60 _ 2 32 Tryd.underlying25 info_pair rfl (by omega) (by omega) (w.heap.size + 1 + 1 + 1) _ 0 [] rfl (World.ownsRow_nil _ _ _ _) _ d.env.length (pairV d.env) rfl hsl3 (by rw [pairV_len]; omega) (pairV_one _) (by have := HF.out.env; omega) hB3 ?_)
  intro x3 wa3 ho3 hg3
  obtain ⟨p3, q3, rfl⟩ := own_shape ho3
  have hb3 := none_below hg3
  have hJ3 := HI3.out.next hb3
  have HW0_3 : Hid _ := own_below HV0.out hb3
  have HW1_3 : Hid _ := own_below HV1.out hb3
  have HW2_3 : Hid _ := own_below HV2.out hb3
  have hc3 := (hJ3.row.cell 6).trans (show _ = some (Value.slice none 0 0) from rfl)
  have hz3 := hJ3.row.frozen 6
  have HK3 : Hid (OwnI w (wa3.setCell ⟨w.heap.size + 1 + 1, 6, none⟩ (.slice p3 d.env.length q3)) CS #[.slice p0 d.outs.length q0, .slice none 0 0, .slice p1 d.srcs.length q1, .string d.sys, .string d.bld, .slice p2 d.args.length q2, .slice p3 d.env.length q3]) := hJ3.set 6 _
  have HU0_3 : Hid ((wa3.setCell ⟨w.heap.size + 1 + 1, 6, none⟩ (.slice p3 d.env.length q3)).ownsRow (w.heap.size + 1 + 1 + 1) 46 3 (.slice p0 d.outs.length q0) d.outs.length (outV d.outs)) := own_set HW0_3.out (by omega)
  have HU1_3 : Hid ((wa3.setCell ⟨w.heap.size + 1 + 1, 6, none⟩ (.slice p3 d.env.length q3)).ownsRow (w.heap.size + 1 + 1 + 1) 9 1 (.slice p1 d.srcs.length q1) d.srcs.length (strV d.srcs)) := own_set HW1_3.out (by omega)
  have HU2_3 : Hid ((wa3.setCell ⟨w.heap.size + 1 + 1, 6, none⟩ (.slice p3 d.env.length q3)).ownsRow (w.heap.size + 1 + 1 + 1) 9 1 (.slice p2 d.args.length q2) d.args.length (strV d.args)) := own_set HW2_3.out (by omega)
  have HU3_3 : Hid ((wa3.setCell ⟨w.heap.size + 1 + 1, 6, none⟩ (.slice p3 d.env.length q3)).ownsRow (w.heap.size + 1 + 1 + 1) 60 2 (.slice p3 d.env.length q3) d.env.length (pairV d.env)) := own_set ho3 (by omega)
  clear hsl3 hB3 hb3 hg3 hJ3 ho3 cD3 cO3 HI3 HW0_3 HV0 HW1_3 HV1 HW2_3 HV2
  generalize hwb3 : wa3.setCell ⟨w.heap.size + 1 + 1, 6, none⟩ (.slice p3 d.env.length q3) = wb3 at HK3 HU0_3 HU1_3 HU2_3 HU3_3
  have HV0 : Hid (wb3.ownsRow (w.heap.size + 1 + 1 + 1) 46 3 (.slice p0 d.outs.length q0) d.outs.length (outV d.outs)) := HU0_3
  have HV1 : Hid (wb3.ownsRow (w.heap.size + 1 + 1 + 1) 9 1 (.slice p1 d.srcs.length q1) d.srcs.length (strV d.srcs)) := HU1_3
  have HV2 : Hid (wb3.ownsRow (w.heap.size + 1 + 1 + 1) 9 1 (.slice p2 d.args.length q2) d.args.length (strV d.args)) := HU2_3
  have HV3 : Hid (wb3.ownsRow (w.heap.size + 1 + 1 + 1) 60 2 (.slice p3 d.env.length q3) d.env.length (pairV d.env)) := HU3_3
  have HI4 : Hid (OwnI w wb3 CS #[.slice p0 d.outs.length q0, .slice none 0 0, .slice p1 d.srcs.length q1, .string d.sys, .string d.bld, .slice p2 d.args.length q2, .slice p3 d.env.length q3]) := HK3
  clear HK3 HU0_3 HU1_3 HU2_3 HU3_3
  have HL0 : Hid (OwnL d w wb3 CS (.slice p0 d.outs.length q0) (.slice p1 d.srcs.length q1) (.slice p2 d.args.length q2) (.slice p3 d.env.length q3) (.slice none 0 0) 0 []) := ⟨HI4.out, HV0.out, HV1.out, HV2.out, HV3.out, World.ownsRow_nil _ _ _ _, rfl, fun j _ h => by simp at h⟩
  have cB : ∀ wx, Row wx w.heap.size CS 27 → wx.cell? ⟨w.heap.size, 1, none⟩ = some (.slice ia d.ins.length ic) := fun wx hr => (hr.cell 1).trans (show CS[1]? = some _ by rw [hCS]; rfl)
  have HCB : Hid _ := cB
  have cb3 := cB wb3 HI4.out.box
  clear cB HI4 HV0 HV1 HV2 HV3 HO HS HA HE hCS
  go_wp2
  go_loopw [4] (fun kv wx => ∃ (i : Nat) (ka : Option Addr) (kc : Nat) (nl : List Value), kv = .int .i64 i ∧ i ≤ d.ins.length ∧ Hid (OwnL d w wx CS (.slice p0 d.outs.length q0) (.slice p1 d.srcs.length q1) (.slice p2 d.args.length q2) (.slice p3 d.env.length q3) (.slice ka i kc) i nl)) (fun kv _ => d.ins.length - (intOf kv).toNat)
  case atStart => exact ⟨0, none, 0, [], rfl, by omega, HL0⟩
  case round =>
    clear HL0 cb3
    obtain ⟨i, ka, kc, nl, rfl, hi1, HL⟩ := hrel
    have cb := HCB.out _ HL.out.inn.box
    by_cases hlt : i < d.ins.length
    · have hlt' : (i : Int) < (d.ins.length : Int) := by omega
      obtain rfl := hi3.resolve_left (by omega)
      obtain ⟨n, e0, e1, hn⟩ := HIN.out wr HL.out.inn.old i hlt
      have HS0 : Hid (OwnI w wr.drew CS #[.slice p0 d.outs.length q0, .slice ka i kc, .slice p1 d.srcs.length q1, .string d.sys, .string d.bld, .slice p2 d.args.length q2, .slice p3 d.env.length q3]) := HL.out.inn.next (Below.refl _ _).drew
      have HCL : Hid (∀ wx, OwnI w wx CS #[.slice p0 d.outs.length q0, .slice ka i kc, .slice p1 d.srcs.length q1, .string d.sys, .string d.bld, .slice p2 d.args.length q2, .slice p3 d.env.length q3] → wx.cell? ⟨w.heap.size + 1 + 1, 1, none⟩ = some (.slice ka i kc)) := fun wx h => h.row.cell 1
      have HCI : Hid (∀ wx, OwnI w wx CS #[.slice p0 d.outs.length q0, .slice ka i kc, .slice p1 d.srcs.length q1, .string d.sys, .string d.bld, .slice p2 d.args.length q2, .slice p3 d.env.length q3] → wx.cell? ⟨b, off + i * 2, none⟩ = some (.string d.ins[i].1) ∧ wx.cell? ⟨b, off + i * 2 + 1, none⟩ = some n) := fun wx h => by
        obtain ⟨n', f0, f1, _⟩ := HIN.out wx h.old i hlt
        have hbl : b < w.heap.size ∨ ¬ b < w.heap.size := Nat.lt_or_ge _ _ |>.imp id (by omega)
        obtain ⟨n2, g0, g1, _⟩ := HIN.out w (Below.refl _ _) i hlt
        have hb := World.block_lt_of_cell? w _ g1
        have k1 := (World.cell?_of_block (w := w) (h.old.block b hb)).trans g1
        have k2 := (World.cell?_of_block (w := w) (HL.out.inn.old.block b hb)).trans g1
        have : n2 = n := Option.some.inj (k2.symm.trans e1)
        subst this
        exact ⟨f0, k1⟩
      have HN : Hid (SlAt wr n d.ins[i].2.length (strV d.ins[i].2)) := hn
      obtain ⟨na, nc, rfl, n1, n2⟩ := hn.shape
      clear hn e0 e1
      have HND : Hid (SlAt wr.drew (.slice na d.ins[i].2.length nc) d.ins[i].2.length (strV d.ins[i].2)) := HN.out.keep (Below.refl _ _).drew
      have HFE : Hid (d.ins[i].2.length * 16 ≤ 140737488355328) := HF.out.each _ (List.getElem_mem hlt)
      have HFI : Hid (d.ins.length * 40 ≤ 140737488355328) := HF.out.ins
      have HD : Hid (OwnL d w wr.drew CS (.slice p0 d.outs.length q0) (.slice p1 d.srcs.length q1) (.slice p2 d.args.length q2) (.slice p3 d.env.length q3) (.slice ka i kc) i nl) := HL.out.next (Below.refl _ _).drew
      go_wp2_with fail
      refine wp_region_perm [(false, 0), (false, 1), (false, 2), (false, 3), (false, 4), (false, 5), (false, 6), (false, 7), (false, 9), (false, 10), (false, 11), (false, 12), (false, 13), (false, 14), (true, 8), (true, 15), (false, 16), (true, 17), (true, 18), (false, 19), (true, 20)] (fun wx => OwnI w wx CS #[.slice p0 d.outs.length q0, .slice ka i kc, .slice p1 d.srcs.length q1, .string d.sys, .string d.bld, .slice p2 d.args.length q2, .slice p3 d.env.length q3]) (by kernel_rfl) (by kernel_rfl) HS0.out ?_
      refine p_value (some 41) ?_ rfl rfl (by rfl) (fun w hw => ?_) ?_
      rotate_left
      · go_simp
        with_reducible rfl
      simp only [Act.put, List.setIfInBounds_toArray, List.set_cons_zero, List.set_cons_succ]
      refine p_value (some 42) ?_ rfl rfl (by rfl) (fun w hw => ?_) ?_
      rotate_left
      · have c := HCL.out _ hw
        go_simp
        with_reducible rfl
      simp only [Act.put, List.setIfInBounds_toArray, List.set_cons_zero, List.set_cons_succ]
      refine p_value (some 43) ?_ rfl rfl (by rfl) (fun w hw => ?_) ?_
      rotate_left
      · go_simp
        with_reducible rfl
      simp only [Act.put, List.setIfInBounds_toArray, List.set_cons_zero, List.set_cons_succ]
      refine p_value (some 44) ?_ rfl rfl (by rfl) (fun w hw => ?_) ?_
      rotate_left
      · have c := HCB.out _ hw.box
        go_simp
        with_reducible rfl
      simp only [Act.put, List.setIfInBounds_toArray, List.set_cons_zero, List.set_cons_succ]
      refine p_move (some 45) _ rfl rfl rfl (by rfl) ?_
      simp only [Act.put, List.setIfInBounds_toArray, List.set_cons_zero, List.set_cons_succ]
      refine p_value (some 46) ?_ rfl rfl (by rfl) (fun w hw => ?_) ?_
      rotate_left
      · go_simp
        with_reducible rfl
      simp only [Act.put, List.setIfInBounds_toArray, List.set_cons_zero, List.set_cons_succ]
      refine p_value (some 47) ?_ rfl rfl (by rfl) (fun w hw => ?_) ?_
      rotate_left
      · go_simp
        with_reducible rfl
      simp only [Act.put, List.setIfInBounds_toArray, List.set_cons_zero, List.set_cons_succ]
      refine p_value (some 48) ?_ rfl rfl (by rfl) (fun w hw => ?_) ?_
      rotate_left
      · obtain ⟨c0, c1⟩ := HCI.out _ hw
        go_simp
        with_reducible rfl
      simp only [Act.put, List.setIfInBounds_toArray, List.set_cons_zero, List.set_cons_succ]
      refine p_value (some 50) ?_ rfl rfl (by rfl) (fun w hw => ?_) ?_
      rotate_left
      · go_simp
        with_reducible rfl
      simp only [Act.put, List.setIfInBounds_toArray, List.set_cons_zero, List.set_cons_succ]
      refine p_value (some 51) ?_ rfl rfl (by rfl) (fun w hw => ?_) ?_
      rotate_left
      · have c := HCB.out _ hw.box
        go_simp
        with_reducible rfl
      simp only [Act.put, List.setIfInBounds_toArray, List.set_cons_zero, List.set_cons_succ]
      refine p_move (some 52) _ rfl rfl rfl (by rfl) ?_
      simp only [Act.put, List.setIfInBounds_toArray, List.set_cons_zero, List.set_cons_succ]
      refine p_value (some 53) ?_ rfl rfl (by rfl) (fun w hw => ?_) ?_
      rotate_left
      · go_simp
        with_reducible rfl
      simp only [Act.put, List.setIfInBounds_toArray, List.set_cons_zero, List.set_cons_succ]
      refine p_value (some 54) ?_ rfl rfl (by rfl) (fun w hw => ?_) ?_
      rotate_left
      · go_simp
        with_reducible rfl
      simp only [Act.put, List.setIfInBounds_toArray, List.set_cons_zero, List.set_cons_succ]
      refine p_value (some 55) ?_ rfl rfl (by rfl) (fun w hw => ?_) ?_
      rotate_left
      · obtain ⟨c0, c1⟩ := HCI.out _ hw
        go_simp
        with_reducible rfl
      simp only [Act.put, List.setIfInBounds_toArray, List.set_cons_zero, List.set_cons_succ]
      clear HS0 HL HN HIN
      generalize wr.drew = wD at *
      generalize hnm : d.ins[i].2 = nm at *
      generalize hpt : d.ins[i].1 = pt at *
      have hszD := HD.out.inn.size
      refine p_alone (some 49) (.slice (some ⟨wD.heap.size, 0, none⟩) 0 0) (wD.alloc (.cells #[] 9)) rfl rfl (by rfl) (by have := run_none wD; go_simp) (fun _ => HD.out.inn.next (below_new (Below.refl _ _) _)) ?_
      simp only [Act.put, List.setIfInBounds_toArray, List.set_cons_zero, List.set_cons_succ]
      obtain ⟨v1, w1, hr1, ho1, hg1⟩ := run_append_sl (w := wD.alloc (.cells #[] 9)) 24 24 9 _ 1 16 Tryd.underlying24 info_str rfl (by omega) wD.heap.size _ 0 [] (own_empty wD 9 1 _ (Nat.le_refl _)) (.slice na nm.length nc) nm.length (strV nm) (HND.out.keep (below_new (Below.refl _ _) _)) (by rw [strV_len]; omega) (strV_one _) (by have := HFE.out; omega) (by omega) (by simp)
      have hb1 : Below wD.heap.size wD w1 := own_grown (own_empty wD 9 1 _ (Nat.le_refl _)) (below_new (Below.refl _ _) _) (by simp) hg1
      have hL1 := HD.out.next hb1
      rw [Nat.zero_add, List.nil_append] at ho1
      have hv1 := own_base ho1 hszD
      obtain ⟨va1, vc1, rfl⟩ := own_shape hv1
      refine p_wp rfl (by rfl) (Lib.wp_append_run _ _ _ 24 24 rfl _ _ rfl rfl _ w1 hr1 ⟨fun _ => hL1.inn, ?_⟩)
      simp only [Act.put, List.setIfInBounds_toArray]
      refine p_value (some 57) ?_ rfl rfl (by rfl) (fun w hw => ?_) ?_
      rotate_left
      · go_simp
        with_reducible rfl
      simp only [Act.put]
      have hL2 := hL1.next (below_new (Below.refl _ _) (.cells #[.string pt, .slice va1 nm.length vc1] 52))
      have hv2 := own_below hv1 (below_new (Below.refl _ _) (.cells #[.string pt, .slice va1 nm.length vc1] 52))
      refine p_alone (some 58) (.slice (some ⟨w1.heap.size, 0, none⟩) 1 1) (w1.alloc (.cells #[.string pt, .slice va1 nm.length vc1] 52)) rfl rfl (by rfl) (by have := run_one_in w1 pt (.slice va1 nm.length vc1) rfl; go_simp) (fun _ => hL2.inn) ?_
      simp only [Act.put]
      obtain ⟨v3, w3, hr3, ho3, hg3⟩ := run_append_sl 23 23 52 _ 2 40 Tryd.underlying23 info_in rfl (by omega) (w.heap.size + 1 + 1 + 1) _ i _ hL2.ri (.slice (some ⟨w1.heap.size, 0, none⟩) 1 1) 1 [.string pt, .slice va1 nm.length vc1] (slat_new w1 [.string pt, .slice va1 nm.length vc1] 52 1 (by omega)) rfl (fun u hu => by simp at hu; rcases hu with rfl | rfl <;> rfl) (by have := HFI.out; omega) (by omega) hL2.inn.size
      obtain ⟨hI3, hL3⟩ := hL2.more hlt (by rw [hnm]; exact hv2) (by rw [hpt]; exact ho3) hg3
      obtain ⟨ka', kc', rfl⟩ := own_shape ho3
      refine p_wp rfl (by rfl) (Lib.wp_append_run _ _ _ 23 23 rfl _ _ rfl rfl _ w3 hr3 ⟨fun _ => hI3, ?_⟩)
      simp only [Act.put]
      refine p_value (some 60) ?_ rfl rfl (by rfl) (fun w hw => ?_) ?_
      rotate_left
      · go_simp
        with_reducible rfl
      simp only [Act.put]
      refine p_store (w3.setCell ⟨w.heap.size + 1 + 1, 1, none⟩ (.slice ka' (i + 1) kc')) rfl rfl (by rfl) (by have c := hI3.row.cell 1; have z := hI3.row.frozen 1; simp only [List.getElem?_toArray, List.getElem?_cons_succ, List.getElem?_cons_zero] at c; go_simp) (fun h => absurd rfl h) ?_
      refine p_done ?_
      try simp only [Exit.then]
      have HL3 : Hid _ := hL3
      clear hL3 hI3 ho3 hr3 hg3 hL2 hv2 hL1 hv1 ho1 hr1 hg1 hb1
      go_wp2
      go_roundw
      case rel => exact ⟨i + 1, ka', kc', _, by go_num, by omega, HL3⟩
      case measure => simp [intOf]; omega
    · have hlt' : ¬ (i : Int) < (d.ins.length : Int) := by omega
      obtain rfl : i = d.ins.length := by omega
      have HRg : Hid _ := HL.out.inn.row
      have HRz : Hid _ := HL.out.inn.res
      go_wp2_with (first
          | refine wpList_load_row rfl 27 _ rfl (w.heap.size + 1 + 1) rfl 27 #[.slice p0 d.outs.length q0, .slice ka d.ins.length kc, .slice p1 d.srcs.length q1, .string d.sys, .string d.bld, .slice p2 d.args.length q2, .slice p3 d.env.length q3] (0, 0) _ HRg.out Tryd.underlying27 rfl info_drv ?_
          | refine wpList_store_row rfl 27 _ _ rfl (w.heap.size + 1) #[.slice p0 d.outs.length q0, .slice ka d.ins.length kc, .slice p1 d.srcs.length q1, .string d.sys, .string d.bld, .slice p2 d.args.length q2, .slice p3 d.env.length q3] rfl rfl 27 zDrv HRz.out info_drv rfl (drv_one _ _ _ _ _ _ _ _ _ _ _ _ _ _ _ _ _) ?_)
      have hB := HL.out.inn.old
      have hD := HL.out.done
      have hsz := HL.out.inn.size
      refine bodyPost_ret (results_cell_row resultsOwn _ _ (w.heap.size + 1) 27 _ (0, 0) _ rfl (Row.setRow HRz.out) Tryd.underlying27 rfl info_drv) rfl ⟨_, rfl, HL.out.stored _, hB.trans (below_setRow (by omega) _)⟩
end Go.Proofs.YtmpgfepkdhjibaaDoor
