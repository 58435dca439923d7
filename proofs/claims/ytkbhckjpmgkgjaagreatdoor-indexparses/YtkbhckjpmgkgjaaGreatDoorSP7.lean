/- My own work: together: what two sets make by a rule. -/
import Derived.Test.YtkbhckjpmgkgjaaGreatDoorSP6
namespace Go.Proofs.YtkbhckjpmgkgjaaGreatDoor
open Go.RowKit

theorem q_eqc {ops : Array Oper} {C : World → Prop} {Q : Act → Prop} {act : Act} {o : Oper} {rest : List Oper} (a b : Cut) (d : Bool) (hd : decide (a = b) = d) (hw : Region.wanted o (yielded ops act.tmps) = true) (x y : Operand) (ho : o.op = .binOp .eql 216 x y 216) (hx : act.eval x = cutV a) (hy : act.eval y = cutV b)
    (k : wpQuiet Tryz.prog ops C Q rest (act.put o.dst (.bool d))) : wpQuiet Tryz.prog ops C Q (o :: rest) act :=
  q_value (.bool d) hw (fun w _ => by rw [← hd]; exact exec_eqc a b x y ho hx hy w) k
theorem tog_step (f : Bool → Bool → Bool) (n : Nat) (A B : List Cut) (x y z : Bool) (h : ¬ (A = [] ∧ B = [])) : tog f (n + 1) A B x y z = if f (popX (lst A B) x A) (popX (lst A B) y B) = z then tog f n (popL (lst A B) A) (popL (lst A B) B) (popX (lst A B) x A) (popX (lst A B) y B) z
    else lst A B :: tog f n (popL (lst A B) A) (popL (lst A B) B) (popX (lst A B) x A) (popX (lst A B) y B) (!z) := by
  conv => lhs; unfold tog
  rw [if_neg h]
theorem p_load_row {P : Program} {ops : Array Oper} {S : World → Prop} {Q : Act → World → Prop} {a : Act} {w : World} {o : Oper} {i : Nat} {fs : List (Bool × Nat)} (dd : Option Tmp) (ty : TypeId) (x : Operand) (hi : ops[i]? = some o) (hd' : o.dst = dd) (ho : o.op = .load ty x) (hw : Region.wanted o (yielded ops a.tmps) = true) (g : Nat) (hx : a.eval x = .pointer (some ⟨g, 0, none⟩)) (cs : Array Value) (t : TypeId) (d : TypeDesc)
    (hC : ∀ w, S w → Row w g cs t) (hu : P.underlying ty = some d) (hd : (match d with | .struct _ | .array _ _ => true | _ => false) = true) (hs : (P.info? ty).map (·.size) = some cs.size)
    (k : wpPerm P ops S Q fs (a.put dd (.agg cs)) w) : wpPerm P ops S Q ((false, i) :: fs) a w :=
  p_value dd (.agg cs) hi hd' hw (fun w hw' => by
    unfold execOp
    simp only [ho, hx, Instr.loadAt, Instr.sureAddr, Sem.run_bind, Sem.run_pure, Result.andThen_ok, run_loadVar_row w g t ty cs (0, 0) d (hC w hw') hu hd hs]) k
/-- A slice literal, as an operation that stands alone. -/
theorem p_buildSlice {P : Program} {ops : Array Oper} {S : World → Prop} {Q : Act → World → Prop} {a : Act} {w : World} {o : Oper} {i : Nat} {fs : List (Bool × Nat)} (d : Option Tmp) (t : TypeId) (len : Nat) (ps : Array (Nat × Operand)) (parts : Array (Nat × Value)) (v : Value) (w' : World) (hi : ops[i]? = some o) (hd : o.dst = d) (ho : o.op = .buildSlice t len ps) (hw : Region.wanted o (yielded ops a.tmps) = true)
    (hp : (ps.map fun x => (x.1, a.eval x.2)) = parts) (hr : (Instr.buildSlice t len parts).run P w = .ok v w') (hS : fs ≠ [] → S w') (k : wpPerm P ops S Q fs (a.put d v) w') : wpPerm P ops S Q ((true, i) :: fs) a w :=
  p_alone d v w' hi hd hw (by unfold execOp; subst hp; simp only [ho, Sem.run_bind, hr, Result.andThen_ok]; rfl) hS k
theorem bne_of {a b : Bool} (h : ¬ a = b) : (a != b) = true := by cases a <;> cases b <;> simp_all
set_option maxRecDepth 40000 in
set_option maxHeartbeats 16000000 in
theorem together_ok (f : Bool → Bool → Bool) (fn : FuncId) (hfn : ∀ a b wx, Calls Tryz.prog fn #[.bool a, .bool b] wx fun e w' => e = .returned (.bool (f a b)) ∧ w' = wx) (hcf : ∀ a b (wx : World), (callFunc fn #[.bool a, .bool b]).run Tryz.prog wx = .ok (.enter fn #[.bool a, .bool b]) wx) {A B : List Cut} {pa pb : Value} {w : World} (hA : SetAt w pa A w.heap.size) (hB : SetAt w pb B w.heap.size) (okA : ∀ c ∈ A, CutOk c) (okB : ∀ c ∈ B, CutOk c) (hl : A.length + B.length ≤ 99999) : Calls Tryz.prog 113 #[pa, pb, .func (.func fn) #[] #[]] w (NewSet (mk2 f A B) w) := by
  have mA := hA.made
  have mB := hB.made
  unfold Made at mA mB
  have hN := none_call w
  obtain ⟨ga, va, rfl, hga, rowA, cutsA⟩ := hA.ex
  obtain ⟨gb, vb', rfl, hgb, rowB, cutsB⟩ := hB.ex
  have hb1 : Below w.heap.size w (w.alloc (.cells #[.bool true, .slice none 0 0] 213)) := (Below.refl _ _).alloc (Nat.le_refl _) _
  have HT0 : Hid (∀ wx, (wx = (w.alloc (.cells #[.bool true, .slice none 0 0] 213)).drew) → Tg f w (mk2 f A B) A B [] false false false (.slice none 0 0) (A.length + B.length) va vb' wx) := fun wx hx => by
    subst hx
    exact ⟨Row.new w _ _, ⟨rfl, Or.inl ⟨rfl, rfl⟩⟩, (cutsA.keep hb1).keep ((Below.refl _ _).drew), (cutsB.keep hb1).keep ((Below.refl _ _).drew), okA, okB, Nat.le_refl _, by simpa using hl, rfl, hb1.drew⟩
  have rA1 := rowA.below hb1 hga
  have rB1 := rowB.below hb1 hgb
  obtain ⟨R, hR⟩ : ∃ R, R = mk2 f A B := ⟨_, rfl⟩
  rw [← hR] at HT0 ⊢
  have HN : Hid _ := hN
  have HMB : Hid _ := mB
  have HF : Hid _ := hfn
  have HCF : Hid (∀ a b (wx : World), (callFunc fn #[.bool a, .bool b]).run Tryz.prog wx = .ok (.enter fn #[.bool a, .bool b]) wx) := hcf
  clear hN hb1 hR mB hfn hcf
  go_enter Tryz.func113, Tryz.ntmps113
  go_wp2_with fail
  refine mA.mono ?_
  rintro e w0 ⟨rfl, hw0⟩
  rw [hw0]
  clear hw0 mA
  go_wp2_with fail
  refine Calls.mono HMB.out ?_
  rintro e w0 ⟨rfl, hw0⟩
  rw [hw0]
  clear hw0 HMB
  go_wp2_with fail
  refine Calls.mono HN.out ?_
  rintro e w1 ⟨rfl, hw1⟩
  rw [← hw1] at HT0 rA1 rB1
  clear HN
  have ca1 : w1.cell? ⟨ga, 1, none⟩ = some va := (rA1.cell 1).trans rfl
  have cb1 : w1.cell? ⟨gb, 1, none⟩ = some vb' := (rB1.cell 1).trans rfl
  obtain ⟨sa, xga, xoa, xca, rfl, _⟩ := cutsA.ex
  obtain ⟨sb, xgb, xob, xcb, rfl, _⟩ := cutsB.ex
  clear cutsA cutsB rA1 rB1 rowA rowB hA hB hw1 hga hgb
  go_wp2
  refine wp_region_quiet (C := fun wx => wx = w1.drew) (by kernel_rfl) (by kernel_rfl) rfl ?_
  simp only []
  refine q_value ?_ (by rfl) (fun w hw => ?_) ?_
  rotate_left
  · go_simp
    with_reducible rfl
  simp only [Act.put, List.setIfInBounds_toArray, List.set_cons_zero, List.set_cons_succ]
  refine q_value ?_ (by rfl) (fun w hw => ?_) ?_
  rotate_left
  · go_simp
    with_reducible rfl
  simp only [Act.put, List.setIfInBounds_toArray, List.set_cons_zero, List.set_cons_succ]
  refine q_value ?_ (by rfl) (fun w hw => ?_) ?_
  rotate_left
  · go_simp
    with_reducible rfl
  simp only [Act.put, List.setIfInBounds_toArray, List.set_cons_zero, List.set_cons_succ]
  refine q_value ?_ (by rfl) (fun w hw => ?_) ?_
  rotate_left
  · rw [hw]
    have hc : w1.drew.cell? ⟨ga, 1, none⟩ = _ := ca1
    go_simp
    with_reducible rfl
  simp only [Act.put, List.setIfInBounds_toArray, List.set_cons_zero, List.set_cons_succ]
  refine q_value ?_ (by rfl) (fun w hw => ?_) ?_
  rotate_left
  · go_simp
    with_reducible rfl
  simp only [Act.put, List.setIfInBounds_toArray, List.set_cons_zero, List.set_cons_succ]
  refine q_value ?_ (by rfl) (fun w hw => ?_) ?_
  rotate_left
  · go_simp
    with_reducible rfl
  simp only [Act.put, List.setIfInBounds_toArray, List.set_cons_zero, List.set_cons_succ]
  refine q_value ?_ (by rfl) (fun w hw => ?_) ?_
  rotate_left
  · go_simp
    with_reducible rfl
  simp only [Act.put, List.setIfInBounds_toArray, List.set_cons_zero, List.set_cons_succ]
  refine q_value ?_ (by rfl) (fun w hw => ?_) ?_
  rotate_left
  · rw [hw]
    have hc : w1.drew.cell? ⟨gb, 1, none⟩ = _ := cb1
    go_simp
    with_reducible rfl
  simp only [Act.put, List.setIfInBounds_toArray, List.set_cons_zero, List.set_cons_succ]
  refine q_value ?_ (by rfl) (fun w hw => ?_) ?_
  rotate_left
  · go_simp
    with_reducible rfl
  simp only [Act.put, List.setIfInBounds_toArray, List.set_cons_zero, List.set_cons_succ]
  refine q_value ?_ (by rfl) (fun w hw => ?_) ?_
  rotate_left
  · go_simp
    with_reducible rfl
  simp only [Act.put, List.setIfInBounds_toArray, List.set_cons_zero, List.set_cons_succ]
  refine wpQuiet_nil ?_
  intro w2 hw2
  simp only [Exit.then]
  have HT2 := HT0.out w2 hw2
  clear HT0 hw2 ca1 cb1
  have HT2h : Hid _ := HT2
  clear HT2
  go_wp2
  go_loopw [8, 9, 10, 11, 12] (fun s8 s9 s10 s11 s12 wq => ∃ (RA RB M : List Cut) (x y z : Bool) (mv : Value) (n : Nat) (sa sb : Option Addr) (ca cb : Nat), s8 = .slice sa RA.length ca ∧ s9 = .slice sb RB.length cb ∧ s10 = .bool x ∧ s11 = .bool y ∧ s12 = .bool z ∧ Tg f w R RA RB M x y z mv n (.slice sa RA.length ca) (.slice sb RB.length cb) wq) (fun s8 s9 _ _ _ _ => lenV s8 + lenV s9)
  case atStart => exact ⟨_, _, _, _, _, _, _, _, _, _, _, _, rfl, rfl, rfl, rfl, rfl, HT2h.out⟩
  case round =>
    clear HT2h
    obtain ⟨RA, RB, M, x, y, z, mv, n, sa, sb, ca, cb, rfl, rfl, rfl, rfl, rfl, hT⟩ := hrel
    obtain ⟨wE, hwE⟩ : ∃ x, x = wr := ⟨_, rfl⟩
    have HWE : Hid (wE = wr) := hwE
    rw [← hwE] at hT ⊢
    clear hwE
    have HT : Hid (Tg f w R RA RB M x y z mv n (.slice sa RA.length ca) (.slice sb RB.length cb) wE) := hT
    have hlA : RA.length < 100000 := by have := hT.tot; omega
    have hlB : RB.length < 100000 := by have := hT.tot; omega
    by_cases h0 : RA = [] ∧ RB = []
    · obtain ⟨rfl, rfl⟩ := h0
      clear hT hlA hlB
      go_wp2
      go_ret
      have h := HT.out
      have he : M = R := by
        have := h.eq
        rw [tog_nil, List.append_nil] at this
        exact this
      subst he
      exact ⟨_, rfl, ⟨w.heap.size, mv, rfl, h.made.lt, h.made, cuts_own h.own⟩, h.old⟩
    · obtain ⟨m, rfl⟩ : ∃ m, n = m + 1 := by
        have := hT.cnt
        refine ⟨n - 1, ?_⟩
        have : 0 < RA.length + RB.length := by
          rcases RA with _ | ⟨a, r⟩
          · rcases RB with _ | ⟨b, s⟩
            · exact absurd ⟨rfl, rfl⟩ h0
            · simp
          · simp; omega
        omega
      have hlst := least_ok (w := wE) (hT.ra.mono hT.old.size) (hT.rb.mono hT.old.size) h0 (by omega) (by omega) hT.oka hT.okb
      have heq := hT.eq
      rw [tog_step f m RA RB x y z h0] at heq
      have HBX := fun w1 (hb : Below wE.heap.size wE w1) => tg_box hT hb (lst RA RB)
      rcases RA with _ | ⟨a, r⟩
      · rcases RB with _ | ⟨b, s⟩
        · exact absurd ⟨rfl, rfl⟩ h0
        · have hc : lst [] (b :: s) = b := rfl
          rw [hc] at heq hlst HBX
          have HQ : Hid (M ++ (if f x (!y) = z then tog f m [] s x (!y) z else b :: tog f m [] s x (!y) (!z)) = R) := by
            have h := heq
            rw [show popX b x [] = x from rfl, show popL b [] = [] from rfl] at h
            rw [popX_cons, popL_cons, if_pos rfl, if_pos rfl] at h
            exact h
          have HEB : Hid (b = b) := rfl
          obtain ⟨gb2, ob2, cb2, hsb, hgb, hcpb, _⟩ := cuts_head hT.rb
          simp only [List.length_cons, Value.slice.injEq] at hsb
          obtain ⟨rfl, _, rfl⟩ := hsb
          obtain ⟨lb, hlb2⟩ : ∃ n, n = s.length := ⟨_, rfl⟩
          have HLB : Hid (lb = s.length) := hlb2
          have hlrb : (1 : Int) ≤ (lb : Int) + 1 := by omega
          have hlpb : (0 : Int) < ((lb + 1 : Nat) : Int) := by omega
          have hcqb : lb + 1 ≤ cb := by omega
          have hlqb : lb + 1 < 100000 := by rw [List.length_cons] at hlB; omega
          have hlcb : (b :: s).length = lb + 1 := by rw [hlb2]; rfl
          rw [hlcb] at hlst HBX
          rw [hlcb]
          clear hlcb hlb2 hcpb hgb
          have HLS : Hid _ := hlst
          have HBX2 : Hid _ := HBX
          clear hlst HBX heq hT hlA hlB h0 hc
          go_wp2_with fail
          refine Calls.mono HLS.out ?_
          rintro e w1 ⟨rfl, hb1⟩
          have hX := HBX2.out w1 hb1
          clear HLS HBX2
          have HBs : Hid _ := hb1
          clear hb1
          go_wp2_with (refine wpList_store_new rfl 216 _ _ rfl w1 zeroCut (cutC b) 216 rfl w1.heap.size rfl rfl rfl infoC rfl (cutC_one _) ?_)
          obtain ⟨w3, hw3⟩ : ∃ x, x = w1.alloc (.cells (cutC b) 216) := ⟨_, rfl⟩
          rw [← hw3] at hX
          rw [← hw3]
          clear hw3
          obtain ⟨k, hk⟩ : ∃ k, k = w1.heap.size := ⟨_, rfl⟩
          rw [← hk] at hX
          rw [← hk]
          clear hk HBs
          have HX : Hid _ := hX
          clear hX
          refine wp_region_quiet (C := (TgC w M mv (.slice sa 0 ca) (.slice (some ⟨gb2, ob2, none⟩) (lb + 1) cb) [] (b :: s) b k)) (by kernel_rfl) (by kernel_rfl) (HX.out.drew) ?_
          simp only []
          refine q_value ?_ (by rfl) (fun w hw => ?_) ?_
          rotate_left
          · go_simp
            with_reducible rfl
          simp only [Act.put, List.setIfInBounds_toArray, List.set_cons_zero, List.set_cons_succ]
          refine q_value ?_ (by rfl) (fun w hw => ?_) ?_
          rotate_left
          · go_simp
            with_reducible rfl
          simp only [Act.put, List.setIfInBounds_toArray, List.set_cons_zero, List.set_cons_succ]
          refine q_value ?_ (by rfl) (fun w hw => ?_) ?_
          rotate_left
          · go_simp
            with_reducible rfl
          simp only [Act.put, List.setIfInBounds_toArray, List.set_cons_zero, List.set_cons_succ]
          refine q_value ?_ (by rfl) (fun w hw => ?_) ?_
          rotate_left
          · go_simp
            with_reducible rfl
          simp only [Act.put, List.setIfInBounds_toArray, List.set_cons_zero, List.set_cons_succ]
          refine BigFrame.wpQuiet_skip (by rfl) ?_
          simp only [Act.put, List.setIfInBounds_toArray, List.set_cons_zero, List.set_cons_succ]
          refine BigFrame.wpQuiet_skip (by rfl) ?_
          simp only [Act.put, List.setIfInBounds_toArray, List.set_cons_zero, List.set_cons_succ]
          refine BigFrame.wpQuiet_skip (by rfl) ?_
          simp only [Act.put, List.setIfInBounds_toArray, List.set_cons_zero, List.set_cons_succ]
          refine BigFrame.wpQuiet_skip (by rfl) ?_
          simp only [Act.put, List.setIfInBounds_toArray, List.set_cons_zero, List.set_cons_succ]
          refine BigFrame.wpQuiet_skip (by rfl) ?_
          simp only [Act.put, List.setIfInBounds_toArray, List.set_cons_zero, List.set_cons_succ]
          refine q_value ?_ (by rfl) (fun w hw => ?_) ?_
          rotate_left
          · go_simp
            with_reducible rfl
          simp only [Act.put, List.setIfInBounds_toArray, List.set_cons_zero, List.set_cons_succ]
          refine wpQuiet_nil ?_
          intro w4 hX
          simp only [Exit.then]
          clear HX
          have HX : Hid _ := hX
          clear hX
          go_wp2
          refine wp_region_quiet (C := (TgC w M mv (.slice sa 0 ca) (.slice (some ⟨gb2, ob2, none⟩) (lb + 1) cb) [] (b :: s) b k)) (by kernel_rfl) (by kernel_rfl) (HX.out.drew) ?_
          simp only []
          refine q_value ?_ (by rfl) (fun w hw => ?_) ?_
          rotate_left
          · go_simp
            with_reducible rfl
          simp only [Act.put, List.setIfInBounds_toArray, List.set_cons_zero, List.set_cons_succ]
          refine q_value ?_ (by rfl) (fun w hw => ?_) ?_
          rotate_left
          · go_simp
            with_reducible rfl
          simp only [Act.put, List.setIfInBounds_toArray, List.set_cons_zero, List.set_cons_succ]
          refine q_value ?_ (by rfl) (fun w hw => ?_) ?_
          rotate_left
          · go_simp
            with_reducible rfl
          simp only [Act.put, List.setIfInBounds_toArray, List.set_cons_zero, List.set_cons_succ]
          refine q_value ?_ (by rfl) (fun w hw => ?_) ?_
          rotate_left
          · go_simp
            with_reducible rfl
          simp only [Act.put, List.setIfInBounds_toArray, List.set_cons_zero, List.set_cons_succ]
          refine q_value ?_ (by rfl) (fun w hw => ?_) ?_
          rotate_left
          · go_simp
            with_reducible rfl
          simp only [Act.put, List.setIfInBounds_toArray, List.set_cons_zero, List.set_cons_succ]
          refine q_value ?_ (by rfl) (fun w hw => ?_) ?_
          rotate_left
          · go_simp
            with_reducible rfl
          simp only [Act.put, List.setIfInBounds_toArray, List.set_cons_zero, List.set_cons_succ]
          refine q_mid 216 _ rfl (by rfl) gb2 ob2 _ _ rfl (fun w h => head_range h.rb) Tryz.underlying216 rfl infoC ?_
          simp only [Act.put, List.setIfInBounds_toArray, List.set_cons_zero, List.set_cons_succ]
          refine q_load 216 _ rfl (by rfl) k (cutC b) 216 _ rfl (fun w h => h.box) Tryz.underlying216 rfl infoC ?_
          simp only [Act.put, List.setIfInBounds_toArray, List.set_cons_zero, List.set_cons_succ]
          refine q_eqc b b true (decide_eq_true rfl) (by rfl) _ _ rfl rfl rfl ?_
          simp only [Act.put, List.setIfInBounds_toArray, List.set_cons_zero, List.set_cons_succ]
          refine q_value ?_ (by rfl) (fun w hw => ?_) ?_
          rotate_left
          · go_simp
            with_reducible rfl
          simp only [Act.put, List.setIfInBounds_toArray, List.set_cons_zero, List.set_cons_succ]
          refine wpQuiet_nil ?_
          intro w6 hX
          simp only [Exit.then]
          clear HX
          have HX : Hid _ := hX
          clear hX
          go_wp2
          refine wp_region_quiet (C := (TgC w M mv (.slice sa 0 ca) (.slice (some ⟨gb2, ob2, none⟩) (lb + 1) cb) [] (b :: s) b k)) (by kernel_rfl) (by kernel_rfl) (HX.out.drew) ?_
          simp only []
          refine q_value ?_ (by rfl) (fun w hw => ?_) ?_
          rotate_left
          · go_simp
            with_reducible rfl
          simp only [Act.put, List.setIfInBounds_toArray, List.set_cons_zero, List.set_cons_succ]
          refine q_value ?_ (by rfl) (fun w hw => ?_) ?_
          rotate_left
          · go_simp
            with_reducible rfl
          simp only [Act.put, List.setIfInBounds_toArray, List.set_cons_zero, List.set_cons_succ]
          refine q_value ?_ (by rfl) (fun w hw => ?_) ?_
          rotate_left
          · go_simp
            with_reducible rfl
          simp only [Act.put, List.setIfInBounds_toArray, List.set_cons_zero, List.set_cons_succ]
          refine q_value ?_ (by rfl) (fun w hw => ?_) ?_
          rotate_left
          · go_simp
            with_reducible rfl
          simp only [Act.put, List.setIfInBounds_toArray, List.set_cons_zero, List.set_cons_succ]
          refine q_value ?_ (by rfl) (fun w hw => ?_) ?_
          rotate_left
          · go_simp
            with_reducible rfl
          simp only [Act.put, List.setIfInBounds_toArray, List.set_cons_zero, List.set_cons_succ]
          refine q_value ?_ (by rfl) (fun w hw => ?_) ?_
          rotate_left
          · go_simp
            with_reducible rfl
          simp only [Act.put, List.setIfInBounds_toArray, List.set_cons_zero, List.set_cons_succ]
          refine wpQuiet_nil ?_
          intro w7 hX
          clear HX
          have hR := CutsAt.rest hX.rb HLB.out
          obtain ⟨sb2, hsb2⟩ : ∃ x : Option Addr, x = if cb = 1 then some ⟨gb2, ob2, none⟩ else some ⟨gb2, ob2 + 7, none⟩ := ⟨_, rfl⟩
          rw [← hsb2] at hR ⊢
          clear hsb2
          have HX : Hid (TgC w M mv (.slice sa 0 ca) (.slice sb2 lb (cb - 1)) [] s b k w7) := ⟨hX.made, hX.own, hX.sep, hX.ra, hR, hX.box, hX.kk, hX.old⟩
          clear hX hR
          simp only [Exit.then]
          go_wp2
          rw [HCF.out x (!y) w7]
          simp only [Oper.upon]
          refine Calls.mono (HF.out x (!y) w7) ?_
          rintro e wn ⟨rfl, hwn⟩
          rw [hwn]
          clear hwn
          have HQ2 : Hid _ := HQ.out
          clear HQ
          obtain ⟨fv, hfv⟩ : ∃ b, b = f x (!y) := ⟨_, rfl⟩
          rw [← hfv] at HQ2 ⊢
          have HFV : Hid _ := hfv
          clear hfv
          by_cases hfz : fv = z
          · have HE2 : Hid (M ++ tog f m [] s x (!y) z = R) := by
              have h := HQ2.out
              rw [if_pos hfz] at h
              exact h
            have hne : (fv != z) = false := by rw [hfz]; exact bne_self_eq_false z
            have hne2 : (fv == z) = true := by rw [hfz]; exact beq_self_eq_true z
            clear HQ2 HFV
            go_wp2
            go_roundw
            case rel =>
              have eA : Value.slice (sa) (0) (ca) = .slice (sa) ([] : List Cut).length (ca) := rfl
              have eB : Value.slice (sb2) (lb) (cb - 1) = .slice (sb2) (s : List Cut).length (cb - 1) := by rw [HLB.out]
              have hra := HX.out.ra
              have hrb := HX.out.rb
              rw [eA] at hra
              rw [eB] at hrb
              exact ⟨[], s, M, x, (!y), z, mv, m, sa, sb2, ca, cb - 1, eA, eB, rfl, rfl, rfl, ⟨HX.out.made, HX.out.own, hra, hrb, fun x hx => HT.out.oka x hx, fun x hx => HT.out.okb x (List.mem_cons_of_mem _ hx), by have := HT.out.cnt; have eA : ([] : List Cut).length = 0 := rfl; have eB : (b :: s).length = s.length + 1 := rfl; omega, by have := HT.out.tot; have eA : ([] : List Cut).length = 0 := rfl; have eB : (b :: s).length = s.length + 1 := rfl; omega, HE2.out, HX.out.old⟩⟩
            case measure => simp only [lenV]; omega
          · have HE2 : Hid ((M ++ [b]) ++ tog f m [] s x (!y) (!z) = R) := by
              have h := HQ2.out
              rw [if_neg hfz] at h
              rw [List.append_assoc]
              exact h
            have hne : (fv != z) = true := bne_of hfz
            have hne2 : (fv == z) = false := by simpa using hfz
            clear HQ2 HFV
            go_wp2
            have hm7 := HX.out.made
            have hx7 := HX.out.box
            refine wp_region_perm [(false, 0), (false, 1), (false, 2), (false, 3), (false, 4), (false, 5), (true, 6), (true, 7), (true, 8), (true, 9), (true, 10)] (fun wx => Row wx w.heap.size #[.bool true, mv] 213 ∧ Row wx k (cutC b) 216) (by kernel_rfl) (by kernel_rfl) ⟨hm7, hx7⟩ ?_
            obtain ⟨mo, ml, mc, hmv⟩ : ∃ o l cp, mv = .slice o l cp := by
              obtain ⟨_, ⟨h1, _⟩ | ⟨g', c', cur, h1, _⟩⟩ := HX.out.own
              · exact ⟨_, _, _, h1⟩
              · exact ⟨_, _, _, h1⟩
            refine p_value (some 78) ?_ rfl rfl (by rfl) (fun w hw => ?_) ?_
            rotate_left
            · go_simp
              with_reducible rfl
            simp only [Act.put, List.setIfInBounds_toArray, List.set_cons_zero, List.set_cons_succ]
            refine p_value (some 79) ?_ rfl rfl (by rfl) (fun w hw => ?_) ?_
            rotate_left
            · go_simp
              with_reducible rfl
            simp only [Act.put, List.setIfInBounds_toArray, List.set_cons_zero, List.set_cons_succ]
            refine p_value (some 80) ?_ rfl rfl (by rfl) (fun w hw => ?_) ?_
            rotate_left
            · go_simp
              with_reducible rfl
            simp only [Act.put, List.setIfInBounds_toArray, List.set_cons_zero, List.set_cons_succ]
            refine p_value (some 81) ?_ rfl rfl (by rfl) (fun w hw => ?_) ?_
            rotate_left
            · go_simp
              with_reducible rfl
            simp only [Act.put, List.setIfInBounds_toArray, List.set_cons_zero, List.set_cons_succ]
            refine p_value (some 82) ?_ rfl rfl (by rfl) (fun w hw => ?_) ?_
            rotate_left
            · have hc := (hw.1.cell 1).trans (show _ = some mv from rfl)
              subst hmv
              go_simp
              with_reducible rfl
            simp only [Act.put, List.setIfInBounds_toArray, List.set_cons_zero, List.set_cons_succ]
            refine p_load_row (some 83) 216 _ rfl rfl rfl (by rfl) k rfl (cutC b) 216 _ (fun w h => h.2) Tryz.underlying216 rfl infoC ?_
            simp only [Act.put, List.setIfInBounds_toArray, List.set_cons_zero, List.set_cons_succ]
            refine p_buildSlice (some 84) 211 1 _ #[(0, cutV b)] _ _ rfl rfl rfl (by rfl) (by simp only [List.map_toArray, List.map_cons, List.map_nil]; rfl) (one_cut b _) (fun _ => ⟨hm7.alloc _, hx7.alloc _⟩) ?_
            simp only [Act.put, List.setIfInBounds_toArray, List.set_cons_zero, List.set_cons_succ]
            refine p_wp rfl (by rfl) ?_
            refine wp_append_any (some 85) rfl (.tmp 82) (.tmp 84) 211 216 (.agg zeroCut) 7 64 Tryz.underlying211 infoCz rfl (by decide) rfl (w.heap.size + 1) mv M.length (flatC M) hmv.symm ?own (some ⟨w7.drew.heap.size, 0, none⟩) w7.drew.heap.size 0 1 1 (encC b) rfl rfl (fun _ => rfl) ?cell ?one (fun h => nomatch h) ?len ?byt ?base ?go
            case own => exact own_same HX.out.own fun b hb => Below.heap_alloc _ _ b (own_block HX.out.own b hb).2
            case cell =>
              intro j u hj
              rw [Nat.zero_add, Row.cell (Row.new w7.drew (cutC b) 216) j]
              show (encC b).toArray[j]? = _
              rw [List.getElem?_toArray]
              exact hj
            case one =>
              intro u hu
              simp only [encC, List.mem_cons, List.not_mem_nil, or_false] at hu
              rcases hu with rfl | rfl | rfl | rfl | rfl | rfl | rfl <;> rfl
            case len => have := HT.out.tot; unfold maxLen; omega
            case byt => have := HT.out.tot; omega
            case base => have := HX.out.kk; have := HX.out.box.lt; simp; omega
            case go =>
              intro v' w8 hown hgr _
              obtain ⟨hr8, hx8, hr9, ho9, ra9, rb9, old9⟩ := tg_more HX.out hown hgr
              refine ⟨fun _ => ⟨hr8, hx8⟩, ?_⟩
              obtain ⟨mo', ml', mc', rfl⟩ : ∃ o l cp, v' = .slice o l cp := by
                obtain ⟨_, ⟨h1, _⟩ | ⟨g', c', cur, h1, _⟩⟩ := hown
                · exact ⟨_, _, _, h1⟩
                · exact ⟨_, _, _, h1⟩
              have hcell := (hr8.cell 1).trans (show _ = some mv from rfl)
              have hfz8 := hr8.frozen 1
              rw [hmv] at hcell
              have HR9 : Hid _ := hr9
              have HO9 : Hid _ := ho9
              have HRA9 : Hid _ := ra9
              have HRB9 : Hid _ := rb9
              have HOL9 : Hid _ := old9
              clear hr9 ho9 ra9 rb9 old9 hown hgr
              simp only [Act.put, List.setIfInBounds_toArray, List.set_cons_zero, List.set_cons_succ]
              refine p_alone (some 86) (.pointer (some ⟨w.heap.size, 0, none⟩)) w8 rfl rfl (by rfl) (by go_simp) (fun _ => ⟨hr8, hx8⟩) ?_
              simp only [Act.put, List.setIfInBounds_toArray, List.set_cons_zero, List.set_cons_succ]
              refine p_alone (some 87) (.pointer (some ⟨w.heap.size, 1, none⟩)) w8 rfl rfl (by rfl) (by go_simp) (fun _ => ⟨hr8, hx8⟩) ?_
              simp only [Act.put, List.setIfInBounds_toArray, List.set_cons_zero, List.set_cons_succ]
              refine p_store (w8.setCell ⟨w.heap.size, 1, none⟩ (.slice mo' ml' mc')) rfl rfl (by rfl) (by go_simp) (fun h => absurd rfl h) ?_
              refine p_done ?_
              try simp only [Exit.then]
              clear hcell hfz8 hm7 hx7 hmv hr8 hx8
              go_wp2
              go_roundw
              case rel =>
                have eA : Value.slice (sa) (0) (ca) = .slice (sa) ([] : List Cut).length (ca) := rfl
                have eB : Value.slice (sb2) (lb) (cb - 1) = .slice (sb2) (s : List Cut).length (cb - 1) := by rw [HLB.out]
                have hra := HRA9.out
                have hrb := HRB9.out
                rw [eA] at hra
                rw [eB] at hrb
                exact ⟨[], s, (M ++ [b]), x, (!y), (!z), (.slice mo' ml' mc'), m, sa, sb2, ca, cb - 1, eA, eB, rfl, rfl, rfl, ⟨HR9.out, HO9.out, hra, hrb, fun x hx => HT.out.oka x hx, fun x hx => HT.out.okb x (List.mem_cons_of_mem _ hx), by have := HT.out.cnt; have eA : ([] : List Cut).length = 0 := rfl; have eB : (b :: s).length = s.length + 1 := rfl; omega, by have := HT.out.tot; have eA : ([] : List Cut).length = 0 := rfl; have eB : (b :: s).length = s.length + 1 := rfl; have eM : (M ++ [b]).length = M.length + 1 := List.length_append; omega, HE2.out, HOL9.out⟩⟩
              case measure => simp only [lenV]; omega
      · rcases RB with _ | ⟨b, s⟩
        · have hc : lst (a :: r) [] = a := rfl
          rw [hc] at heq hlst HBX
          have HQ : Hid (M ++ (if f (!x) y = z then tog f m r [] (!x) y z else a :: tog f m r [] (!x) y (!z)) = R) := by
            have h := heq
            rw [popX_cons, popL_cons, if_pos rfl, if_pos rfl] at h
            rw [show popX a y [] = y from rfl, show popL a [] = [] from rfl] at h
            exact h
          have HEA : Hid (a = a) := rfl
          obtain ⟨ga2, oa2, ca2, hsa, hga, hcpa, _⟩ := cuts_head hT.ra
          simp only [List.length_cons, Value.slice.injEq] at hsa
          obtain ⟨rfl, _, rfl⟩ := hsa
          obtain ⟨la, hla2⟩ : ∃ n, n = r.length := ⟨_, rfl⟩
          have HLA : Hid (la = r.length) := hla2
          have hlra : (1 : Int) ≤ (la : Int) + 1 := by omega
          have hlpa : (0 : Int) < ((la + 1 : Nat) : Int) := by omega
          have hcqa : la + 1 ≤ ca := by omega
          have hlqa : la + 1 < 100000 := by rw [List.length_cons] at hlA; omega
          have hlca : (a :: r).length = la + 1 := by rw [hla2]; rfl
          rw [hlca] at hlst HBX
          rw [hlca]
          clear hlca hla2 hcpa hga
          have HLS : Hid _ := hlst
          have HBX2 : Hid _ := HBX
          clear hlst HBX heq hT hlA hlB h0 hc
          go_wp2_with fail
          refine Calls.mono HLS.out ?_
          rintro e w1 ⟨rfl, hb1⟩
          have hX := HBX2.out w1 hb1
          clear HLS HBX2
          have HBs : Hid _ := hb1
          clear hb1
          go_wp2_with (refine wpList_store_new rfl 216 _ _ rfl w1 zeroCut (cutC a) 216 rfl w1.heap.size rfl rfl rfl infoC rfl (cutC_one _) ?_)
          obtain ⟨w3, hw3⟩ : ∃ x, x = w1.alloc (.cells (cutC a) 216) := ⟨_, rfl⟩
          rw [← hw3] at hX
          rw [← hw3]
          clear hw3
          obtain ⟨k, hk⟩ : ∃ k, k = w1.heap.size := ⟨_, rfl⟩
          rw [← hk] at hX
          rw [← hk]
          clear hk HBs
          have HX : Hid _ := hX
          clear hX
          refine wp_region_quiet (C := (TgC w M mv (.slice (some ⟨ga2, oa2, none⟩) (la + 1) ca) (.slice sb 0 cb) (a :: r) [] a k)) (by kernel_rfl) (by kernel_rfl) (HX.out.drew) ?_
          simp only []
          refine q_value ?_ (by rfl) (fun w hw => ?_) ?_
          rotate_left
          · go_simp
            with_reducible rfl
          simp only [Act.put, List.setIfInBounds_toArray, List.set_cons_zero, List.set_cons_succ]
          refine q_value ?_ (by rfl) (fun w hw => ?_) ?_
          rotate_left
          · go_simp
            with_reducible rfl
          simp only [Act.put, List.setIfInBounds_toArray, List.set_cons_zero, List.set_cons_succ]
          refine q_value ?_ (by rfl) (fun w hw => ?_) ?_
          rotate_left
          · go_simp
            with_reducible rfl
          simp only [Act.put, List.setIfInBounds_toArray, List.set_cons_zero, List.set_cons_succ]
          refine q_value ?_ (by rfl) (fun w hw => ?_) ?_
          rotate_left
          · go_simp
            with_reducible rfl
          simp only [Act.put, List.setIfInBounds_toArray, List.set_cons_zero, List.set_cons_succ]
          refine q_value ?_ (by rfl) (fun w hw => ?_) ?_
          rotate_left
          · go_simp
            with_reducible rfl
          simp only [Act.put, List.setIfInBounds_toArray, List.set_cons_zero, List.set_cons_succ]
          refine q_value ?_ (by rfl) (fun w hw => ?_) ?_
          rotate_left
          · go_simp
            with_reducible rfl
          simp only [Act.put, List.setIfInBounds_toArray, List.set_cons_zero, List.set_cons_succ]
          refine q_mid 216 _ rfl (by rfl) ga2 oa2 _ _ rfl (fun w h => head_range h.ra) Tryz.underlying216 rfl infoC ?_
          simp only [Act.put, List.setIfInBounds_toArray, List.set_cons_zero, List.set_cons_succ]
          refine q_load 216 _ rfl (by rfl) k (cutC a) 216 _ rfl (fun w h => h.box) Tryz.underlying216 rfl infoC ?_
          simp only [Act.put, List.setIfInBounds_toArray, List.set_cons_zero, List.set_cons_succ]
          refine q_eqc a a true (decide_eq_true rfl) (by rfl) _ _ rfl rfl rfl ?_
          simp only [Act.put, List.setIfInBounds_toArray, List.set_cons_zero, List.set_cons_succ]
          refine q_value ?_ (by rfl) (fun w hw => ?_) ?_
          rotate_left
          · go_simp
            with_reducible rfl
          simp only [Act.put, List.setIfInBounds_toArray, List.set_cons_zero, List.set_cons_succ]
          refine wpQuiet_nil ?_
          intro w4 hX
          simp only [Exit.then]
          clear HX
          have HX : Hid _ := hX
          clear hX
          go_wp2
          refine wp_region_quiet (C := (TgC w M mv (.slice (some ⟨ga2, oa2, none⟩) (la + 1) ca) (.slice sb 0 cb) (a :: r) [] a k)) (by kernel_rfl) (by kernel_rfl) (HX.out.drew) ?_
          simp only []
          refine q_value ?_ (by rfl) (fun w hw => ?_) ?_
          rotate_left
          · go_simp
            with_reducible rfl
          simp only [Act.put, List.setIfInBounds_toArray, List.set_cons_zero, List.set_cons_succ]
          refine q_value ?_ (by rfl) (fun w hw => ?_) ?_
          rotate_left
          · go_simp
            with_reducible rfl
          simp only [Act.put, List.setIfInBounds_toArray, List.set_cons_zero, List.set_cons_succ]
          refine q_value ?_ (by rfl) (fun w hw => ?_) ?_
          rotate_left
          · go_simp
            with_reducible rfl
          simp only [Act.put, List.setIfInBounds_toArray, List.set_cons_zero, List.set_cons_succ]
          refine q_value ?_ (by rfl) (fun w hw => ?_) ?_
          rotate_left
          · go_simp
            with_reducible rfl
          simp only [Act.put, List.setIfInBounds_toArray, List.set_cons_zero, List.set_cons_succ]
          refine q_value ?_ (by rfl) (fun w hw => ?_) ?_
          rotate_left
          · go_simp
            with_reducible rfl
          simp only [Act.put, List.setIfInBounds_toArray, List.set_cons_zero, List.set_cons_succ]
          refine q_value ?_ (by rfl) (fun w hw => ?_) ?_
          rotate_left
          · go_simp
            with_reducible rfl
          simp only [Act.put, List.setIfInBounds_toArray, List.set_cons_zero, List.set_cons_succ]
          refine wpQuiet_nil ?_
          intro w5 hX
          clear HX
          have hR := CutsAt.rest hX.ra HLA.out
          obtain ⟨sa2, hsa2⟩ : ∃ x : Option Addr, x = if ca = 1 then some ⟨ga2, oa2, none⟩ else some ⟨ga2, oa2 + 7, none⟩ := ⟨_, rfl⟩
          rw [← hsa2] at hR ⊢
          clear hsa2
          have HX : Hid (TgC w M mv (.slice sa2 la (ca - 1)) (.slice sb 0 cb) r [] a k w5) := ⟨hX.made, hX.own, hX.sep, hR, hX.rb, hX.box, hX.kk, hX.old⟩
          clear hX hR
          simp only [Exit.then]
          go_wp2
          refine wp_region_quiet (C := (TgC w M mv (.slice sa2 la (ca - 1)) (.slice sb 0 cb) r [] a k)) (by kernel_rfl) (by kernel_rfl) (HX.out.drew) ?_
          simp only []
          refine q_value ?_ (by rfl) (fun w hw => ?_) ?_
          rotate_left
          · go_simp
            with_reducible rfl
          simp only [Act.put, List.setIfInBounds_toArray, List.set_cons_zero, List.set_cons_succ]
          refine q_value ?_ (by rfl) (fun w hw => ?_) ?_
          rotate_left
          · go_simp
            with_reducible rfl
          simp only [Act.put, List.setIfInBounds_toArray, List.set_cons_zero, List.set_cons_succ]
          refine q_value ?_ (by rfl) (fun w hw => ?_) ?_
          rotate_left
          · go_simp
            with_reducible rfl
          simp only [Act.put, List.setIfInBounds_toArray, List.set_cons_zero, List.set_cons_succ]
          refine q_value ?_ (by rfl) (fun w hw => ?_) ?_
          rotate_left
          · go_simp
            with_reducible rfl
          simp only [Act.put, List.setIfInBounds_toArray, List.set_cons_zero, List.set_cons_succ]
          refine BigFrame.wpQuiet_skip (by rfl) ?_
          simp only [Act.put, List.setIfInBounds_toArray, List.set_cons_zero, List.set_cons_succ]
          refine BigFrame.wpQuiet_skip (by rfl) ?_
          simp only [Act.put, List.setIfInBounds_toArray, List.set_cons_zero, List.set_cons_succ]
          refine BigFrame.wpQuiet_skip (by rfl) ?_
          simp only [Act.put, List.setIfInBounds_toArray, List.set_cons_zero, List.set_cons_succ]
          refine BigFrame.wpQuiet_skip (by rfl) ?_
          simp only [Act.put, List.setIfInBounds_toArray, List.set_cons_zero, List.set_cons_succ]
          refine BigFrame.wpQuiet_skip (by rfl) ?_
          simp only [Act.put, List.setIfInBounds_toArray, List.set_cons_zero, List.set_cons_succ]
          refine q_value ?_ (by rfl) (fun w hw => ?_) ?_
          rotate_left
          · go_simp
            with_reducible rfl
          simp only [Act.put, List.setIfInBounds_toArray, List.set_cons_zero, List.set_cons_succ]
          refine wpQuiet_nil ?_
          intro w6 hX
          simp only [Exit.then]
          clear HX
          have HX : Hid _ := hX
          clear hX
          go_wp2
          rw [HCF.out (!x) y w6]
          simp only [Oper.upon]
          refine Calls.mono (HF.out (!x) y w6) ?_
          rintro e wn ⟨rfl, hwn⟩
          rw [hwn]
          clear hwn
          have HQ2 : Hid _ := HQ.out
          clear HQ
          obtain ⟨fv, hfv⟩ : ∃ b, b = f (!x) y := ⟨_, rfl⟩
          rw [← hfv] at HQ2 ⊢
          have HFV : Hid _ := hfv
          clear hfv
          by_cases hfz : fv = z
          · have HE2 : Hid (M ++ tog f m r [] (!x) y z = R) := by
              have h := HQ2.out
              rw [if_pos hfz] at h
              exact h
            have hne : (fv != z) = false := by rw [hfz]; exact bne_self_eq_false z
            have hne2 : (fv == z) = true := by rw [hfz]; exact beq_self_eq_true z
            clear HQ2 HFV
            go_wp2
            go_roundw
            case rel =>
              have eA : Value.slice (sa2) (la) (ca - 1) = .slice (sa2) (r : List Cut).length (ca - 1) := by rw [HLA.out]
              have eB : Value.slice (sb) (0) (cb) = .slice (sb) ([] : List Cut).length (cb) := rfl
              have hra := HX.out.ra
              have hrb := HX.out.rb
              rw [eA] at hra
              rw [eB] at hrb
              exact ⟨r, [], M, (!x), y, z, mv, m, sa2, sb, ca - 1, cb, eA, eB, rfl, rfl, rfl, ⟨HX.out.made, HX.out.own, hra, hrb, fun x hx => HT.out.oka x (List.mem_cons_of_mem _ hx), fun x hx => HT.out.okb x hx, by have := HT.out.cnt; have eA : (a :: r).length = r.length + 1 := rfl; have eB : ([] : List Cut).length = 0 := rfl; omega, by have := HT.out.tot; have eA : (a :: r).length = r.length + 1 := rfl; have eB : ([] : List Cut).length = 0 := rfl; omega, HE2.out, HX.out.old⟩⟩
            case measure => simp only [lenV]; omega
          · have HE2 : Hid ((M ++ [a]) ++ tog f m r [] (!x) y (!z) = R) := by
              have h := HQ2.out
              rw [if_neg hfz] at h
              rw [List.append_assoc]
              exact h
            have hne : (fv != z) = true := bne_of hfz
            have hne2 : (fv == z) = false := by simpa using hfz
            clear HQ2 HFV
            go_wp2
            have hm7 := HX.out.made
            have hx7 := HX.out.box
            refine wp_region_perm [(false, 0), (false, 1), (false, 2), (false, 3), (false, 4), (false, 5), (true, 6), (true, 7), (true, 8), (true, 9), (true, 10)] (fun wx => Row wx w.heap.size #[.bool true, mv] 213 ∧ Row wx k (cutC a) 216) (by kernel_rfl) (by kernel_rfl) ⟨hm7, hx7⟩ ?_
            obtain ⟨mo, ml, mc, hmv⟩ : ∃ o l cp, mv = .slice o l cp := by
              obtain ⟨_, ⟨h1, _⟩ | ⟨g', c', cur, h1, _⟩⟩ := HX.out.own
              · exact ⟨_, _, _, h1⟩
              · exact ⟨_, _, _, h1⟩
            refine p_value (some 78) ?_ rfl rfl (by rfl) (fun w hw => ?_) ?_
            rotate_left
            · go_simp
              with_reducible rfl
            simp only [Act.put, List.setIfInBounds_toArray, List.set_cons_zero, List.set_cons_succ]
            refine p_value (some 79) ?_ rfl rfl (by rfl) (fun w hw => ?_) ?_
            rotate_left
            · go_simp
              with_reducible rfl
            simp only [Act.put, List.setIfInBounds_toArray, List.set_cons_zero, List.set_cons_succ]
            refine p_value (some 80) ?_ rfl rfl (by rfl) (fun w hw => ?_) ?_
            rotate_left
            · go_simp
              with_reducible rfl
            simp only [Act.put, List.setIfInBounds_toArray, List.set_cons_zero, List.set_cons_succ]
            refine p_value (some 81) ?_ rfl rfl (by rfl) (fun w hw => ?_) ?_
            rotate_left
            · go_simp
              with_reducible rfl
            simp only [Act.put, List.setIfInBounds_toArray, List.set_cons_zero, List.set_cons_succ]
            refine p_value (some 82) ?_ rfl rfl (by rfl) (fun w hw => ?_) ?_
            rotate_left
            · have hc := (hw.1.cell 1).trans (show _ = some mv from rfl)
              subst hmv
              go_simp
              with_reducible rfl
            simp only [Act.put, List.setIfInBounds_toArray, List.set_cons_zero, List.set_cons_succ]
            refine p_load_row (some 83) 216 _ rfl rfl rfl (by rfl) k rfl (cutC a) 216 _ (fun w h => h.2) Tryz.underlying216 rfl infoC ?_
            simp only [Act.put, List.setIfInBounds_toArray, List.set_cons_zero, List.set_cons_succ]
            refine p_buildSlice (some 84) 211 1 _ #[(0, cutV a)] _ _ rfl rfl rfl (by rfl) (by simp only [List.map_toArray, List.map_cons, List.map_nil]; rfl) (one_cut a _) (fun _ => ⟨hm7.alloc _, hx7.alloc _⟩) ?_
            simp only [Act.put, List.setIfInBounds_toArray, List.set_cons_zero, List.set_cons_succ]
            refine p_wp rfl (by rfl) ?_
            refine wp_append_any (some 85) rfl (.tmp 82) (.tmp 84) 211 216 (.agg zeroCut) 7 64 Tryz.underlying211 infoCz rfl (by decide) rfl (w.heap.size + 1) mv M.length (flatC M) hmv.symm ?own (some ⟨w6.drew.heap.size, 0, none⟩) w6.drew.heap.size 0 1 1 (encC a) rfl rfl (fun _ => rfl) ?cell ?one (fun h => nomatch h) ?len ?byt ?base ?go
            case own => exact own_same HX.out.own fun b hb => Below.heap_alloc _ _ b (own_block HX.out.own b hb).2
            case cell =>
              intro j u hj
              rw [Nat.zero_add, Row.cell (Row.new w6.drew (cutC a) 216) j]
              show (encC a).toArray[j]? = _
              rw [List.getElem?_toArray]
              exact hj
            case one =>
              intro u hu
              simp only [encC, List.mem_cons, List.not_mem_nil, or_false] at hu
              rcases hu with rfl | rfl | rfl | rfl | rfl | rfl | rfl <;> rfl
            case len => have := HT.out.tot; unfold maxLen; omega
            case byt => have := HT.out.tot; omega
            case base => have := HX.out.kk; have := HX.out.box.lt; simp; omega
            case go =>
              intro v' w8 hown hgr _
              obtain ⟨hr8, hx8, hr9, ho9, ra9, rb9, old9⟩ := tg_more HX.out hown hgr
              refine ⟨fun _ => ⟨hr8, hx8⟩, ?_⟩
              obtain ⟨mo', ml', mc', rfl⟩ : ∃ o l cp, v' = .slice o l cp := by
                obtain ⟨_, ⟨h1, _⟩ | ⟨g', c', cur, h1, _⟩⟩ := hown
                · exact ⟨_, _, _, h1⟩
                · exact ⟨_, _, _, h1⟩
              have hcell := (hr8.cell 1).trans (show _ = some mv from rfl)
              have hfz8 := hr8.frozen 1
              rw [hmv] at hcell
              have HR9 : Hid _ := hr9
              have HO9 : Hid _ := ho9
              have HRA9 : Hid _ := ra9
              have HRB9 : Hid _ := rb9
              have HOL9 : Hid _ := old9
              clear hr9 ho9 ra9 rb9 old9 hown hgr
              simp only [Act.put, List.setIfInBounds_toArray, List.set_cons_zero, List.set_cons_succ]
              refine p_alone (some 86) (.pointer (some ⟨w.heap.size, 0, none⟩)) w8 rfl rfl (by rfl) (by go_simp) (fun _ => ⟨hr8, hx8⟩) ?_
              simp only [Act.put, List.setIfInBounds_toArray, List.set_cons_zero, List.set_cons_succ]
              refine p_alone (some 87) (.pointer (some ⟨w.heap.size, 1, none⟩)) w8 rfl rfl (by rfl) (by go_simp) (fun _ => ⟨hr8, hx8⟩) ?_
              simp only [Act.put, List.setIfInBounds_toArray, List.set_cons_zero, List.set_cons_succ]
              refine p_store (w8.setCell ⟨w.heap.size, 1, none⟩ (.slice mo' ml' mc')) rfl rfl (by rfl) (by go_simp) (fun h => absurd rfl h) ?_
              refine p_done ?_
              try simp only [Exit.then]
              clear hcell hfz8 hm7 hx7 hmv hr8 hx8
              go_wp2
              go_roundw
              case rel =>
                have eA : Value.slice (sa2) (la) (ca - 1) = .slice (sa2) (r : List Cut).length (ca - 1) := by rw [HLA.out]
                have eB : Value.slice (sb) (0) (cb) = .slice (sb) ([] : List Cut).length (cb) := rfl
                have hra := HRA9.out
                have hrb := HRB9.out
                rw [eA] at hra
                rw [eB] at hrb
                exact ⟨r, [], (M ++ [a]), (!x), y, (!z), (.slice mo' ml' mc'), m, sa2, sb, ca - 1, cb, eA, eB, rfl, rfl, rfl, ⟨HR9.out, HO9.out, hra, hrb, fun x hx => HT.out.oka x (List.mem_cons_of_mem _ hx), fun x hx => HT.out.okb x hx, by have := HT.out.cnt; have eA : (a :: r).length = r.length + 1 := rfl; have eB : ([] : List Cut).length = 0 := rfl; omega, by have := HT.out.tot; have eA : (a :: r).length = r.length + 1 := rfl; have eB : ([] : List Cut).length = 0 := rfl; have eM : (M ++ [a]).length = M.length + 1 := List.length_append; omega, HE2.out, HOL9.out⟩⟩
              case measure => simp only [lenV]; omega
        · by_cases hlt : lt b a
          · have hab : ¬ a = b := fun e => lt_irr a (by rw [← e] at hlt; exact hlt)
            have hc : lst (a :: r) (b :: s) = b := by rw [lst_cc, if_pos hlt]
            rw [hc] at heq hlst HBX
            have HQ : Hid (M ++ (if f x (!y) = z then tog f m (a :: r) s x (!y) z else b :: tog f m (a :: r) s x (!y) (!z)) = R) := by
              have h := heq
              rw [popX_cons, popL_cons, if_neg (show ¬ a = b from hab), if_neg (show ¬ a = b from hab)] at h
              rw [popX_cons, popL_cons, if_pos rfl, if_pos rfl] at h
              exact h
            have HEA : Hid (¬ a = b) := hab
            have HEB : Hid (b = b) := rfl
            clear hab hlt
            obtain ⟨ga2, oa2, ca2, hsa, hga, hcpa, _⟩ := cuts_head hT.ra
            simp only [List.length_cons, Value.slice.injEq] at hsa
            obtain ⟨rfl, _, rfl⟩ := hsa
            obtain ⟨la, hla2⟩ : ∃ n, n = r.length := ⟨_, rfl⟩
            have HLA : Hid (la = r.length) := hla2
            have hlra : (1 : Int) ≤ (la : Int) + 1 := by omega
            have hlpa : (0 : Int) < ((la + 1 : Nat) : Int) := by omega
            have hcqa : la + 1 ≤ ca := by omega
            have hlqa : la + 1 < 100000 := by rw [List.length_cons] at hlA; omega
            have hlca : (a :: r).length = la + 1 := by rw [hla2]; rfl
            rw [hlca] at hlst HBX
            rw [hlca]
            clear hlca hla2 hcpa hga
            obtain ⟨gb2, ob2, cb2, hsb, hgb, hcpb, _⟩ := cuts_head hT.rb
            simp only [List.length_cons, Value.slice.injEq] at hsb
            obtain ⟨rfl, _, rfl⟩ := hsb
            obtain ⟨lb, hlb2⟩ : ∃ n, n = s.length := ⟨_, rfl⟩
            have HLB : Hid (lb = s.length) := hlb2
            have hlrb : (1 : Int) ≤ (lb : Int) + 1 := by omega
            have hlpb : (0 : Int) < ((lb + 1 : Nat) : Int) := by omega
            have hcqb : lb + 1 ≤ cb := by omega
            have hlqb : lb + 1 < 100000 := by rw [List.length_cons] at hlB; omega
            have hlcb : (b :: s).length = lb + 1 := by rw [hlb2]; rfl
            rw [hlcb] at hlst HBX
            rw [hlcb]
            clear hlcb hlb2 hcpb hgb
            have HLS : Hid _ := hlst
            have HBX2 : Hid _ := HBX
            clear hlst HBX heq hT hlA hlB h0 hc
            go_wp2_with fail
            refine Calls.mono HLS.out ?_
            rintro e w1 ⟨rfl, hb1⟩
            have hX := HBX2.out w1 hb1
            clear HLS HBX2
            have HBs : Hid _ := hb1
            clear hb1
            go_wp2_with (refine wpList_store_new rfl 216 _ _ rfl w1 zeroCut (cutC b) 216 rfl w1.heap.size rfl rfl rfl infoC rfl (cutC_one _) ?_)
            obtain ⟨w3, hw3⟩ : ∃ x, x = w1.alloc (.cells (cutC b) 216) := ⟨_, rfl⟩
            rw [← hw3] at hX
            rw [← hw3]
            clear hw3
            obtain ⟨k, hk⟩ : ∃ k, k = w1.heap.size := ⟨_, rfl⟩
            rw [← hk] at hX
            rw [← hk]
            clear hk HBs
            have HX : Hid _ := hX
            clear hX
            refine wp_region_quiet (C := (TgC w M mv (.slice (some ⟨ga2, oa2, none⟩) (la + 1) ca) (.slice (some ⟨gb2, ob2, none⟩) (lb + 1) cb) (a :: r) (b :: s) b k)) (by kernel_rfl) (by kernel_rfl) (HX.out.drew) ?_
            simp only []
            refine q_value ?_ (by rfl) (fun w hw => ?_) ?_
            rotate_left
            · go_simp
              with_reducible rfl
            simp only [Act.put, List.setIfInBounds_toArray, List.set_cons_zero, List.set_cons_succ]
            refine q_value ?_ (by rfl) (fun w hw => ?_) ?_
            rotate_left
            · go_simp
              with_reducible rfl
            simp only [Act.put, List.setIfInBounds_toArray, List.set_cons_zero, List.set_cons_succ]
            refine q_value ?_ (by rfl) (fun w hw => ?_) ?_
            rotate_left
            · go_simp
              with_reducible rfl
            simp only [Act.put, List.setIfInBounds_toArray, List.set_cons_zero, List.set_cons_succ]
            refine q_value ?_ (by rfl) (fun w hw => ?_) ?_
            rotate_left
            · go_simp
              with_reducible rfl
            simp only [Act.put, List.setIfInBounds_toArray, List.set_cons_zero, List.set_cons_succ]
            refine q_value ?_ (by rfl) (fun w hw => ?_) ?_
            rotate_left
            · go_simp
              with_reducible rfl
            simp only [Act.put, List.setIfInBounds_toArray, List.set_cons_zero, List.set_cons_succ]
            refine q_value ?_ (by rfl) (fun w hw => ?_) ?_
            rotate_left
            · go_simp
              with_reducible rfl
            simp only [Act.put, List.setIfInBounds_toArray, List.set_cons_zero, List.set_cons_succ]
            refine q_mid 216 _ rfl (by rfl) ga2 oa2 _ _ rfl (fun w h => head_range h.ra) Tryz.underlying216 rfl infoC ?_
            simp only [Act.put, List.setIfInBounds_toArray, List.set_cons_zero, List.set_cons_succ]
            refine q_load 216 _ rfl (by rfl) k (cutC b) 216 _ rfl (fun w h => h.box) Tryz.underlying216 rfl infoC ?_
            simp only [Act.put, List.setIfInBounds_toArray, List.set_cons_zero, List.set_cons_succ]
            refine q_eqc a b false (decide_eq_false HEA.out) (by rfl) _ _ rfl rfl rfl ?_
            simp only [Act.put, List.setIfInBounds_toArray, List.set_cons_zero, List.set_cons_succ]
            refine q_value ?_ (by rfl) (fun w hw => ?_) ?_
            rotate_left
            · go_simp
              with_reducible rfl
            simp only [Act.put, List.setIfInBounds_toArray, List.set_cons_zero, List.set_cons_succ]
            refine wpQuiet_nil ?_
            intro w4 hX
            simp only [Exit.then]
            clear HX
            have HX : Hid _ := hX
            clear hX
            go_wp2
            refine wp_region_quiet (C := (TgC w M mv (.slice (some ⟨ga2, oa2, none⟩) (la + 1) ca) (.slice (some ⟨gb2, ob2, none⟩) (lb + 1) cb) (a :: r) (b :: s) b k)) (by kernel_rfl) (by kernel_rfl) (HX.out.drew) ?_
            simp only []
            refine q_value ?_ (by rfl) (fun w hw => ?_) ?_
            rotate_left
            · go_simp
              with_reducible rfl
            simp only [Act.put, List.setIfInBounds_toArray, List.set_cons_zero, List.set_cons_succ]
            refine q_value ?_ (by rfl) (fun w hw => ?_) ?_
            rotate_left
            · go_simp
              with_reducible rfl
            simp only [Act.put, List.setIfInBounds_toArray, List.set_cons_zero, List.set_cons_succ]
            refine q_value ?_ (by rfl) (fun w hw => ?_) ?_
            rotate_left
            · go_simp
              with_reducible rfl
            simp only [Act.put, List.setIfInBounds_toArray, List.set_cons_zero, List.set_cons_succ]
            refine q_value ?_ (by rfl) (fun w hw => ?_) ?_
            rotate_left
            · go_simp
              with_reducible rfl
            simp only [Act.put, List.setIfInBounds_toArray, List.set_cons_zero, List.set_cons_succ]
            refine q_value ?_ (by rfl) (fun w hw => ?_) ?_
            rotate_left
            · go_simp
              with_reducible rfl
            simp only [Act.put, List.setIfInBounds_toArray, List.set_cons_zero, List.set_cons_succ]
            refine q_value ?_ (by rfl) (fun w hw => ?_) ?_
            rotate_left
            · go_simp
              with_reducible rfl
            simp only [Act.put, List.setIfInBounds_toArray, List.set_cons_zero, List.set_cons_succ]
            refine q_mid 216 _ rfl (by rfl) gb2 ob2 _ _ rfl (fun w h => head_range h.rb) Tryz.underlying216 rfl infoC ?_
            simp only [Act.put, List.setIfInBounds_toArray, List.set_cons_zero, List.set_cons_succ]
            refine q_load 216 _ rfl (by rfl) k (cutC b) 216 _ rfl (fun w h => h.box) Tryz.underlying216 rfl infoC ?_
            simp only [Act.put, List.setIfInBounds_toArray, List.set_cons_zero, List.set_cons_succ]
            refine q_eqc b b true (decide_eq_true rfl) (by rfl) _ _ rfl rfl rfl ?_
            simp only [Act.put, List.setIfInBounds_toArray, List.set_cons_zero, List.set_cons_succ]
            refine q_value ?_ (by rfl) (fun w hw => ?_) ?_
            rotate_left
            · go_simp
              with_reducible rfl
            simp only [Act.put, List.setIfInBounds_toArray, List.set_cons_zero, List.set_cons_succ]
            refine wpQuiet_nil ?_
            intro w6 hX
            simp only [Exit.then]
            clear HX
            have HX : Hid _ := hX
            clear hX
            go_wp2
            refine wp_region_quiet (C := (TgC w M mv (.slice (some ⟨ga2, oa2, none⟩) (la + 1) ca) (.slice (some ⟨gb2, ob2, none⟩) (lb + 1) cb) (a :: r) (b :: s) b k)) (by kernel_rfl) (by kernel_rfl) (HX.out.drew) ?_
            simp only []
            refine q_value ?_ (by rfl) (fun w hw => ?_) ?_
            rotate_left
            · go_simp
              with_reducible rfl
            simp only [Act.put, List.setIfInBounds_toArray, List.set_cons_zero, List.set_cons_succ]
            refine q_value ?_ (by rfl) (fun w hw => ?_) ?_
            rotate_left
            · go_simp
              with_reducible rfl
            simp only [Act.put, List.setIfInBounds_toArray, List.set_cons_zero, List.set_cons_succ]
            refine q_value ?_ (by rfl) (fun w hw => ?_) ?_
            rotate_left
            · go_simp
              with_reducible rfl
            simp only [Act.put, List.setIfInBounds_toArray, List.set_cons_zero, List.set_cons_succ]
            refine q_value ?_ (by rfl) (fun w hw => ?_) ?_
            rotate_left
            · go_simp
              with_reducible rfl
            simp only [Act.put, List.setIfInBounds_toArray, List.set_cons_zero, List.set_cons_succ]
            refine q_value ?_ (by rfl) (fun w hw => ?_) ?_
            rotate_left
            · go_simp
              with_reducible rfl
            simp only [Act.put, List.setIfInBounds_toArray, List.set_cons_zero, List.set_cons_succ]
            refine q_value ?_ (by rfl) (fun w hw => ?_) ?_
            rotate_left
            · go_simp
              with_reducible rfl
            simp only [Act.put, List.setIfInBounds_toArray, List.set_cons_zero, List.set_cons_succ]
            refine wpQuiet_nil ?_
            intro w7 hX
            clear HX
            have hR := CutsAt.rest hX.rb HLB.out
            obtain ⟨sb2, hsb2⟩ : ∃ x : Option Addr, x = if cb = 1 then some ⟨gb2, ob2, none⟩ else some ⟨gb2, ob2 + 7, none⟩ := ⟨_, rfl⟩
            rw [← hsb2] at hR ⊢
            clear hsb2
            have HX : Hid (TgC w M mv (.slice (some ⟨ga2, oa2, none⟩) (la + 1) ca) (.slice sb2 lb (cb - 1)) (a :: r) s b k w7) := ⟨hX.made, hX.own, hX.sep, hX.ra, hR, hX.box, hX.kk, hX.old⟩
            clear hX hR
            simp only [Exit.then]
            go_wp2
            rw [HCF.out x (!y) w7]
            simp only [Oper.upon]
            refine Calls.mono (HF.out x (!y) w7) ?_
            rintro e wn ⟨rfl, hwn⟩
            rw [hwn]
            clear hwn
            have HQ2 : Hid _ := HQ.out
            clear HQ
            obtain ⟨fv, hfv⟩ : ∃ b, b = f x (!y) := ⟨_, rfl⟩
            rw [← hfv] at HQ2 ⊢
            have HFV : Hid _ := hfv
            clear hfv
            by_cases hfz : fv = z
            · have HE2 : Hid (M ++ tog f m (a :: r) s x (!y) z = R) := by
                have h := HQ2.out
                rw [if_pos hfz] at h
                exact h
              have hne : (fv != z) = false := by rw [hfz]; exact bne_self_eq_false z
              have hne2 : (fv == z) = true := by rw [hfz]; exact beq_self_eq_true z
              clear HQ2 HFV
              go_wp2
              go_roundw
              case rel =>
                have eA : Value.slice (some ⟨ga2, oa2, none⟩) (la + 1) (ca) = .slice (some ⟨ga2, oa2, none⟩) ((a :: r) : List Cut).length (ca) := by rw [HLA.out]; rfl
                have eB : Value.slice (sb2) (lb) (cb - 1) = .slice (sb2) (s : List Cut).length (cb - 1) := by rw [HLB.out]
                have hra := HX.out.ra
                have hrb := HX.out.rb
                rw [eA] at hra
                rw [eB] at hrb
                exact ⟨(a :: r), s, M, x, (!y), z, mv, m, some ⟨ga2, oa2, none⟩, sb2, ca, cb - 1, eA, eB, rfl, rfl, rfl, ⟨HX.out.made, HX.out.own, hra, hrb, fun x hx => HT.out.oka x hx, fun x hx => HT.out.okb x (List.mem_cons_of_mem _ hx), by have := HT.out.cnt; have eA : (a :: r).length = r.length + 1 := rfl; have eB : (b :: s).length = s.length + 1 := rfl; omega, by have := HT.out.tot; have eA : (a :: r).length = r.length + 1 := rfl; have eB : (b :: s).length = s.length + 1 := rfl; omega, HE2.out, HX.out.old⟩⟩
              case measure => simp only [lenV]; omega
            · have HE2 : Hid ((M ++ [b]) ++ tog f m (a :: r) s x (!y) (!z) = R) := by
                have h := HQ2.out
                rw [if_neg hfz] at h
                rw [List.append_assoc]
                exact h
              have hne : (fv != z) = true := bne_of hfz
              have hne2 : (fv == z) = false := by simpa using hfz
              clear HQ2 HFV
              go_wp2
              have hm7 := HX.out.made
              have hx7 := HX.out.box
              refine wp_region_perm [(false, 0), (false, 1), (false, 2), (false, 3), (false, 4), (false, 5), (true, 6), (true, 7), (true, 8), (true, 9), (true, 10)] (fun wx => Row wx w.heap.size #[.bool true, mv] 213 ∧ Row wx k (cutC b) 216) (by kernel_rfl) (by kernel_rfl) ⟨hm7, hx7⟩ ?_
              obtain ⟨mo, ml, mc, hmv⟩ : ∃ o l cp, mv = .slice o l cp := by
                obtain ⟨_, ⟨h1, _⟩ | ⟨g', c', cur, h1, _⟩⟩ := HX.out.own
                · exact ⟨_, _, _, h1⟩
                · exact ⟨_, _, _, h1⟩
              refine p_value (some 78) ?_ rfl rfl (by rfl) (fun w hw => ?_) ?_
              rotate_left
              · go_simp
                with_reducible rfl
              simp only [Act.put, List.setIfInBounds_toArray, List.set_cons_zero, List.set_cons_succ]
              refine p_value (some 79) ?_ rfl rfl (by rfl) (fun w hw => ?_) ?_
              rotate_left
              · go_simp
                with_reducible rfl
              simp only [Act.put, List.setIfInBounds_toArray, List.set_cons_zero, List.set_cons_succ]
              refine p_value (some 80) ?_ rfl rfl (by rfl) (fun w hw => ?_) ?_
              rotate_left
              · go_simp
                with_reducible rfl
              simp only [Act.put, List.setIfInBounds_toArray, List.set_cons_zero, List.set_cons_succ]
              refine p_value (some 81) ?_ rfl rfl (by rfl) (fun w hw => ?_) ?_
              rotate_left
              · go_simp
                with_reducible rfl
              simp only [Act.put, List.setIfInBounds_toArray, List.set_cons_zero, List.set_cons_succ]
              refine p_value (some 82) ?_ rfl rfl (by rfl) (fun w hw => ?_) ?_
              rotate_left
              · have hc := (hw.1.cell 1).trans (show _ = some mv from rfl)
                subst hmv
                go_simp
                with_reducible rfl
              simp only [Act.put, List.setIfInBounds_toArray, List.set_cons_zero, List.set_cons_succ]
              refine p_load_row (some 83) 216 _ rfl rfl rfl (by rfl) k rfl (cutC b) 216 _ (fun w h => h.2) Tryz.underlying216 rfl infoC ?_
              simp only [Act.put, List.setIfInBounds_toArray, List.set_cons_zero, List.set_cons_succ]
              refine p_buildSlice (some 84) 211 1 _ #[(0, cutV b)] _ _ rfl rfl rfl (by rfl) (by simp only [List.map_toArray, List.map_cons, List.map_nil]; rfl) (one_cut b _) (fun _ => ⟨hm7.alloc _, hx7.alloc _⟩) ?_
              simp only [Act.put, List.setIfInBounds_toArray, List.set_cons_zero, List.set_cons_succ]
              refine p_wp rfl (by rfl) ?_
              refine wp_append_any (some 85) rfl (.tmp 82) (.tmp 84) 211 216 (.agg zeroCut) 7 64 Tryz.underlying211 infoCz rfl (by decide) rfl (w.heap.size + 1) mv M.length (flatC M) hmv.symm ?own (some ⟨w7.drew.heap.size, 0, none⟩) w7.drew.heap.size 0 1 1 (encC b) rfl rfl (fun _ => rfl) ?cell ?one (fun h => nomatch h) ?len ?byt ?base ?go
              case own => exact own_same HX.out.own fun b hb => Below.heap_alloc _ _ b (own_block HX.out.own b hb).2
              case cell =>
                intro j u hj
                rw [Nat.zero_add, Row.cell (Row.new w7.drew (cutC b) 216) j]
                show (encC b).toArray[j]? = _
                rw [List.getElem?_toArray]
                exact hj
              case one =>
                intro u hu
                simp only [encC, List.mem_cons, List.not_mem_nil, or_false] at hu
                rcases hu with rfl | rfl | rfl | rfl | rfl | rfl | rfl <;> rfl
              case len => have := HT.out.tot; unfold maxLen; omega
              case byt => have := HT.out.tot; omega
              case base => have := HX.out.kk; have := HX.out.box.lt; simp; omega
              case go =>
                intro v' w8 hown hgr _
                obtain ⟨hr8, hx8, hr9, ho9, ra9, rb9, old9⟩ := tg_more HX.out hown hgr
                refine ⟨fun _ => ⟨hr8, hx8⟩, ?_⟩
                obtain ⟨mo', ml', mc', rfl⟩ : ∃ o l cp, v' = .slice o l cp := by
                  obtain ⟨_, ⟨h1, _⟩ | ⟨g', c', cur, h1, _⟩⟩ := hown
                  · exact ⟨_, _, _, h1⟩
                  · exact ⟨_, _, _, h1⟩
                have hcell := (hr8.cell 1).trans (show _ = some mv from rfl)
                have hfz8 := hr8.frozen 1
                rw [hmv] at hcell
                have HR9 : Hid _ := hr9
                have HO9 : Hid _ := ho9
                have HRA9 : Hid _ := ra9
                have HRB9 : Hid _ := rb9
                have HOL9 : Hid _ := old9
                clear hr9 ho9 ra9 rb9 old9 hown hgr
                simp only [Act.put, List.setIfInBounds_toArray, List.set_cons_zero, List.set_cons_succ]
                refine p_alone (some 86) (.pointer (some ⟨w.heap.size, 0, none⟩)) w8 rfl rfl (by rfl) (by go_simp) (fun _ => ⟨hr8, hx8⟩) ?_
                simp only [Act.put, List.setIfInBounds_toArray, List.set_cons_zero, List.set_cons_succ]
                refine p_alone (some 87) (.pointer (some ⟨w.heap.size, 1, none⟩)) w8 rfl rfl (by rfl) (by go_simp) (fun _ => ⟨hr8, hx8⟩) ?_
                simp only [Act.put, List.setIfInBounds_toArray, List.set_cons_zero, List.set_cons_succ]
                refine p_store (w8.setCell ⟨w.heap.size, 1, none⟩ (.slice mo' ml' mc')) rfl rfl (by rfl) (by go_simp) (fun h => absurd rfl h) ?_
                refine p_done ?_
                try simp only [Exit.then]
                clear hcell hfz8 hm7 hx7 hmv hr8 hx8
                go_wp2
                go_roundw
                case rel =>
                  have eA : Value.slice (some ⟨ga2, oa2, none⟩) (la + 1) (ca) = .slice (some ⟨ga2, oa2, none⟩) ((a :: r) : List Cut).length (ca) := by rw [HLA.out]; rfl
                  have eB : Value.slice (sb2) (lb) (cb - 1) = .slice (sb2) (s : List Cut).length (cb - 1) := by rw [HLB.out]
                  have hra := HRA9.out
                  have hrb := HRB9.out
                  rw [eA] at hra
                  rw [eB] at hrb
                  exact ⟨(a :: r), s, (M ++ [b]), x, (!y), (!z), (.slice mo' ml' mc'), m, some ⟨ga2, oa2, none⟩, sb2, ca, cb - 1, eA, eB, rfl, rfl, rfl, ⟨HR9.out, HO9.out, hra, hrb, fun x hx => HT.out.oka x hx, fun x hx => HT.out.okb x (List.mem_cons_of_mem _ hx), by have := HT.out.cnt; have eA : (a :: r).length = r.length + 1 := rfl; have eB : (b :: s).length = s.length + 1 := rfl; omega, by have := HT.out.tot; have eA : (a :: r).length = r.length + 1 := rfl; have eB : (b :: s).length = s.length + 1 := rfl; have eM : (M ++ [b]).length = M.length + 1 := List.length_append; omega, HE2.out, HOL9.out⟩⟩
                case measure => simp only [lenV]; omega
          · by_cases hab : a = b
            · have hc : lst (a :: r) (b :: s) = a := by rw [lst_cc, if_neg hlt]
              rw [hc] at heq hlst HBX
              have HQ : Hid (M ++ (if f (!x) (!y) = z then tog f m r s (!x) (!y) z else a :: tog f m r s (!x) (!y) (!z)) = R) := by
                have h := heq
                rw [popX_cons, popL_cons, if_pos rfl, if_pos rfl] at h
                rw [popX_cons, popL_cons, if_pos hab.symm, if_pos hab.symm] at h
                exact h
              have HEA : Hid (a = a) := rfl
              have HEB : Hid (b = a) := hab.symm
              clear hab hlt
              obtain ⟨ga2, oa2, ca2, hsa, hga, hcpa, _⟩ := cuts_head hT.ra
              simp only [List.length_cons, Value.slice.injEq] at hsa
              obtain ⟨rfl, _, rfl⟩ := hsa
              obtain ⟨la, hla2⟩ : ∃ n, n = r.length := ⟨_, rfl⟩
              have HLA : Hid (la = r.length) := hla2
              have hlra : (1 : Int) ≤ (la : Int) + 1 := by omega
              have hlpa : (0 : Int) < ((la + 1 : Nat) : Int) := by omega
              have hcqa : la + 1 ≤ ca := by omega
              have hlqa : la + 1 < 100000 := by rw [List.length_cons] at hlA; omega
              have hlca : (a :: r).length = la + 1 := by rw [hla2]; rfl
              rw [hlca] at hlst HBX
              rw [hlca]
              clear hlca hla2 hcpa hga
              obtain ⟨gb2, ob2, cb2, hsb, hgb, hcpb, _⟩ := cuts_head hT.rb
              simp only [List.length_cons, Value.slice.injEq] at hsb
              obtain ⟨rfl, _, rfl⟩ := hsb
              obtain ⟨lb, hlb2⟩ : ∃ n, n = s.length := ⟨_, rfl⟩
              have HLB : Hid (lb = s.length) := hlb2
              have hlrb : (1 : Int) ≤ (lb : Int) + 1 := by omega
              have hlpb : (0 : Int) < ((lb + 1 : Nat) : Int) := by omega
              have hcqb : lb + 1 ≤ cb := by omega
              have hlqb : lb + 1 < 100000 := by rw [List.length_cons] at hlB; omega
              have hlcb : (b :: s).length = lb + 1 := by rw [hlb2]; rfl
              rw [hlcb] at hlst HBX
              rw [hlcb]
              clear hlcb hlb2 hcpb hgb
              have HLS : Hid _ := hlst
              have HBX2 : Hid _ := HBX
              clear hlst HBX heq hT hlA hlB h0 hc
              go_wp2_with fail
              refine Calls.mono HLS.out ?_
              rintro e w1 ⟨rfl, hb1⟩
              have hX := HBX2.out w1 hb1
              clear HLS HBX2
              have HBs : Hid _ := hb1
              clear hb1
              go_wp2_with (refine wpList_store_new rfl 216 _ _ rfl w1 zeroCut (cutC a) 216 rfl w1.heap.size rfl rfl rfl infoC rfl (cutC_one _) ?_)
              obtain ⟨w3, hw3⟩ : ∃ x, x = w1.alloc (.cells (cutC a) 216) := ⟨_, rfl⟩
              rw [← hw3] at hX
              rw [← hw3]
              clear hw3
              obtain ⟨k, hk⟩ : ∃ k, k = w1.heap.size := ⟨_, rfl⟩
              rw [← hk] at hX
              rw [← hk]
              clear hk HBs
              have HX : Hid _ := hX
              clear hX
              refine wp_region_quiet (C := (TgC w M mv (.slice (some ⟨ga2, oa2, none⟩) (la + 1) ca) (.slice (some ⟨gb2, ob2, none⟩) (lb + 1) cb) (a :: r) (b :: s) a k)) (by kernel_rfl) (by kernel_rfl) (HX.out.drew) ?_
              simp only []
              refine q_value ?_ (by rfl) (fun w hw => ?_) ?_
              rotate_left
              · go_simp
                with_reducible rfl
              simp only [Act.put, List.setIfInBounds_toArray, List.set_cons_zero, List.set_cons_succ]
              refine q_value ?_ (by rfl) (fun w hw => ?_) ?_
              rotate_left
              · go_simp
                with_reducible rfl
              simp only [Act.put, List.setIfInBounds_toArray, List.set_cons_zero, List.set_cons_succ]
              refine q_value ?_ (by rfl) (fun w hw => ?_) ?_
              rotate_left
              · go_simp
                with_reducible rfl
              simp only [Act.put, List.setIfInBounds_toArray, List.set_cons_zero, List.set_cons_succ]
              refine q_value ?_ (by rfl) (fun w hw => ?_) ?_
              rotate_left
              · go_simp
                with_reducible rfl
              simp only [Act.put, List.setIfInBounds_toArray, List.set_cons_zero, List.set_cons_succ]
              refine q_value ?_ (by rfl) (fun w hw => ?_) ?_
              rotate_left
              · go_simp
                with_reducible rfl
              simp only [Act.put, List.setIfInBounds_toArray, List.set_cons_zero, List.set_cons_succ]
              refine q_value ?_ (by rfl) (fun w hw => ?_) ?_
              rotate_left
              · go_simp
                with_reducible rfl
              simp only [Act.put, List.setIfInBounds_toArray, List.set_cons_zero, List.set_cons_succ]
              refine q_mid 216 _ rfl (by rfl) ga2 oa2 _ _ rfl (fun w h => head_range h.ra) Tryz.underlying216 rfl infoC ?_
              simp only [Act.put, List.setIfInBounds_toArray, List.set_cons_zero, List.set_cons_succ]
              refine q_load 216 _ rfl (by rfl) k (cutC a) 216 _ rfl (fun w h => h.box) Tryz.underlying216 rfl infoC ?_
              simp only [Act.put, List.setIfInBounds_toArray, List.set_cons_zero, List.set_cons_succ]
              refine q_eqc a a true (decide_eq_true rfl) (by rfl) _ _ rfl rfl rfl ?_
              simp only [Act.put, List.setIfInBounds_toArray, List.set_cons_zero, List.set_cons_succ]
              refine q_value ?_ (by rfl) (fun w hw => ?_) ?_
              rotate_left
              · go_simp
                with_reducible rfl
              simp only [Act.put, List.setIfInBounds_toArray, List.set_cons_zero, List.set_cons_succ]
              refine wpQuiet_nil ?_
              intro w4 hX
              simp only [Exit.then]
              clear HX
              have HX : Hid _ := hX
              clear hX
              go_wp2
              refine wp_region_quiet (C := (TgC w M mv (.slice (some ⟨ga2, oa2, none⟩) (la + 1) ca) (.slice (some ⟨gb2, ob2, none⟩) (lb + 1) cb) (a :: r) (b :: s) a k)) (by kernel_rfl) (by kernel_rfl) (HX.out.drew) ?_
              simp only []
              refine q_value ?_ (by rfl) (fun w hw => ?_) ?_
              rotate_left
              · go_simp
                with_reducible rfl
              simp only [Act.put, List.setIfInBounds_toArray, List.set_cons_zero, List.set_cons_succ]
              refine q_value ?_ (by rfl) (fun w hw => ?_) ?_
              rotate_left
              · go_simp
                with_reducible rfl
              simp only [Act.put, List.setIfInBounds_toArray, List.set_cons_zero, List.set_cons_succ]
              refine q_value ?_ (by rfl) (fun w hw => ?_) ?_
              rotate_left
              · go_simp
                with_reducible rfl
              simp only [Act.put, List.setIfInBounds_toArray, List.set_cons_zero, List.set_cons_succ]
              refine q_value ?_ (by rfl) (fun w hw => ?_) ?_
              rotate_left
              · go_simp
                with_reducible rfl
              simp only [Act.put, List.setIfInBounds_toArray, List.set_cons_zero, List.set_cons_succ]
              refine q_value ?_ (by rfl) (fun w hw => ?_) ?_
              rotate_left
              · go_simp
                with_reducible rfl
              simp only [Act.put, List.setIfInBounds_toArray, List.set_cons_zero, List.set_cons_succ]
              refine q_value ?_ (by rfl) (fun w hw => ?_) ?_
              rotate_left
              · go_simp
                with_reducible rfl
              simp only [Act.put, List.setIfInBounds_toArray, List.set_cons_zero, List.set_cons_succ]
              refine wpQuiet_nil ?_
              intro w5 hX
              clear HX
              have hR := CutsAt.rest hX.ra HLA.out
              obtain ⟨sa2, hsa2⟩ : ∃ x : Option Addr, x = if ca = 1 then some ⟨ga2, oa2, none⟩ else some ⟨ga2, oa2 + 7, none⟩ := ⟨_, rfl⟩
              rw [← hsa2] at hR ⊢
              clear hsa2
              have HX : Hid (TgC w M mv (.slice sa2 la (ca - 1)) (.slice (some ⟨gb2, ob2, none⟩) (lb + 1) cb) r (b :: s) a k w5) := ⟨hX.made, hX.own, hX.sep, hR, hX.rb, hX.box, hX.kk, hX.old⟩
              clear hX hR
              simp only [Exit.then]
              go_wp2
              refine wp_region_quiet (C := (TgC w M mv (.slice sa2 la (ca - 1)) (.slice (some ⟨gb2, ob2, none⟩) (lb + 1) cb) r (b :: s) a k)) (by kernel_rfl) (by kernel_rfl) (HX.out.drew) ?_
              simp only []
              refine q_value ?_ (by rfl) (fun w hw => ?_) ?_
              rotate_left
              · go_simp
                with_reducible rfl
              simp only [Act.put, List.setIfInBounds_toArray, List.set_cons_zero, List.set_cons_succ]
              refine q_value ?_ (by rfl) (fun w hw => ?_) ?_
              rotate_left
              · go_simp
                with_reducible rfl
              simp only [Act.put, List.setIfInBounds_toArray, List.set_cons_zero, List.set_cons_succ]
              refine q_value ?_ (by rfl) (fun w hw => ?_) ?_
              rotate_left
              · go_simp
                with_reducible rfl
              simp only [Act.put, List.setIfInBounds_toArray, List.set_cons_zero, List.set_cons_succ]
              refine q_value ?_ (by rfl) (fun w hw => ?_) ?_
              rotate_left
              · go_simp
                with_reducible rfl
              simp only [Act.put, List.setIfInBounds_toArray, List.set_cons_zero, List.set_cons_succ]
              refine q_value ?_ (by rfl) (fun w hw => ?_) ?_
              rotate_left
              · go_simp
                with_reducible rfl
              simp only [Act.put, List.setIfInBounds_toArray, List.set_cons_zero, List.set_cons_succ]
              refine q_value ?_ (by rfl) (fun w hw => ?_) ?_
              rotate_left
              · go_simp
                with_reducible rfl
              simp only [Act.put, List.setIfInBounds_toArray, List.set_cons_zero, List.set_cons_succ]
              refine q_mid 216 _ rfl (by rfl) gb2 ob2 _ _ rfl (fun w h => head_range h.rb) Tryz.underlying216 rfl infoC ?_
              simp only [Act.put, List.setIfInBounds_toArray, List.set_cons_zero, List.set_cons_succ]
              refine q_load 216 _ rfl (by rfl) k (cutC a) 216 _ rfl (fun w h => h.box) Tryz.underlying216 rfl infoC ?_
              simp only [Act.put, List.setIfInBounds_toArray, List.set_cons_zero, List.set_cons_succ]
              refine q_eqc b a true (decide_eq_true HEB.out) (by rfl) _ _ rfl rfl rfl ?_
              simp only [Act.put, List.setIfInBounds_toArray, List.set_cons_zero, List.set_cons_succ]
              refine q_value ?_ (by rfl) (fun w hw => ?_) ?_
              rotate_left
              · go_simp
                with_reducible rfl
              simp only [Act.put, List.setIfInBounds_toArray, List.set_cons_zero, List.set_cons_succ]
              refine wpQuiet_nil ?_
              intro w6 hX
              simp only [Exit.then]
              clear HX
              have HX : Hid _ := hX
              clear hX
              go_wp2
              refine wp_region_quiet (C := (TgC w M mv (.slice sa2 la (ca - 1)) (.slice (some ⟨gb2, ob2, none⟩) (lb + 1) cb) r (b :: s) a k)) (by kernel_rfl) (by kernel_rfl) (HX.out.drew) ?_
              simp only []
              refine q_value ?_ (by rfl) (fun w hw => ?_) ?_
              rotate_left
              · go_simp
                with_reducible rfl
              simp only [Act.put, List.setIfInBounds_toArray, List.set_cons_zero, List.set_cons_succ]
              refine q_value ?_ (by rfl) (fun w hw => ?_) ?_
              rotate_left
              · go_simp
                with_reducible rfl
              simp only [Act.put, List.setIfInBounds_toArray, List.set_cons_zero, List.set_cons_succ]
              refine q_value ?_ (by rfl) (fun w hw => ?_) ?_
              rotate_left
              · go_simp
                with_reducible rfl
              simp only [Act.put, List.setIfInBounds_toArray, List.set_cons_zero, List.set_cons_succ]
              refine q_value ?_ (by rfl) (fun w hw => ?_) ?_
              rotate_left
              · go_simp
                with_reducible rfl
              simp only [Act.put, List.setIfInBounds_toArray, List.set_cons_zero, List.set_cons_succ]
              refine q_value ?_ (by rfl) (fun w hw => ?_) ?_
              rotate_left
              · go_simp
                with_reducible rfl
              simp only [Act.put, List.setIfInBounds_toArray, List.set_cons_zero, List.set_cons_succ]
              refine q_value ?_ (by rfl) (fun w hw => ?_) ?_
              rotate_left
              · go_simp
                with_reducible rfl
              simp only [Act.put, List.setIfInBounds_toArray, List.set_cons_zero, List.set_cons_succ]
              refine wpQuiet_nil ?_
              intro w7 hX
              clear HX
              have hR := CutsAt.rest hX.rb HLB.out
              obtain ⟨sb2, hsb2⟩ : ∃ x : Option Addr, x = if cb = 1 then some ⟨gb2, ob2, none⟩ else some ⟨gb2, ob2 + 7, none⟩ := ⟨_, rfl⟩
              rw [← hsb2] at hR ⊢
              clear hsb2
              have HX : Hid (TgC w M mv (.slice sa2 la (ca - 1)) (.slice sb2 lb (cb - 1)) r s a k w7) := ⟨hX.made, hX.own, hX.sep, hX.ra, hR, hX.box, hX.kk, hX.old⟩
              clear hX hR
              simp only [Exit.then]
              go_wp2
              rw [HCF.out (!x) (!y) w7]
              simp only [Oper.upon]
              refine Calls.mono (HF.out (!x) (!y) w7) ?_
              rintro e wn ⟨rfl, hwn⟩
              rw [hwn]
              clear hwn
              have HQ2 : Hid _ := HQ.out
              clear HQ
              obtain ⟨fv, hfv⟩ : ∃ b, b = f (!x) (!y) := ⟨_, rfl⟩
              rw [← hfv] at HQ2 ⊢
              have HFV : Hid _ := hfv
              clear hfv
              by_cases hfz : fv = z
              · have HE2 : Hid (M ++ tog f m r s (!x) (!y) z = R) := by
                  have h := HQ2.out
                  rw [if_pos hfz] at h
                  exact h
                have hne : (fv != z) = false := by rw [hfz]; exact bne_self_eq_false z
                have hne2 : (fv == z) = true := by rw [hfz]; exact beq_self_eq_true z
                clear HQ2 HFV
                go_wp2
                go_roundw
                case rel =>
                  have eA : Value.slice (sa2) (la) (ca - 1) = .slice (sa2) (r : List Cut).length (ca - 1) := by rw [HLA.out]
                  have eB : Value.slice (sb2) (lb) (cb - 1) = .slice (sb2) (s : List Cut).length (cb - 1) := by rw [HLB.out]
                  have hra := HX.out.ra
                  have hrb := HX.out.rb
                  rw [eA] at hra
                  rw [eB] at hrb
                  exact ⟨r, s, M, (!x), (!y), z, mv, m, sa2, sb2, ca - 1, cb - 1, eA, eB, rfl, rfl, rfl, ⟨HX.out.made, HX.out.own, hra, hrb, fun x hx => HT.out.oka x (List.mem_cons_of_mem _ hx), fun x hx => HT.out.okb x (List.mem_cons_of_mem _ hx), by have := HT.out.cnt; have eA : (a :: r).length = r.length + 1 := rfl; have eB : (b :: s).length = s.length + 1 := rfl; omega, by have := HT.out.tot; have eA : (a :: r).length = r.length + 1 := rfl; have eB : (b :: s).length = s.length + 1 := rfl; omega, HE2.out, HX.out.old⟩⟩
                case measure => simp only [lenV]; omega
              · have HE2 : Hid ((M ++ [a]) ++ tog f m r s (!x) (!y) (!z) = R) := by
                  have h := HQ2.out
                  rw [if_neg hfz] at h
                  rw [List.append_assoc]
                  exact h
                have hne : (fv != z) = true := bne_of hfz
                have hne2 : (fv == z) = false := by simpa using hfz
                clear HQ2 HFV
                go_wp2
                have hm7 := HX.out.made
                have hx7 := HX.out.box
                refine wp_region_perm [(false, 0), (false, 1), (false, 2), (false, 3), (false, 4), (false, 5), (true, 6), (true, 7), (true, 8), (true, 9), (true, 10)] (fun wx => Row wx w.heap.size #[.bool true, mv] 213 ∧ Row wx k (cutC a) 216) (by kernel_rfl) (by kernel_rfl) ⟨hm7, hx7⟩ ?_
                obtain ⟨mo, ml, mc, hmv⟩ : ∃ o l cp, mv = .slice o l cp := by
                  obtain ⟨_, ⟨h1, _⟩ | ⟨g', c', cur, h1, _⟩⟩ := HX.out.own
                  · exact ⟨_, _, _, h1⟩
                  · exact ⟨_, _, _, h1⟩
                refine p_value (some 78) ?_ rfl rfl (by rfl) (fun w hw => ?_) ?_
                rotate_left
                · go_simp
                  with_reducible rfl
                simp only [Act.put, List.setIfInBounds_toArray, List.set_cons_zero, List.set_cons_succ]
                refine p_value (some 79) ?_ rfl rfl (by rfl) (fun w hw => ?_) ?_
                rotate_left
                · go_simp
                  with_reducible rfl
                simp only [Act.put, List.setIfInBounds_toArray, List.set_cons_zero, List.set_cons_succ]
                refine p_value (some 80) ?_ rfl rfl (by rfl) (fun w hw => ?_) ?_
                rotate_left
                · go_simp
                  with_reducible rfl
                simp only [Act.put, List.setIfInBounds_toArray, List.set_cons_zero, List.set_cons_succ]
                refine p_value (some 81) ?_ rfl rfl (by rfl) (fun w hw => ?_) ?_
                rotate_left
                · go_simp
                  with_reducible rfl
                simp only [Act.put, List.setIfInBounds_toArray, List.set_cons_zero, List.set_cons_succ]
                refine p_value (some 82) ?_ rfl rfl (by rfl) (fun w hw => ?_) ?_
                rotate_left
                · have hc := (hw.1.cell 1).trans (show _ = some mv from rfl)
                  subst hmv
                  go_simp
                  with_reducible rfl
                simp only [Act.put, List.setIfInBounds_toArray, List.set_cons_zero, List.set_cons_succ]
                refine p_load_row (some 83) 216 _ rfl rfl rfl (by rfl) k rfl (cutC a) 216 _ (fun w h => h.2) Tryz.underlying216 rfl infoC ?_
                simp only [Act.put, List.setIfInBounds_toArray, List.set_cons_zero, List.set_cons_succ]
                refine p_buildSlice (some 84) 211 1 _ #[(0, cutV a)] _ _ rfl rfl rfl (by rfl) (by simp only [List.map_toArray, List.map_cons, List.map_nil]; rfl) (one_cut a _) (fun _ => ⟨hm7.alloc _, hx7.alloc _⟩) ?_
                simp only [Act.put, List.setIfInBounds_toArray, List.set_cons_zero, List.set_cons_succ]
                refine p_wp rfl (by rfl) ?_
                refine wp_append_any (some 85) rfl (.tmp 82) (.tmp 84) 211 216 (.agg zeroCut) 7 64 Tryz.underlying211 infoCz rfl (by decide) rfl (w.heap.size + 1) mv M.length (flatC M) hmv.symm ?own (some ⟨w7.drew.heap.size, 0, none⟩) w7.drew.heap.size 0 1 1 (encC a) rfl rfl (fun _ => rfl) ?cell ?one (fun h => nomatch h) ?len ?byt ?base ?go
                case own => exact own_same HX.out.own fun b hb => Below.heap_alloc _ _ b (own_block HX.out.own b hb).2
                case cell =>
                  intro j u hj
                  rw [Nat.zero_add, Row.cell (Row.new w7.drew (cutC a) 216) j]
                  show (encC a).toArray[j]? = _
                  rw [List.getElem?_toArray]
                  exact hj
                case one =>
                  intro u hu
                  simp only [encC, List.mem_cons, List.not_mem_nil, or_false] at hu
                  rcases hu with rfl | rfl | rfl | rfl | rfl | rfl | rfl <;> rfl
                case len => have := HT.out.tot; unfold maxLen; omega
                case byt => have := HT.out.tot; omega
                case base => have := HX.out.kk; have := HX.out.box.lt; simp; omega
                case go =>
                  intro v' w8 hown hgr _
                  obtain ⟨hr8, hx8, hr9, ho9, ra9, rb9, old9⟩ := tg_more HX.out hown hgr
                  refine ⟨fun _ => ⟨hr8, hx8⟩, ?_⟩
                  obtain ⟨mo', ml', mc', rfl⟩ : ∃ o l cp, v' = .slice o l cp := by
                    obtain ⟨_, ⟨h1, _⟩ | ⟨g', c', cur, h1, _⟩⟩ := hown
                    · exact ⟨_, _, _, h1⟩
                    · exact ⟨_, _, _, h1⟩
                  have hcell := (hr8.cell 1).trans (show _ = some mv from rfl)
                  have hfz8 := hr8.frozen 1
                  rw [hmv] at hcell
                  have HR9 : Hid _ := hr9
                  have HO9 : Hid _ := ho9
                  have HRA9 : Hid _ := ra9
                  have HRB9 : Hid _ := rb9
                  have HOL9 : Hid _ := old9
                  clear hr9 ho9 ra9 rb9 old9 hown hgr
                  simp only [Act.put, List.setIfInBounds_toArray, List.set_cons_zero, List.set_cons_succ]
                  refine p_alone (some 86) (.pointer (some ⟨w.heap.size, 0, none⟩)) w8 rfl rfl (by rfl) (by go_simp) (fun _ => ⟨hr8, hx8⟩) ?_
                  simp only [Act.put, List.setIfInBounds_toArray, List.set_cons_zero, List.set_cons_succ]
                  refine p_alone (some 87) (.pointer (some ⟨w.heap.size, 1, none⟩)) w8 rfl rfl (by rfl) (by go_simp) (fun _ => ⟨hr8, hx8⟩) ?_
                  simp only [Act.put, List.setIfInBounds_toArray, List.set_cons_zero, List.set_cons_succ]
                  refine p_store (w8.setCell ⟨w.heap.size, 1, none⟩ (.slice mo' ml' mc')) rfl rfl (by rfl) (by go_simp) (fun h => absurd rfl h) ?_
                  refine p_done ?_
                  try simp only [Exit.then]
                  clear hcell hfz8 hm7 hx7 hmv hr8 hx8
                  go_wp2
                  go_roundw
                  case rel =>
                    have eA : Value.slice (sa2) (la) (ca - 1) = .slice (sa2) (r : List Cut).length (ca - 1) := by rw [HLA.out]
                    have eB : Value.slice (sb2) (lb) (cb - 1) = .slice (sb2) (s : List Cut).length (cb - 1) := by rw [HLB.out]
                    have hra := HRA9.out
                    have hrb := HRB9.out
                    rw [eA] at hra
                    rw [eB] at hrb
                    exact ⟨r, s, (M ++ [a]), (!x), (!y), (!z), (.slice mo' ml' mc'), m, sa2, sb2, ca - 1, cb - 1, eA, eB, rfl, rfl, rfl, ⟨HR9.out, HO9.out, hra, hrb, fun x hx => HT.out.oka x (List.mem_cons_of_mem _ hx), fun x hx => HT.out.okb x (List.mem_cons_of_mem _ hx), by have := HT.out.cnt; have eA : (a :: r).length = r.length + 1 := rfl; have eB : (b :: s).length = s.length + 1 := rfl; omega, by have := HT.out.tot; have eA : (a :: r).length = r.length + 1 := rfl; have eB : (b :: s).length = s.length + 1 := rfl; have eM : (M ++ [a]).length = M.length + 1 := List.length_append; omega, HE2.out, HOL9.out⟩⟩
                  case measure => simp only [lenV]; omega
            · have hc : lst (a :: r) (b :: s) = a := by rw [lst_cc, if_neg hlt]
              rw [hc] at heq hlst HBX
              have HQ : Hid (M ++ (if f (!x) y = z then tog f m r (b :: s) (!x) y z else a :: tog f m r (b :: s) (!x) y (!z)) = R) := by
                have h := heq
                rw [popX_cons, popL_cons, if_pos rfl, if_pos rfl] at h
                rw [popX_cons, popL_cons, if_neg (show ¬ b = a from fun h => hab h.symm), if_neg (show ¬ b = a from fun h => hab h.symm)] at h
                exact h
              have HEA : Hid (a = a) := rfl
              have HEB : Hid (¬ b = a) := fun h => hab h.symm
              clear hab hlt
              obtain ⟨ga2, oa2, ca2, hsa, hga, hcpa, _⟩ := cuts_head hT.ra
              simp only [List.length_cons, Value.slice.injEq] at hsa
              obtain ⟨rfl, _, rfl⟩ := hsa
              obtain ⟨la, hla2⟩ : ∃ n, n = r.length := ⟨_, rfl⟩
              have HLA : Hid (la = r.length) := hla2
              have hlra : (1 : Int) ≤ (la : Int) + 1 := by omega
              have hlpa : (0 : Int) < ((la + 1 : Nat) : Int) := by omega
              have hcqa : la + 1 ≤ ca := by omega
              have hlqa : la + 1 < 100000 := by rw [List.length_cons] at hlA; omega
              have hlca : (a :: r).length = la + 1 := by rw [hla2]; rfl
              rw [hlca] at hlst HBX
              rw [hlca]
              clear hlca hla2 hcpa hga
              obtain ⟨gb2, ob2, cb2, hsb, hgb, hcpb, _⟩ := cuts_head hT.rb
              simp only [List.length_cons, Value.slice.injEq] at hsb
              obtain ⟨rfl, _, rfl⟩ := hsb
              obtain ⟨lb, hlb2⟩ : ∃ n, n = s.length := ⟨_, rfl⟩
              have HLB : Hid (lb = s.length) := hlb2
              have hlrb : (1 : Int) ≤ (lb : Int) + 1 := by omega
              have hlpb : (0 : Int) < ((lb + 1 : Nat) : Int) := by omega
              have hcqb : lb + 1 ≤ cb := by omega
              have hlqb : lb + 1 < 100000 := by rw [List.length_cons] at hlB; omega
              have hlcb : (b :: s).length = lb + 1 := by rw [hlb2]; rfl
              rw [hlcb] at hlst HBX
              rw [hlcb]
              clear hlcb hlb2 hcpb hgb
              have HLS : Hid _ := hlst
              have HBX2 : Hid _ := HBX
              clear hlst HBX heq hT hlA hlB h0 hc
              go_wp2_with fail
              refine Calls.mono HLS.out ?_
              rintro e w1 ⟨rfl, hb1⟩
              have hX := HBX2.out w1 hb1
              clear HLS HBX2
              have HBs : Hid _ := hb1
              clear hb1
              go_wp2_with (refine wpList_store_new rfl 216 _ _ rfl w1 zeroCut (cutC a) 216 rfl w1.heap.size rfl rfl rfl infoC rfl (cutC_one _) ?_)
              obtain ⟨w3, hw3⟩ : ∃ x, x = w1.alloc (.cells (cutC a) 216) := ⟨_, rfl⟩
              rw [← hw3] at hX
              rw [← hw3]
              clear hw3
              obtain ⟨k, hk⟩ : ∃ k, k = w1.heap.size := ⟨_, rfl⟩
              rw [← hk] at hX
              rw [← hk]
              clear hk HBs
              have HX : Hid _ := hX
              clear hX
              refine wp_region_quiet (C := (TgC w M mv (.slice (some ⟨ga2, oa2, none⟩) (la + 1) ca) (.slice (some ⟨gb2, ob2, none⟩) (lb + 1) cb) (a :: r) (b :: s) a k)) (by kernel_rfl) (by kernel_rfl) (HX.out.drew) ?_
              simp only []
              refine q_value ?_ (by rfl) (fun w hw => ?_) ?_
              rotate_left
              · go_simp
                with_reducible rfl
              simp only [Act.put, List.setIfInBounds_toArray, List.set_cons_zero, List.set_cons_succ]
              refine q_value ?_ (by rfl) (fun w hw => ?_) ?_
              rotate_left
              · go_simp
                with_reducible rfl
              simp only [Act.put, List.setIfInBounds_toArray, List.set_cons_zero, List.set_cons_succ]
              refine q_value ?_ (by rfl) (fun w hw => ?_) ?_
              rotate_left
              · go_simp
                with_reducible rfl
              simp only [Act.put, List.setIfInBounds_toArray, List.set_cons_zero, List.set_cons_succ]
              refine q_value ?_ (by rfl) (fun w hw => ?_) ?_
              rotate_left
              · go_simp
                with_reducible rfl
              simp only [Act.put, List.setIfInBounds_toArray, List.set_cons_zero, List.set_cons_succ]
              refine q_value ?_ (by rfl) (fun w hw => ?_) ?_
              rotate_left
              · go_simp
                with_reducible rfl
              simp only [Act.put, List.setIfInBounds_toArray, List.set_cons_zero, List.set_cons_succ]
              refine q_value ?_ (by rfl) (fun w hw => ?_) ?_
              rotate_left
              · go_simp
                with_reducible rfl
              simp only [Act.put, List.setIfInBounds_toArray, List.set_cons_zero, List.set_cons_succ]
              refine q_mid 216 _ rfl (by rfl) ga2 oa2 _ _ rfl (fun w h => head_range h.ra) Tryz.underlying216 rfl infoC ?_
              simp only [Act.put, List.setIfInBounds_toArray, List.set_cons_zero, List.set_cons_succ]
              refine q_load 216 _ rfl (by rfl) k (cutC a) 216 _ rfl (fun w h => h.box) Tryz.underlying216 rfl infoC ?_
              simp only [Act.put, List.setIfInBounds_toArray, List.set_cons_zero, List.set_cons_succ]
              refine q_eqc a a true (decide_eq_true rfl) (by rfl) _ _ rfl rfl rfl ?_
              simp only [Act.put, List.setIfInBounds_toArray, List.set_cons_zero, List.set_cons_succ]
              refine q_value ?_ (by rfl) (fun w hw => ?_) ?_
              rotate_left
              · go_simp
                with_reducible rfl
              simp only [Act.put, List.setIfInBounds_toArray, List.set_cons_zero, List.set_cons_succ]
              refine wpQuiet_nil ?_
              intro w4 hX
              simp only [Exit.then]
              clear HX
              have HX : Hid _ := hX
              clear hX
              go_wp2
              refine wp_region_quiet (C := (TgC w M mv (.slice (some ⟨ga2, oa2, none⟩) (la + 1) ca) (.slice (some ⟨gb2, ob2, none⟩) (lb + 1) cb) (a :: r) (b :: s) a k)) (by kernel_rfl) (by kernel_rfl) (HX.out.drew) ?_
              simp only []
              refine q_value ?_ (by rfl) (fun w hw => ?_) ?_
              rotate_left
              · go_simp
                with_reducible rfl
              simp only [Act.put, List.setIfInBounds_toArray, List.set_cons_zero, List.set_cons_succ]
              refine q_value ?_ (by rfl) (fun w hw => ?_) ?_
              rotate_left
              · go_simp
                with_reducible rfl
              simp only [Act.put, List.setIfInBounds_toArray, List.set_cons_zero, List.set_cons_succ]
              refine q_value ?_ (by rfl) (fun w hw => ?_) ?_
              rotate_left
              · go_simp
                with_reducible rfl
              simp only [Act.put, List.setIfInBounds_toArray, List.set_cons_zero, List.set_cons_succ]
              refine q_value ?_ (by rfl) (fun w hw => ?_) ?_
              rotate_left
              · go_simp
                with_reducible rfl
              simp only [Act.put, List.setIfInBounds_toArray, List.set_cons_zero, List.set_cons_succ]
              refine q_value ?_ (by rfl) (fun w hw => ?_) ?_
              rotate_left
              · go_simp
                with_reducible rfl
              simp only [Act.put, List.setIfInBounds_toArray, List.set_cons_zero, List.set_cons_succ]
              refine q_value ?_ (by rfl) (fun w hw => ?_) ?_
              rotate_left
              · go_simp
                with_reducible rfl
              simp only [Act.put, List.setIfInBounds_toArray, List.set_cons_zero, List.set_cons_succ]
              refine wpQuiet_nil ?_
              intro w5 hX
              clear HX
              have hR := CutsAt.rest hX.ra HLA.out
              obtain ⟨sa2, hsa2⟩ : ∃ x : Option Addr, x = if ca = 1 then some ⟨ga2, oa2, none⟩ else some ⟨ga2, oa2 + 7, none⟩ := ⟨_, rfl⟩
              rw [← hsa2] at hR ⊢
              clear hsa2
              have HX : Hid (TgC w M mv (.slice sa2 la (ca - 1)) (.slice (some ⟨gb2, ob2, none⟩) (lb + 1) cb) r (b :: s) a k w5) := ⟨hX.made, hX.own, hX.sep, hR, hX.rb, hX.box, hX.kk, hX.old⟩
              clear hX hR
              simp only [Exit.then]
              go_wp2
              refine wp_region_quiet (C := (TgC w M mv (.slice sa2 la (ca - 1)) (.slice (some ⟨gb2, ob2, none⟩) (lb + 1) cb) r (b :: s) a k)) (by kernel_rfl) (by kernel_rfl) (HX.out.drew) ?_
              simp only []
              refine q_value ?_ (by rfl) (fun w hw => ?_) ?_
              rotate_left
              · go_simp
                with_reducible rfl
              simp only [Act.put, List.setIfInBounds_toArray, List.set_cons_zero, List.set_cons_succ]
              refine q_value ?_ (by rfl) (fun w hw => ?_) ?_
              rotate_left
              · go_simp
                with_reducible rfl
              simp only [Act.put, List.setIfInBounds_toArray, List.set_cons_zero, List.set_cons_succ]
              refine q_value ?_ (by rfl) (fun w hw => ?_) ?_
              rotate_left
              · go_simp
                with_reducible rfl
              simp only [Act.put, List.setIfInBounds_toArray, List.set_cons_zero, List.set_cons_succ]
              refine q_value ?_ (by rfl) (fun w hw => ?_) ?_
              rotate_left
              · go_simp
                with_reducible rfl
              simp only [Act.put, List.setIfInBounds_toArray, List.set_cons_zero, List.set_cons_succ]
              refine q_value ?_ (by rfl) (fun w hw => ?_) ?_
              rotate_left
              · go_simp
                with_reducible rfl
              simp only [Act.put, List.setIfInBounds_toArray, List.set_cons_zero, List.set_cons_succ]
              refine q_value ?_ (by rfl) (fun w hw => ?_) ?_
              rotate_left
              · go_simp
                with_reducible rfl
              simp only [Act.put, List.setIfInBounds_toArray, List.set_cons_zero, List.set_cons_succ]
              refine q_mid 216 _ rfl (by rfl) gb2 ob2 _ _ rfl (fun w h => head_range h.rb) Tryz.underlying216 rfl infoC ?_
              simp only [Act.put, List.setIfInBounds_toArray, List.set_cons_zero, List.set_cons_succ]
              refine q_load 216 _ rfl (by rfl) k (cutC a) 216 _ rfl (fun w h => h.box) Tryz.underlying216 rfl infoC ?_
              simp only [Act.put, List.setIfInBounds_toArray, List.set_cons_zero, List.set_cons_succ]
              refine q_eqc b a false (decide_eq_false HEB.out) (by rfl) _ _ rfl rfl rfl ?_
              simp only [Act.put, List.setIfInBounds_toArray, List.set_cons_zero, List.set_cons_succ]
              refine q_value ?_ (by rfl) (fun w hw => ?_) ?_
              rotate_left
              · go_simp
                with_reducible rfl
              simp only [Act.put, List.setIfInBounds_toArray, List.set_cons_zero, List.set_cons_succ]
              refine wpQuiet_nil ?_
              intro w6 hX
              simp only [Exit.then]
              clear HX
              have HX : Hid _ := hX
              clear hX
              go_wp2
              rw [HCF.out (!x) y w6]
              simp only [Oper.upon]
              refine Calls.mono (HF.out (!x) y w6) ?_
              rintro e wn ⟨rfl, hwn⟩
              rw [hwn]
              clear hwn
              have HQ2 : Hid _ := HQ.out
              clear HQ
              obtain ⟨fv, hfv⟩ : ∃ b, b = f (!x) y := ⟨_, rfl⟩
              rw [← hfv] at HQ2 ⊢
              have HFV : Hid _ := hfv
              clear hfv
              by_cases hfz : fv = z
              · have HE2 : Hid (M ++ tog f m r (b :: s) (!x) y z = R) := by
                  have h := HQ2.out
                  rw [if_pos hfz] at h
                  exact h
                have hne : (fv != z) = false := by rw [hfz]; exact bne_self_eq_false z
                have hne2 : (fv == z) = true := by rw [hfz]; exact beq_self_eq_true z
                clear HQ2 HFV
                go_wp2
                go_roundw
                case rel =>
                  have eA : Value.slice (sa2) (la) (ca - 1) = .slice (sa2) (r : List Cut).length (ca - 1) := by rw [HLA.out]
                  have eB : Value.slice (some ⟨gb2, ob2, none⟩) (lb + 1) (cb) = .slice (some ⟨gb2, ob2, none⟩) ((b :: s) : List Cut).length (cb) := by rw [HLB.out]; rfl
                  have hra := HX.out.ra
                  have hrb := HX.out.rb
                  rw [eA] at hra
                  rw [eB] at hrb
                  exact ⟨r, (b :: s), M, (!x), y, z, mv, m, sa2, some ⟨gb2, ob2, none⟩, ca - 1, cb, eA, eB, rfl, rfl, rfl, ⟨HX.out.made, HX.out.own, hra, hrb, fun x hx => HT.out.oka x (List.mem_cons_of_mem _ hx), fun x hx => HT.out.okb x hx, by have := HT.out.cnt; have eA : (a :: r).length = r.length + 1 := rfl; have eB : (b :: s).length = s.length + 1 := rfl; omega, by have := HT.out.tot; have eA : (a :: r).length = r.length + 1 := rfl; have eB : (b :: s).length = s.length + 1 := rfl; omega, HE2.out, HX.out.old⟩⟩
                case measure => simp only [lenV]; omega
              · have HE2 : Hid ((M ++ [a]) ++ tog f m r (b :: s) (!x) y (!z) = R) := by
                  have h := HQ2.out
                  rw [if_neg hfz] at h
                  rw [List.append_assoc]
                  exact h
                have hne : (fv != z) = true := bne_of hfz
                have hne2 : (fv == z) = false := by simpa using hfz
                clear HQ2 HFV
                go_wp2
                have hm7 := HX.out.made
                have hx7 := HX.out.box
                refine wp_region_perm [(false, 0), (false, 1), (false, 2), (false, 3), (false, 4), (false, 5), (true, 6), (true, 7), (true, 8), (true, 9), (true, 10)] (fun wx => Row wx w.heap.size #[.bool true, mv] 213 ∧ Row wx k (cutC a) 216) (by kernel_rfl) (by kernel_rfl) ⟨hm7, hx7⟩ ?_
                obtain ⟨mo, ml, mc, hmv⟩ : ∃ o l cp, mv = .slice o l cp := by
                  obtain ⟨_, ⟨h1, _⟩ | ⟨g', c', cur, h1, _⟩⟩ := HX.out.own
                  · exact ⟨_, _, _, h1⟩
                  · exact ⟨_, _, _, h1⟩
                refine p_value (some 78) ?_ rfl rfl (by rfl) (fun w hw => ?_) ?_
                rotate_left
                · go_simp
                  with_reducible rfl
                simp only [Act.put, List.setIfInBounds_toArray, List.set_cons_zero, List.set_cons_succ]
                refine p_value (some 79) ?_ rfl rfl (by rfl) (fun w hw => ?_) ?_
                rotate_left
                · go_simp
                  with_reducible rfl
                simp only [Act.put, List.setIfInBounds_toArray, List.set_cons_zero, List.set_cons_succ]
                refine p_value (some 80) ?_ rfl rfl (by rfl) (fun w hw => ?_) ?_
                rotate_left
                · go_simp
                  with_reducible rfl
                simp only [Act.put, List.setIfInBounds_toArray, List.set_cons_zero, List.set_cons_succ]
                refine p_value (some 81) ?_ rfl rfl (by rfl) (fun w hw => ?_) ?_
                rotate_left
                · go_simp
                  with_reducible rfl
                simp only [Act.put, List.setIfInBounds_toArray, List.set_cons_zero, List.set_cons_succ]
                refine p_value (some 82) ?_ rfl rfl (by rfl) (fun w hw => ?_) ?_
                rotate_left
                · have hc := (hw.1.cell 1).trans (show _ = some mv from rfl)
                  subst hmv
                  go_simp
                  with_reducible rfl
                simp only [Act.put, List.setIfInBounds_toArray, List.set_cons_zero, List.set_cons_succ]
                refine p_load_row (some 83) 216 _ rfl rfl rfl (by rfl) k rfl (cutC a) 216 _ (fun w h => h.2) Tryz.underlying216 rfl infoC ?_
                simp only [Act.put, List.setIfInBounds_toArray, List.set_cons_zero, List.set_cons_succ]
                refine p_buildSlice (some 84) 211 1 _ #[(0, cutV a)] _ _ rfl rfl rfl (by rfl) (by simp only [List.map_toArray, List.map_cons, List.map_nil]; rfl) (one_cut a _) (fun _ => ⟨hm7.alloc _, hx7.alloc _⟩) ?_
                simp only [Act.put, List.setIfInBounds_toArray, List.set_cons_zero, List.set_cons_succ]
                refine p_wp rfl (by rfl) ?_
                refine wp_append_any (some 85) rfl (.tmp 82) (.tmp 84) 211 216 (.agg zeroCut) 7 64 Tryz.underlying211 infoCz rfl (by decide) rfl (w.heap.size + 1) mv M.length (flatC M) hmv.symm ?own (some ⟨w6.drew.heap.size, 0, none⟩) w6.drew.heap.size 0 1 1 (encC a) rfl rfl (fun _ => rfl) ?cell ?one (fun h => nomatch h) ?len ?byt ?base ?go
                case own => exact own_same HX.out.own fun b hb => Below.heap_alloc _ _ b (own_block HX.out.own b hb).2
                case cell =>
                  intro j u hj
                  rw [Nat.zero_add, Row.cell (Row.new w6.drew (cutC a) 216) j]
                  show (encC a).toArray[j]? = _
                  rw [List.getElem?_toArray]
                  exact hj
                case one =>
                  intro u hu
                  simp only [encC, List.mem_cons, List.not_mem_nil, or_false] at hu
                  rcases hu with rfl | rfl | rfl | rfl | rfl | rfl | rfl <;> rfl
                case len => have := HT.out.tot; unfold maxLen; omega
                case byt => have := HT.out.tot; omega
                case base => have := HX.out.kk; have := HX.out.box.lt; simp; omega
                case go =>
                  intro v' w8 hown hgr _
                  obtain ⟨hr8, hx8, hr9, ho9, ra9, rb9, old9⟩ := tg_more HX.out hown hgr
                  refine ⟨fun _ => ⟨hr8, hx8⟩, ?_⟩
                  obtain ⟨mo', ml', mc', rfl⟩ : ∃ o l cp, v' = .slice o l cp := by
                    obtain ⟨_, ⟨h1, _⟩ | ⟨g', c', cur, h1, _⟩⟩ := hown
                    · exact ⟨_, _, _, h1⟩
                    · exact ⟨_, _, _, h1⟩
                  have hcell := (hr8.cell 1).trans (show _ = some mv from rfl)
                  have hfz8 := hr8.frozen 1
                  rw [hmv] at hcell
                  have HR9 : Hid _ := hr9
                  have HO9 : Hid _ := ho9
                  have HRA9 : Hid _ := ra9
                  have HRB9 : Hid _ := rb9
                  have HOL9 : Hid _ := old9
                  clear hr9 ho9 ra9 rb9 old9 hown hgr
                  simp only [Act.put, List.setIfInBounds_toArray, List.set_cons_zero, List.set_cons_succ]
                  refine p_alone (some 86) (.pointer (some ⟨w.heap.size, 0, none⟩)) w8 rfl rfl (by rfl) (by go_simp) (fun _ => ⟨hr8, hx8⟩) ?_
                  simp only [Act.put, List.setIfInBounds_toArray, List.set_cons_zero, List.set_cons_succ]
                  refine p_alone (some 87) (.pointer (some ⟨w.heap.size, 1, none⟩)) w8 rfl rfl (by rfl) (by go_simp) (fun _ => ⟨hr8, hx8⟩) ?_
                  simp only [Act.put, List.setIfInBounds_toArray, List.set_cons_zero, List.set_cons_succ]
                  refine p_store (w8.setCell ⟨w.heap.size, 1, none⟩ (.slice mo' ml' mc')) rfl rfl (by rfl) (by go_simp) (fun h => absurd rfl h) ?_
                  refine p_done ?_
                  try simp only [Exit.then]
                  clear hcell hfz8 hm7 hx7 hmv hr8 hx8
                  go_wp2
                  go_roundw
                  case rel =>
                    have eA : Value.slice (sa2) (la) (ca - 1) = .slice (sa2) (r : List Cut).length (ca - 1) := by rw [HLA.out]
                    have eB : Value.slice (some ⟨gb2, ob2, none⟩) (lb + 1) (cb) = .slice (some ⟨gb2, ob2, none⟩) ((b :: s) : List Cut).length (cb) := by rw [HLB.out]; rfl
                    have hra := HRA9.out
                    have hrb := HRB9.out
                    rw [eA] at hra
                    rw [eB] at hrb
                    exact ⟨r, (b :: s), (M ++ [a]), (!x), y, (!z), (.slice mo' ml' mc'), m, sa2, some ⟨gb2, ob2, none⟩, ca - 1, cb, eA, eB, rfl, rfl, rfl, ⟨HR9.out, HO9.out, hra, hrb, fun x hx => HT.out.oka x (List.mem_cons_of_mem _ hx), fun x hx => HT.out.okb x hx, by have := HT.out.cnt; have eA : (a :: r).length = r.length + 1 := rfl; have eB : (b :: s).length = s.length + 1 := rfl; omega, by have := HT.out.tot; have eA : (a :: r).length = r.length + 1 := rfl; have eB : (b :: s).length = s.length + 1 := rfl; have eM : (M ++ [a]).length = M.length + 1 := List.length_append; omega, HE2.out, HOL9.out⟩⟩
                  case measure => simp only [lenV]; omega
end Go.Proofs.YtkbhckjpmgkgjaaGreatDoor
