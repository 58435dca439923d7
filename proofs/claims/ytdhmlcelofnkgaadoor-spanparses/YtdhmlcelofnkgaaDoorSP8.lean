/- My own work: And, Or and Not of sets; slices.Equal at cuts; Same. -/
import Derived.Test.YtdhmlcelofnkgaaDoorSP7
namespace Go.Proofs.YtdhmlcelofnkgaaDoor
open Go.RowKit

theorem cf_and (a b : Bool) (w : World) : (callFunc 49 #[.bool a, .bool b]).run Tryd.prog w = .ok (.enter 49 #[.bool a, .bool b]) w := by kernel_rfl
theorem cf_or (a b : Bool) (w : World) : (callFunc 32 #[.bool a, .bool b]).run Tryd.prog w = .ok (.enter 32 #[.bool a, .bool b]) w := by kernel_rfl
/-- A set that may be, in memory. -/
structure GoodAt (w : World) (p : Value) (L : List Cut) (B : Nat) : Prop where
  at' : SetAt w p L B
  ok : SetOk L
theorem GoodAt.keep {w w' : World} {p : Value} {L : List Cut} {B : Nat} (h : GoodAt w p L B) (hb : Below B w w') : GoodAt w' p L B := ⟨h.at'.keep hb, h.ok⟩
theorem GoodAt.mono {w : World} {p : Value} {L : List Cut} {B B' : Nat} (h : GoodAt w p L B) (hB : B ≤ B') : GoodAt w p L B' := ⟨h.at'.mono hB, h.ok⟩
theorem and_ok {w : World} {p q : Value} {A B : List Cut} (hA : GoodAt w p A w.heap.size) (hB : GoodAt w q B w.heap.size) (hl : A.length + B.length ≤ 99999) : Calls Tryd.prog 30 #[p, q] w (NewSet (andS A B) w) :=
  and_by (S := fun v w' => SetAt w' v (andS A B) w'.heap.size ∧ Below w.heap.size w w') (together_ok fAnd _ rule_and cf_and hA.at' hB.at' hA.ok.ok hB.ok.ok hl)
theorem or_ok {w : World} {p q : Value} {A B : List Cut} (hA : GoodAt w p A w.heap.size) (hB : GoodAt w q B w.heap.size) (hl : A.length + B.length ≤ 99999) : Calls Tryd.prog 16 #[p, q] w (NewSet (orS A B) w) :=
  or_by (S := fun v w' => SetAt w' v (orS A B) w'.heap.size ∧ Below w.heap.size w w') (together_ok fOr _ rule_or cf_or hA.at' hB.at' hA.ok.ok hB.ok.ok hl)
theorem exec_neqc {o : Oper} {act : Act} (a b : Cut) (x y : Operand) (ho : o.op = .binOp .neq 62 x y 62) (hx : act.eval x = cutV a) (hy : act.eval y = cutV b) (w : World) :
    (execOp act.eval o).run Tryd.prog w = .ok (.value (.bool (!decide (a = b)))) w := by
  unfold execOp
  simp only [ho, hx, hy]
  have h1 := run_eqGuard_agg (P := Tryd.prog) w .neq 62 x y (cutC a) (cutC b) guardC
  have h2 := run_neq_struct (P := Tryd.prog) w 62 (cutC a) (cutC b)
  rw [eq_cut] at h2
  simp only [Sem.run_bind, Sem.run_pure, Result.andThen_ok, h1, h2]
theorem q_neqc {ops : Array Oper} {C : World → Prop} {Q : Act → Prop} {act : Act} {o : Oper} {rest : List Oper} (a b : Cut) (d : Bool) (hd : (!decide (a = b)) = d) (hw : Region.wanted o (yielded ops act.tmps) = true) (x y : Operand) (ho : o.op = .binOp .neq 62 x y 62) (hx : act.eval x = cutV a) (hy : act.eval y = cutV b)
    (k : wpQuiet Tryd.prog ops C Q rest (act.put o.dst (.bool d))) : wpQuiet Tryd.prog ops C Q (o :: rest) act :=
  q_value (.bool d) hw (fun w _ => by rw [← hd]; exact exec_neqc a b x y ho hx hy w) k
/-- What holds while two lists of cuts are held against each other. -/
structure EqW (w : World) (A B : List Cut) (ga oa gb ob : Nat) (wx : World) : Prop where
  a : ∀ i (h : i < A.length), wx.rangeAt ga (oa + i * 7) (encC A[i])
  b : ∀ i (h : i < B.length), wx.rangeAt gb (ob + i * 7) (encC B[i])
  old : Below w.heap.size w wx
theorem EqW.drew {w : World} {A B : List Cut} {ga oa gb ob : Nat} {wx : World} (h : EqW w A B ga oa gb ob wx) : EqW w A B ga oa gb ob wx.drew := ⟨h.a, h.b, h.old.drew⟩
set_option maxRecDepth 20000 in
set_option maxHeartbeats 2000000 in
theorem equal_ok {A B : List Cut} {va vb : Value} {w : World} {X : Nat} (hA : CutsAt w va A X) (hB : CutsAt w vb B X) (hlA : A.length < 100000) (hlB : B.length < 100000) : Calls Tryd.prog 27 #[va, vb] w fun e w' => e = .returned (.bool (decide (A = B))) ∧ Below w.heap.size w w' := by
  obtain ⟨aa, ga, oa, ca, rfl, h2a, h3a, _, h4a⟩ := hA.ex
  obtain ⟨ab, gb, ob, cb, rfl, h2b, h3b, _, h4b⟩ := hB.ex
  obtain ⟨n, hn⟩ : ∃ n, n = A.length := ⟨_, rfl⟩
  obtain ⟨m, hm⟩ : ∃ n, n = B.length := ⟨_, rfl⟩
  have HNA : Hid (n = A.length) := hn
  have HMB : Hid (m = B.length) := hm
  have HAA : Hid (0 < A.length → aa = some ⟨ga, oa, none⟩) := fun h => (h2a h).1
  have HAB : Hid (0 < B.length → ab = some ⟨gb, ob, none⟩) := fun h => (h2b h).1
  have HE : Hid (EqW w A B ga oa gb ob w) := ⟨h4a, h4b, Below.refl _ _⟩
  rw [← hn] at h3a hlA ⊢
  rw [← hm] at h3b hlB ⊢
  clear hn hm h2a h2b h4a h4b hA hB
  by_cases hnm : n = m
  · subst hnm
    go_enter Tryd.func27, Tryd.ntmps27
    go_wp2
    go_loopw [13] (fun s13 wq => ∃ i : Nat, i ≤ n ∧ s13 = .int .i64 i ∧ A.take i = B.take i ∧ EqW w A B ga oa gb ob wq) (fun s13 _ => n - (intOf s13).toNat)
    case atStart => exact ⟨0, Nat.zero_le _, rfl, rfl, HE.out⟩
    case round =>
      obtain ⟨i, hi, rfl, htk, hEq⟩ := hrel
      have HTK : Hid _ := htk
      have HX : Hid _ := hEq
      clear htk hEq HE
      by_cases hin : i < n
      · have hin' : (i : Int) < (n : Int) := by omega
        have hiA : i < A.length := by have := HNA.out; omega
        have hiB : i < B.length := by have := HMB.out; omega
        obtain rfl := HAA.out (by omega)
        obtain rfl := HAB.out (by omega)
        go_wp2
        refine wp_region_quiet (C := EqW w A B ga oa gb ob) (by kernel_rfl) (by kernel_rfl) (HX.out.drew) ?_
        simp only []
        refine q_value ?_ (by rfl) (fun w hw => ?_) ?_
        rotate_left
        · go_simp
          with_reducible rfl
        simp only [Act.put, List.setIfInBounds_toArray, List.set_cons_zero, List.set_cons_succ]
        refine q_value ?_ (by rfl) (fun w hw => ?_) ?_
        rotate_left
        · go_simp
          with_reducible rfl
        simp only [Act.put, List.setIfInBounds_toArray, List.set_cons_zero, List.set_cons_succ]
        refine q_value ?_ (by rfl) (fun w hw => ?_) ?_
        rotate_left
        · go_simp
          with_reducible rfl
        simp only [Act.put, List.setIfInBounds_toArray, List.set_cons_zero, List.set_cons_succ]
        refine q_mid 62 _ rfl (by rfl) ga (oa + i * 7) _ _ rfl (fun w h => h.a i hiA) Tryd.underlying62 rfl infoC ?_
        simp only [Act.put, List.setIfInBounds_toArray, List.set_cons_zero, List.set_cons_succ]
        refine q_value ?_ (by rfl) (fun w hw => ?_) ?_
        rotate_left
        · go_simp
          with_reducible rfl
        simp only [Act.put, List.setIfInBounds_toArray, List.set_cons_zero, List.set_cons_succ]
        refine q_value ?_ (by rfl) (fun w hw => ?_) ?_
        rotate_left
        · go_simp
          with_reducible rfl
        simp only [Act.put, List.setIfInBounds_toArray, List.set_cons_zero, List.set_cons_succ]
        refine q_value ?_ (by rfl) (fun w hw => ?_) ?_
        rotate_left
        · go_simp
          with_reducible rfl
        simp only [Act.put, List.setIfInBounds_toArray, List.set_cons_zero, List.set_cons_succ]
        refine q_mid 62 _ rfl (by rfl) gb (ob + i * 7) _ _ rfl (fun w h => h.b i hiB) Tryd.underlying62 rfl infoC ?_
        simp only [Act.put, List.setIfInBounds_toArray, List.set_cons_zero, List.set_cons_succ]
        by_cases he : A[i] = B[i]
        · refine q_neqc A[i] B[i] false (by rw [decide_eq_true he]; rfl) (by rfl) _ _ rfl rfl rfl ?_
          simp only [Act.put, List.setIfInBounds_toArray, List.set_cons_zero, List.set_cons_succ]
          refine wpQuiet_nil ?_
          intro w2 hX2
          simp only [Exit.then]
          clear HX
          have HX : Hid _ := hX2
          clear hX2
          have HT2 : Hid (A.take (i + 1) = B.take (i + 1)) := by
            show _ = _
            rw [List.take_add_one, List.take_add_one, HTK.out, List.getElem?_eq_getElem hiA, List.getElem?_eq_getElem hiB, he]
          clear he
          go_wp2
          go_roundw
          case rel => exact ⟨i + 1, by omega, by go_num, HT2.out, HX.out⟩
          case measure => simp [intOf]; omega
        · refine q_neqc A[i] B[i] true (by rw [decide_eq_false he]; rfl) (by rfl) _ _ rfl rfl rfl ?_
          simp only [Act.put, List.setIfInBounds_toArray, List.set_cons_zero, List.set_cons_succ]
          refine wpQuiet_nil ?_
          intro w2 hX2
          simp only [Exit.then]
          clear HX
          have HX : Hid _ := hX2
          clear hX2
          have HD : Hid (decide (A = B) = false) := decide_eq_false fun e => he (by subst e; rfl)
          clear he
          go_wp2
          go_ret
          exact ⟨by rw [HD.out]; rfl, HX.out.old⟩
      · have hin' : ¬ (i : Int) < (n : Int) := by omega
        have HD : Hid (decide (A = B) = true) := decide_eq_true (by
          have h := HTK.out
          rw [List.take_of_length_le (by have := HNA.out; omega), List.take_of_length_le (by have := HMB.out; omega)] at h
          exact h)
        go_wp2
        go_ret
        exact ⟨by rw [HD.out]; rfl, HX.out.old⟩
  · have HD : Hid (decide (A = B) = false) := decide_eq_false fun e => hnm (by rw [HNA.out, HMB.out, e])
    have hne : ¬ (n : Int) = (m : Int) := by omega
    have hne2 := beqI hne
    go_enter Tryd.func27, Tryd.ntmps27
    go_wp2
    go_ret
    exact ⟨by rw [HD.out]; rfl, Below.refl _ _⟩
/-- What holds while Same reads. -/
structure SmW (w : World) (A B : List Cut) (ga gb : Nat) (va vb : Value) (wx : World) : Prop where
  a : Row wx ga #[.bool true, va] 59
  b : Row wx gb #[.bool true, vb] 59
  ca : CutsAt wx va A w.heap.size
  cb : CutsAt wx vb B w.heap.size
  ga' : ga < w.heap.size
  gb' : gb < w.heap.size
  old : Below w.heap.size w wx
theorem SmW.next {w w' w'' : World} {A B : List Cut} {ga gb : Nat} {va vb : Value} (h : SmW w A B ga gb va vb w') (hb : Below w'.heap.size w' w'') : SmW w A B ga gb va vb w'' :=
  ⟨h.a.below hb h.a.lt, h.b.below hb h.b.lt, h.ca.keep (hb.mono h.old.size), h.cb.keep (hb.mono h.old.size), h.ga', h.gb', h.old.trans (hb.mono h.old.size)⟩
set_option maxRecDepth 20000 in
set_option maxHeartbeats 2000000 in
theorem same_ok {w : World} {p q : Value} {A B : List Cut} (hA : SetAt w p A w.heap.size) (hB : SetAt w q B w.heap.size) (hlA : A.length < 100000) (hlB : B.length < 100000) : Calls Tryd.prog 13 #[p, q] w fun e w' => e = .returned (.bool (decide (A = B))) ∧ Below w.heap.size w w' := by
  have mA := hA.made
  have mB := hB.made
  unfold Made at mA mB
  obtain ⟨ga, va, rfl, hga, rowA, cutsA⟩ := hA.ex
  obtain ⟨gb, vb', rfl, hgb, rowB, cutsB⟩ := hB.ex
  have HX : Hid (SmW w A B ga gb va vb' w) := ⟨rowA, rowB, cutsA, cutsB, hga, hgb, Below.refl _ _⟩
  obtain ⟨sa, xga, xoa, xca, rfl, _⟩ := cutsA.ex
  obtain ⟨sb, xgb, xob, xcb, rfl, _⟩ := cutsB.ex
  have HMB : Hid _ := mB
  have HQ : Hid (∀ wx, SmW w A B ga gb (.slice sa A.length xca) (.slice sb B.length xcb) wx → Calls Tryd.prog 27 #[.slice sa A.length xca, .slice sb B.length xcb] wx fun e w' => e = .returned (.bool (decide (A = B))) ∧ SmW w A B ga gb (.slice sa A.length xca) (.slice sb B.length xcb) w') := fun wx h => (equal_ok h.ca h.cb hlA hlB).mono fun e w' ⟨h1, h2⟩ => ⟨h1, h.next h2⟩
  obtain ⟨n, hn⟩ : ∃ n, n = A.length := ⟨_, rfl⟩
  obtain ⟨m, hm⟩ : ∃ n, n = B.length := ⟨_, rfl⟩
  obtain ⟨d, hd⟩ : ∃ d, d = decide (A = B) := ⟨_, rfl⟩
  rw [← hn] at HX HQ
  rw [← hm] at HX HQ
  rw [← hd] at HQ ⊢
  clear hn hm hd mB rowA rowB cutsA cutsB hA hB hga hgb hlA hlB
  go_enter Tryd.func13, Tryd.ntmps13
  go_wp2_with fail
  refine mA.mono ?_
  rintro e w0 ⟨rfl, hw0⟩
  rw [hw0]
  clear hw0 mA
  go_wp2_with fail
  refine Calls.mono HMB.out ?_
  rintro e w0 ⟨rfl, hw0⟩
  rw [hw0]
  clear hw0 HMB
  go_wp2
  refine wp_region_quiet (C := SmW w A B ga gb (.slice sa n xca) (.slice sb m xcb)) (by kernel_rfl) (by kernel_rfl) (HX.out.next ((Below.refl _ _).drew)) ?_
  simp only []
  refine q_value ?_ (by rfl) (fun w hw => ?_) ?_
  rotate_left
  · go_simp
    with_reducible rfl
  simp only [Act.put, List.setIfInBounds_toArray, List.set_cons_zero, List.set_cons_succ]
  refine q_value ?_ (by rfl) (fun w hw => ?_) ?_
  rotate_left
  · go_simp
    with_reducible rfl
  simp only [Act.put, List.setIfInBounds_toArray, List.set_cons_zero, List.set_cons_succ]
  refine q_value ?_ (by rfl) (fun w hw => ?_) ?_
  rotate_left
  · go_simp
    with_reducible rfl
  simp only [Act.put, List.setIfInBounds_toArray, List.set_cons_zero, List.set_cons_succ]
  refine q_value ?_ (by rfl) (fun w hw => ?_) ?_
  rotate_left
  · have hc := (hw.a.cell 1).trans (show _ = some (Value.slice sa n xca) from rfl)
    go_simp
    with_reducible rfl
  simp only [Act.put, List.setIfInBounds_toArray, List.set_cons_zero, List.set_cons_succ]
  refine q_value ?_ (by rfl) (fun w hw => ?_) ?_
  rotate_left
  · go_simp
    with_reducible rfl
  simp only [Act.put, List.setIfInBounds_toArray, List.set_cons_zero, List.set_cons_succ]
  refine q_value ?_ (by rfl) (fun w hw => ?_) ?_
  rotate_left
  · go_simp
    with_reducible rfl
  simp only [Act.put, List.setIfInBounds_toArray, List.set_cons_zero, List.set_cons_succ]
  refine q_value ?_ (by rfl) (fun w hw => ?_) ?_
  rotate_left
  · go_simp
    with_reducible rfl
  simp only [Act.put, List.setIfInBounds_toArray, List.set_cons_zero, List.set_cons_succ]
  refine q_value ?_ (by rfl) (fun w hw => ?_) ?_
  rotate_left
  · have hc := (hw.b.cell 1).trans (show _ = some (Value.slice sb m xcb) from rfl)
    go_simp
    with_reducible rfl
  simp only [Act.put, List.setIfInBounds_toArray, List.set_cons_zero, List.set_cons_succ]
  refine q_call (.bool d) (by rfl) 27 #[.slice sa n xca, .slice sb m xcb] (fun w h => by go_simp) (fun w h => HQ.out w h) ?_
  simp only [Act.put, List.setIfInBounds_toArray, List.set_cons_zero, List.set_cons_succ]
  refine q_value ?_ (by rfl) (fun w hw => ?_) ?_
  rotate_left
  · go_simp
    with_reducible rfl
  simp only [Act.put, List.setIfInBounds_toArray, List.set_cons_zero, List.set_cons_succ]
  refine wpQuiet_nil ?_
  intro w2 hX2
  simp only [Exit.then]
  have HX2 : Hid _ := hX2
  clear hX2 HX HQ
  go_wp2
  go_ret
  exact ⟨rfl, HX2.out.old⟩
end Go.Proofs.YtdhmlcelofnkgaaDoor
