/- My own work: least, and the rules of And, Or and Not. -/
import Derived.Test.YtkbhckjpmgkgjaaGreatDoorSP4
import Derived.Test.YtkbhckjpmgkgjaaGreatDoorRCell
namespace Go.Proofs.YtkbhckjpmgkgjaaGreatDoor
open Go.RowKit

theorem resultsLe : Tryz.f148.results = #[.cell 4 216] := by kernel_rfl
theorem q_mid {P : Program} {ops : Array Oper} {C : World → Prop} {Q : Act → Prop} {a : Act} {o : Oper} {rest : List Oper} (ty : TypeId) (x : Operand) (ho : o.op = .load ty x) (hw : Region.wanted o (yielded ops a.tmps) = true) (g off : Nat) (cs : List Value) (d : TypeDesc) (hx : a.eval x = .pointer (some ⟨g, off, none⟩))
    (hC : ∀ w, C w → w.rangeAt g off cs) (hu : P.underlying ty = some d) (hd : d.isRow = true) (hi : (P.info? ty).map (·.size) = some cs.length)
    (k : wpQuiet P ops C Q rest (a.put o.dst (.agg cs.toArray))) : wpQuiet P ops C Q (o :: rest) a :=
  q_value (.agg cs.toArray) hw (fun w hw' => by
    unfold execOp
    simp only [ho, hx, run_loadAt_mid w g off ty cs d (hC w hw') hu hd hi, Sem.run_bind, Sem.run_pure, Result.andThen_ok]) k
/-- What holds while least looks. -/
structure LeW (w w1 : World) (a b : Cut) (ga oa gb ob : Nat) (wx : World) : Prop where
  a : wx.rangeAt ga oa (encC a)
  b : wx.rangeAt gb ob (encC b)
  r : Row wx w.heap.size zeroCut 216
  k : Below w.heap.size w wx
theorem LeW.next {w w1 w' w'' : World} {a b : Cut} {ga oa gb ob : Nat} (h : LeW w w1 a b ga oa gb ob w') (hb : Below w'.heap.size w' w'') (h1 : ga < w.heap.size) (h2 : gb < w.heap.size) : LeW w w1 a b ga oa gb ob w'' :=
  ⟨fun j u hj => (hb.cell (p := ⟨ga, oa + j, none⟩) (by have := h.k.size; show ga < _; omega)).trans (h.a j u hj), fun j u hj => (hb.cell (p := ⟨gb, ob + j, none⟩) (by have := h.k.size; show gb < _; omega)).trans (h.b j u hj), h.r.below hb h.r.lt, h.k.trans (hb.mono h.k.size)⟩
theorem range_below {w w' : World} {g off B : Nat} {cs : List Value} (h : w.rangeAt g off cs) (hb : Below B w w') (hg : g < B) : w'.rangeAt g off cs := fun j u hj => (hb.cell (p := ⟨g, off + j, none⟩) hg).trans (h j u hj)
theorem below_setRow {w w' : World} {g B : Nat} {C : Array Value} (h : Below B w w') (hg : B ≤ g) : Below B w (w'.setRow g C) := h.trans ⟨rfl, rfl, rfl, by simp [World.setRow], fun k hk => setRow_other w' g k C (by omega)⟩
/-- What least leaves. -/
def LePost (c : Cut) (w : World) (e : Ending) (w' : World) : Prop := e = .returned (cutV c) ∧ Below w.heap.size w w'
set_option maxRecDepth 20000 in
set_option maxHeartbeats 1000000 in
theorem least_one (c : Cut) (n g off cap cap' : Nat) (a : Option Addr) (hn : 0 < n) (hl : n < 9223372036854775807) (w : World) (hg : g < w.heap.size) (hr : w.rangeAt g off (encC c)) : Calls Tryz.prog 148 #[.slice a 0 cap', .slice (some ⟨g, off, none⟩) n cap] w (LePost c w) := by
  have hz : Row (w.alloc (.cells zeroCut 216)) w.heap.size zeroCut 216 := Row.new _ _ _
  have hb1 : Below w.heap.size w (w.alloc (.cells zeroCut 216)) := (Below.refl _ _).alloc (Nat.le_refl _) _
  have hr1 := range_below hr hb1 hg
  obtain ⟨w1, hw1⟩ : ∃ x, x = w.alloc (.cells zeroCut 216) := ⟨_, rfl⟩
  have hw1' := hw1.symm
  rw [← hw1] at hz hb1 hr1
  have HB : Hid _ := hb1
  have hn0 : (0 : Int) < (n : Int) := by omega
  have hn1 : ¬ (n : Int) = 0 := by omega
  have hn2 := beqI hn1
  clear hw1 hb1 hr
  go_enter Tryz.func148, Tryz.ntmps148
  go_wp2
  go_quiet (fail)
  obtain ⟨w2, hw2⟩ : ∃ x, x = w1.drewN nq := ⟨_, rfl⟩
  rw [← hw2]
  have hz2 : Row w2 w.heap.size zeroCut 216 := by rw [hw2]; exact hz
  have hr2 : w2.rangeAt g off (encC c) := by rw [hw2]; exact hr1
  have HB2 : Hid (Below w.heap.size w w2) := by rw [hw2]; exact HB.out.trans ⟨rfl, rfl, rfl, Nat.le_refl _, fun _ _ => rfl⟩
  have hz3 : Row (w2.setRow w.heap.size (cutC c)) w.heap.size (cutC c) 216 := hz2.setRow
  have HB3 : Hid (Below w.heap.size w (w2.setRow w.heap.size (cutC c))) := below_setRow HB2.out (Nat.le_refl _)
  clear hw2 hz hr1
  go_wp2_with (first | refine wpList_load_mid rfl 216 _ rfl g off rfl _ _ hr2 Tryz.underlying216 rfl infoC ?_ | refine wpList_store_row rfl 216 _ _ rfl w.heap.size (cutC c) rfl rfl 216 zeroCut hz2 infoC rfl (cutC_one _) ?_)
  exact bodyPost_ret (results_cell_row resultsLe _ _ w.heap.size 216 _ (0, 0) _ rfl hz3 Tryz.underlying216 rfl infoC) rfl ⟨rfl, HB3.out⟩
set_option maxRecDepth 20000 in
set_option maxHeartbeats 1000000 in
theorem least_two (c : Cut) (n g off cap cap' : Nat) (b : Option Addr) (hn : 0 < n) (hl : n < 9223372036854775807) (w : World) (hg : g < w.heap.size) (hr : w.rangeAt g off (encC c)) : Calls Tryz.prog 148 #[.slice (some ⟨g, off, none⟩) n cap, .slice b 0 cap'] w (LePost c w) := by
  have hz : Row (w.alloc (.cells zeroCut 216)) w.heap.size zeroCut 216 := Row.new _ _ _
  have hb1 : Below w.heap.size w (w.alloc (.cells zeroCut 216)) := (Below.refl _ _).alloc (Nat.le_refl _) _
  have hr1 := range_below hr hb1 hg
  obtain ⟨w1, hw1⟩ : ∃ x, x = w.alloc (.cells zeroCut 216) := ⟨_, rfl⟩
  have hw1' := hw1.symm
  rw [← hw1] at hz hb1 hr1
  have HB : Hid _ := hb1
  have hn0 : (0 : Int) < (n : Int) := by omega
  have hn1 : ¬ (n : Int) = 0 := by omega
  have hn2 := beqI hn1
  clear hw1 hb1 hr
  go_enter Tryz.func148, Tryz.ntmps148
  go_wp2
  go_quiet (fail)
  obtain ⟨w2, hw2⟩ : ∃ x, x = w1.drewN nq := ⟨_, rfl⟩
  rw [← hw2]
  have hz2 : Row w2 w.heap.size zeroCut 216 := by rw [hw2]; exact hz
  have hr2 : w2.rangeAt g off (encC c) := by rw [hw2]; exact hr1
  have HB2 : Hid (Below w.heap.size w w2) := by rw [hw2]; exact HB.out.trans ⟨rfl, rfl, rfl, Nat.le_refl _, fun _ _ => rfl⟩
  have hz3 : Row (w2.setRow w.heap.size (cutC c)) w.heap.size (cutC c) 216 := hz2.setRow
  have HB3 : Hid (Below w.heap.size w (w2.setRow w.heap.size (cutC c))) := below_setRow HB2.out (Nat.le_refl _)
  clear hw2 hz hr1
  go_wp2_with (first | refine wpList_load_mid rfl 216 _ rfl g off rfl _ _ hr2 Tryz.underlying216 rfl infoC ?_ | refine wpList_store_row rfl 216 _ _ rfl w.heap.size (cutC c) rfl rfl 216 zeroCut hz2 infoC rfl (cutC_one _) ?_)
  exact bodyPost_ret (results_cell_row resultsLe _ _ w.heap.size 216 _ (0, 0) _ rfl hz3 Tryz.underlying216 rfl infoC) rfl ⟨rfl, HB3.out⟩
set_option maxRecDepth 20000 in
set_option maxHeartbeats 2000000 in
theorem least_both (a b : Cut) (n m ga oa ca gb ob cb : Nat) (hn : 0 < n) (hm : 0 < m) (hl : n < 9223372036854775807) (hlm : m < 9223372036854775807) (w : World) (hga : ga < w.heap.size) (hgb : gb < w.heap.size) (ra : w.rangeAt ga oa (encC a)) (rb : w.rangeAt gb ob (encC b)) (ha : CutOk a) (hb : CutOk b) : Calls Tryz.prog 148 #[.slice (some ⟨ga, oa, none⟩) n ca, .slice (some ⟨gb, ob, none⟩) m cb] w (LePost (if lt b a then b else a) w) := by
  obtain ⟨c, hcc⟩ : ∃ c, c = if lt b a then b else a := ⟨_, rfl⟩
  have HCC : Hid (c = if lt b a then b else a) := hcc
  rw [← hcc]
  clear hcc
  have hb1 : Below w.heap.size w (w.alloc (.cells zeroCut 216)) := (Below.refl _ _).alloc (Nat.le_refl _) _
  have HW : Hid (LeW w w a b ga oa gb ob (w.alloc (.cells zeroCut 216))) := ⟨range_below ra hb1 hga, range_below rb hb1 hgb, Row.new _ _ _, hb1⟩
  obtain ⟨w1, hw1⟩ : ∃ x, x = w.alloc (.cells zeroCut 216) := ⟨_, rfl⟩
  have hw1' := hw1.symm
  rw [← hw1] at HW
  have HGA : Hid (ga < w.heap.size) := hga
  have HGB : Hid (gb < w.heap.size) := hgb
  have hn0 : (0 : Int) < (n : Int) := by omega
  have hm0 : (0 : Int) < (m : Int) := by omega
  have hn1 : ¬ (n : Int) = 0 := by omega
  have hn2 := beqI hn1
  have HC : Hid (∀ wx, Calls Tryz.prog 131 #[cutV b, cutV a] wx fun e w' => e = .returned (.int .i64 (ordC b a)) ∧ Below wx.heap.size wx w') := fun wx => by
    have h := compareC b a wx
    rw [cmpC_ord hb ha] at h
    exact h
  have HD : Hid (decide (ordC b a < 0) = decide (lt b a)) := rfl
  obtain ⟨x, hx⟩ : ∃ x, x = ordC b a := ⟨_, rfl⟩
  rw [← hx] at HC HD
  clear hw1 hb1 ra rb ha hb hx hga hgb
  go_enter Tryz.func148, Tryz.ntmps148
  go_wp2
  refine wp_region_quiet (C := LeW w w a b ga oa gb ob) (by kernel_rfl) (by kernel_rfl) (HW.out.next ((Below.refl _ _).drew) HGA.out HGB.out) ?_
  simp only []
  refine q_value ?_ (by rfl) (fun w hw => ?_) ?_
  rotate_left
  · go_simp
    with_reducible rfl
  simp only [Act.put, List.setIfInBounds_toArray, List.set_cons_zero, List.set_cons_succ]
  refine q_value ?_ (by rfl) (fun w hw => ?_) ?_
  rotate_left
  · go_simp
    with_reducible rfl
  simp only [Act.put, List.setIfInBounds_toArray, List.set_cons_zero, List.set_cons_succ]
  refine q_value ?_ (by rfl) (fun w hw => ?_) ?_
  rotate_left
  · go_simp
    with_reducible rfl
  simp only [Act.put, List.setIfInBounds_toArray, List.set_cons_zero, List.set_cons_succ]
  refine q_value ?_ (by rfl) (fun w hw => ?_) ?_
  rotate_left
  · go_simp
    with_reducible rfl
  simp only [Act.put, List.setIfInBounds_toArray, List.set_cons_zero, List.set_cons_succ]
  refine q_value ?_ (by rfl) (fun w hw => ?_) ?_
  rotate_left
  · go_simp
    with_reducible rfl
  simp only [Act.put, List.setIfInBounds_toArray, List.set_cons_zero, List.set_cons_succ]
  refine q_value ?_ (by rfl) (fun w hw => ?_) ?_
  rotate_left
  · go_simp
    with_reducible rfl
  simp only [Act.put, List.setIfInBounds_toArray, List.set_cons_zero, List.set_cons_succ]
  refine q_value ?_ (by rfl) (fun w hw => ?_) ?_
  rotate_left
  · go_simp
    with_reducible rfl
  simp only [Act.put, List.setIfInBounds_toArray, List.set_cons_zero, List.set_cons_succ]
  refine q_value ?_ (by rfl) (fun w hw => ?_) ?_
  rotate_left
  · go_simp
    with_reducible rfl
  simp only [Act.put, List.setIfInBounds_toArray, List.set_cons_zero, List.set_cons_succ]
  refine q_value ?_ (by rfl) (fun w hw => ?_) ?_
  rotate_left
  · go_simp
    with_reducible rfl
  simp only [Act.put, List.setIfInBounds_toArray, List.set_cons_zero, List.set_cons_succ]
  refine q_value ?_ (by rfl) (fun w hw => ?_) ?_
  rotate_left
  · go_simp
    with_reducible rfl
  simp only [Act.put, List.setIfInBounds_toArray, List.set_cons_zero, List.set_cons_succ]
  refine q_mid 216 _ rfl (by rfl) gb ob _ _ rfl (fun w h => h.b) Tryz.underlying216 rfl infoC ?_
  simp only [Act.put, List.setIfInBounds_toArray, List.set_cons_zero, List.set_cons_succ]
  refine q_value ?_ (by rfl) (fun w hw => ?_) ?_
  rotate_left
  · go_simp
    with_reducible rfl
  simp only [Act.put, List.setIfInBounds_toArray, List.set_cons_zero, List.set_cons_succ]
  refine q_value ?_ (by rfl) (fun w hw => ?_) ?_
  rotate_left
  · go_simp
    with_reducible rfl
  simp only [Act.put, List.setIfInBounds_toArray, List.set_cons_zero, List.set_cons_succ]
  refine q_mid 216 _ rfl (by rfl) ga oa _ _ rfl (fun w h => h.a) Tryz.underlying216 rfl infoC ?_
  simp only [Act.put, List.setIfInBounds_toArray, List.set_cons_zero, List.set_cons_succ]
  refine q_call (.int .i64 x) (by rfl) 131 #[cutV b, cutV a] (fun w h => by go_simp) (fun w h => (HC.out w).mono fun e w' ⟨he, hb⟩ => ⟨he, h.next hb HGA.out HGB.out⟩) ?_
  simp only [Act.put, List.setIfInBounds_toArray, List.set_cons_zero, List.set_cons_succ]
  refine q_value ?_ (by rfl) (fun w hw => ?_) ?_
  rotate_left
  · go_simp
    with_reducible rfl
  simp only [Act.put, List.setIfInBounds_toArray, List.set_cons_zero, List.set_cons_succ]
  refine q_value ?_ (by rfl) (fun w hw => ?_) ?_
  rotate_left
  · go_simp
    with_reducible rfl
  simp only [Act.put, List.setIfInBounds_toArray, List.set_cons_zero, List.set_cons_succ]
  refine q_value ?_ (by rfl) (fun w hw => ?_) ?_
  rotate_left
  · go_simp
    with_reducible rfl
  simp only [Act.put, List.setIfInBounds_toArray, List.set_cons_zero, List.set_cons_succ]
  refine wpQuiet_nil ?_
  intro w2 hw2
  simp only [Exit.then]
  have ra2 := hw2.a
  have rb2 := hw2.b
  have hz2 := hw2.r
  have HB2 : Hid _ := hw2.k
  clear hw2 HW HC
  by_cases hlt : lt b a
  · have HCb : Hid (c = b) := by show _ = _; rw [HCC.out, if_pos hlt]
    have hx0 : x < 0 := by have h := HD.out; rw [decide_eq_true hlt] at h; exact of_decide_eq_true h
    have hz3 : Row (w2.setRow w.heap.size (cutC b)) w.heap.size (cutC b) 216 := hz2.setRow
    have HB3 : Hid (Below w.heap.size w (w2.setRow w.heap.size (cutC b))) := below_setRow HB2.out (Nat.le_refl _)
    clear hlt
    go_wp2_with (first | refine wpList_load_mid rfl 216 _ rfl gb ob rfl _ _ rb2 Tryz.underlying216 rfl infoC ?_ | refine wpList_store_row rfl 216 _ _ rfl w.heap.size (cutC b) rfl rfl 216 zeroCut hz2 infoC rfl (cutC_one _) ?_)
    exact bodyPost_ret (results_cell_row resultsLe _ _ w.heap.size 216 _ (0, 0) _ rfl hz3 Tryz.underlying216 rfl infoC) rfl ⟨by rw [HCb.out], HB3.out⟩
  · have HCb : Hid (c = a) := by show _ = _; rw [HCC.out, if_neg hlt]
    have hx0 : ¬ x < 0 := by have h := HD.out; rw [decide_eq_false hlt] at h; exact of_decide_eq_false h
    have hz3 : Row (w2.setRow w.heap.size (cutC a)) w.heap.size (cutC a) 216 := hz2.setRow
    have HB3 : Hid (Below w.heap.size w (w2.setRow w.heap.size (cutC a))) := below_setRow HB2.out (Nat.le_refl _)
    clear hlt
    go_wp2_with (first | refine wpList_load_mid rfl 216 _ rfl ga oa rfl _ _ ra2 Tryz.underlying216 rfl infoC ?_ | refine wpList_store_row rfl 216 _ _ rfl w.heap.size (cutC a) rfl rfl 216 zeroCut hz2 infoC rfl (cutC_one _) ?_)
    exact bodyPost_ret (results_cell_row resultsLe _ _ w.heap.size 216 _ (0, 0) _ rfl hz3 Tryz.underlying216 rfl infoC) rfl ⟨by rw [HCb.out], HB3.out⟩
theorem cuts_head {w : World} {v : Value} {c : Cut} {r : List Cut} {B : Nat} (h : CutsAt w v (c :: r) B) : ∃ g off cap, v = .slice (some ⟨g, off, none⟩) (r.length + 1) cap ∧ g < B ∧ r.length + 1 ≤ cap ∧ w.rangeAt g off (encC c) := by
  obtain ⟨a, g, off, cap, h1, h2, h3, _, h4⟩ := h.ex
  obtain ⟨rfl, hg⟩ := h2 (by simp)
  have := h4 0 (by simp)
  rw [Nat.zero_mul, Nat.add_zero] at this
  exact ⟨g, off, cap, h1, hg, h3, this⟩
theorem least_ok {A B : List Cut} {va vb : Value} {w : World} (hA : CutsAt w va A w.heap.size) (hB : CutsAt w vb B w.heap.size) (h0 : ¬ (A = [] ∧ B = [])) (hlA : A.length < 100000) (hlB : B.length < 100000) (okA : ∀ c ∈ A, CutOk c) (okB : ∀ c ∈ B, CutOk c) : Calls Tryz.prog 148 #[va, vb] w (LePost (lst A B) w) := by
  cases A with
  | nil =>
    cases B with
    | nil => exact absurd ⟨rfl, rfl⟩ h0
    | cons b s =>
      obtain ⟨a, g, off, cap, rfl, _⟩ := hA.ex
      obtain ⟨g2, off2, cap2, rfl, hg2, hc2, hr2⟩ := cuts_head hB
      rw [List.length_cons] at hlB
      exact least_one b (s.length + 1) g2 off2 cap2 cap a (by omega) (by omega) w hg2 hr2
  | cons a r =>
    obtain ⟨g, off, cap, rfl, hg, hc, hr⟩ := cuts_head hA
    rw [List.length_cons] at hlA
    cases B with
    | nil =>
      obtain ⟨b, g2, off2, cap2, rfl, _⟩ := hB.ex
      exact least_two a (r.length + 1) g off cap cap2 b (by omega) (by omega) w hg hr
    | cons b s =>
      obtain ⟨g2, off2, cap2, rfl, hg2, hc2, hr2⟩ := cuts_head hB
      rw [List.length_cons] at hlB
      exact least_both a b (r.length + 1) (s.length + 1) g off cap g2 off2 cap2 (by omega) (by omega) (by omega) (by omega) w hg hg2 hr hr2 (okA a (List.mem_cons_self ..)) (okB b (List.mem_cons_self ..))
set_option maxHeartbeats 400000 in
theorem rule_and (a b : Bool) (w : World) : Calls Tryz.prog 146 #[.bool a, .bool b] w fun e w' => e = .returned (.bool (fAnd a b)) ∧ w' = w := by
  cases a <;> cases b <;> (go_enter Tryz.func146, Tryz.ntmps146; go_wp2; go_ret; exact ⟨rfl, rfl⟩)
set_option maxHeartbeats 400000 in
theorem rule_or (a b : Bool) (w : World) : Calls Tryz.prog 114 #[.bool a, .bool b] w fun e w' => e = .returned (.bool (fOr a b)) ∧ w' = w := by
  cases a <;> cases b <;> (go_enter Tryz.func114, Tryz.ntmps114; go_wp2; go_ret; exact ⟨rfl, rfl⟩)
end Go.Proofs.YtkbhckjpmgkgjaaGreatDoor
