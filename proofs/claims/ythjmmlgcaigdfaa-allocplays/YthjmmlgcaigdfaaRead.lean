/- The walks of Bytes and Read. -/
import Derived.Test.YthjmmlgcaigdfaaClone
import Derived.Test.YthjmmlgcaigdfaaKit
import Derived.Laws.Cover3
namespace Go.Proofs.Ythjmmlgcaigdfaa
open Go.RowKit
variable {w : World} {g n : Nat} {S : Nat → Bool}

set_option maxRecDepth 20000 in
theorem bytes_ok (h : SetAt w g n S) : Calls Try.prog 19 #[.pointer (some ⟨g, 0, none⟩)] w fun e w' => e = .returned (.slice (some ⟨w.heap.size, 0, none⟩) 256 256) ∧ w' = w.alloc (.cells (arr (byt S)) 5) := by
  have H := made_yes h
  have hmk := run_make_row' (P := Try.prog) 42 5 (.int .u8 0) 1 Try.underlying42 Try.info5 rfl .i64 .i64 256 (by omega) (by omega) w
  simp only [show ((256 : Nat) : Int) = 256 from rfl] at hmk
  have hZ := size_madeCells #[.int .u8 0] 256
  generalize madeCells #[.int .u8 0] 256 = Z at *
  have hlen := byts_len (byt S) 256
  have hcp := run_copy_row (P := Try.prog) (w.alloc (.cells Z 5)) 42 42 3 5 w.heap.size 0 256 256 ⟨g, 1, none⟩ 256 256 Z 5 (byts (byt S) 256) Try.underlying42 info5s (heap_alloc_new w _) (by rw [hlen]; rfl) (fun j v hj => by
    have hj' : j < 256 := by rw [← hlen]; exact (List.getElem?_eq_some_iff.1 hj).1
    rw [Addr.add_mid, ((h.row.alloc (.cells Z 5)).cell (1 + j)), Nat.add_comm 1 j, setC_at _ _ _ hj', ← hj, byts_at _ _ _ hj']) (by rw [hlen, hZ]; omega) (byts_one _ _)
  rw [World.setRow_alloc_new, List.drop_eq_nil_of_le (by rw [hlen]; simp [hZ]), hlen] at hcp
  simp only [List.take_zero, List.nil_append, List.append_nil] at hcp
  unfold arr
  generalize byts (byt S) 256 = L at *
  clear hlen hZ h
  go_enter Try.func19, Try.ntmps19
  go_wp2_with fail
  refine H.mono ?_
  rintro e w' ⟨rfl, rfl⟩
  go_wp2
  go_ret
  exact ⟨rfl, rfl⟩

set_option maxRecDepth 20000 in
theorem in_row (h : Row w g (setC n S) 53) (k : Nat) (hk : k < 2048) : Calls Try.prog 25 #[.pointer (some ⟨g, 0, none⟩), .int .i64 k] w fun e w' => e = .returned (.bool (S k)) ∧ Still w w' := by
  have hq : (k : Int).tdiv 8 = ((k / 8 : Nat) : Int) := rfl
  have hcell : Hid (∀ wx, Still w wx → wx.cell? ⟨g, 1 + k / 8, none⟩ = some (.int .u8 (byt S (k / 8)))) := fun wx hx => by rw [Nat.add_comm]; exact ((h.still hx).cell _).trans (setC_at n S _ (by omega))
  have hand := byt_and S k
  have hb := byt_bd S (k / 8)
  have hp : (0 : Int) < 2 ^ (k % 8) := Int.pow_pos (by decide)
  have hm : k / 8 < 256 := by omega
  clear h
  generalize byt S (k / 8) = v at *
  generalize hpw : (2 : Int) ^ (k % 8) = p at *
  have HB := bit_any k hk
  rw [hpw] at HB
  clear hpw
  obtain ⟨m, hmq⟩ : ∃ m, m = k / 8 := ⟨_, rfl⟩
  rw [← hmq] at hcell hq hm
  have HQ : Hid _ := hmq
  clear hmq
  have hwr : IntKind.i64.wrap (m : Int) = m := by rw [IntKind.wrap_i64]; omega
  have hm' : (m : Int) < 256 := by omega
  have HA : Hid _ := hand
  clear hand
  go_enter Try.func25, Try.ntmps25
  go_wp2_with fail
  refine wp_region_mix [false, false, false, false, false, false, false, false, true, false, false, false] (Still w) (by kernel_rfl) (by kernel_rfl) (Still.refl w).drew ?_
  refine m_move _ rfl (by rfl) ?_
  simp only [Act.put, List.setIfInBounds_toArray, List.set_cons_zero, List.set_cons_succ]
  refine m_move _ rfl (by rfl) ?_
  simp only [Act.put, List.setIfInBounds_toArray, List.set_cons_zero, List.set_cons_succ]
  refine m_value ?_ (by rfl) (fun w hw => ?_) ?_
  rotate_left
  · go_simp
    with_reducible rfl
  simp only [Act.put, List.setIfInBounds_toArray, List.set_cons_zero, List.set_cons_succ]
  refine m_value ?_ (by rfl) (fun w hw => ?_) ?_
  rotate_left
  · go_simp
    with_reducible rfl
  simp only [Act.put, List.setIfInBounds_toArray, List.set_cons_zero, List.set_cons_succ]
  refine m_value ?_ (by rfl) (fun w hw => ?_) ?_
  rotate_left
  · go_simp
    with_reducible rfl
  simp only [Act.put, List.setIfInBounds_toArray, List.set_cons_zero, List.set_cons_succ]
  refine m_value ?_ (by rfl) (fun w hw => ?_) ?_
  rotate_left
  · go_simp
    with_reducible rfl
  simp only [Act.put, List.setIfInBounds_toArray, List.set_cons_zero, List.set_cons_succ]
  refine m_value ?_ (by rfl) (fun w hw => ?_) ?_
  rotate_left
  · have hc := hcell.out w hw
    go_simp
    with_reducible rfl
  simp only [Act.put, List.setIfInBounds_toArray, List.set_cons_zero, List.set_cons_succ]
  refine m_move _ rfl (by rfl) ?_
  simp only [Act.put, List.setIfInBounds_toArray, List.set_cons_zero, List.set_cons_succ]
  refine m_call (by rfl) 28 #[.int .i64 k] (by go_simp) ((HB _).mono fun e w' ⟨he, hw'⟩ => ⟨_, he, by rw [hw']; exact (Still.refl w).drew, ?_⟩)
  subst hw'
  simp only [Act.put, List.setIfInBounds_toArray, List.set_cons_zero, List.set_cons_succ]
  refine m_value ?_ (by rfl) (fun w hw => ?_) ?_
  rotate_left
  · go_simp
    with_reducible rfl
  simp only [Act.put, List.setIfInBounds_toArray, List.set_cons_zero, List.set_cons_succ]
  refine m_value ?_ (by rfl) (fun w hw => ?_) ?_
  rotate_left
  · go_simp
    with_reducible rfl
  simp only [Act.put, List.setIfInBounds_toArray, List.set_cons_zero, List.set_cons_succ]
  refine m_assign _ rfl (by rfl) ?_
  simp only [Act.put, List.setIfInBounds_toArray, List.set_cons_zero, List.set_cons_succ]
  refine m_done ?_
  simp only [Exit.then]
  go_wp2
  go_ret
  refine ⟨?_, (Still.refl w).drew⟩
  have e := HA.out
  cases hS : S k <;> rw [hS] at e <;> simp at e <;> simp [e]
  omega


/-- The bits of bytes. -/
def bitsOf (f : Nat → Int) (k : Nat) : Bool := decide (k < 2048) && decide ((f (k / 8)).toNat / 2 ^ (k % 8) % 2 = 1)
theorem oct_back : ∀ v : Nat, v < 256 → oct (fun j => decide (v / 2 ^ j % 2 = 1)) = (v : Int) := by decide +kernel
theorem byt_bitsOf (f : Nat → Int) (i : Nat) (hi : i < 256) (hb : 0 ≤ f i ∧ f i < 256) : byt (bitsOf f) i = f i := by
  have h := oct_back (f i).toNat (by omega)
  have e : byt (bitsOf f) i = oct (fun j => decide ((f i).toNat / 2 ^ j % 2 = 1)) := by
    refine oct_congr _ _ fun j hj => ?_
    unfold bitsOf
    rw [show (8 * i + j) / 8 = i by omega, show (8 * i + j) % 8 = j by omega, show decide (8 * i + j < 2048) = true by simp; omega, Bool.true_and]
  rw [e, h]
  omega

section
variable {ops : Array Oper} {rest : List Oper} {o : Oper} {a : Act} {w : World} {Q : Exit → Act → World → Prop}
/-- A row stored into the midst of a block. -/
theorem wpList_store_into (hgd : o.guard = none) (ty : TypeId) (x y : Operand) (ho : o.op = .store ty x y) (g i : Nat) (cells : Array Value) (hx : a.eval x = .pointer (some ⟨g, i, none⟩)) (hy : a.eval y = .agg cells)
    (t : TypeId) (cur : Array Value) (hR : Row w g cur t) (hi : (Try.prog.info? ty).map (·.size) = some cells.size) (hfit : i + cells.size ≤ cur.size) (h1 : ∀ v ∈ cells.toList, v.oneCell' = true)
    (h : wpList Try.prog ops Q rest (a.put o.dst undef) (w.setRow g (cur.toList.take i ++ cells.toList ++ cur.toList.drop (i + cells.size)).toArray)) : wpList Try.prog ops Q (o :: rest) a w :=
  wpList_plain hgd fun K hK => by
    have hst := run_storeCells_at Try.prog g i t cells.toList 0 cur w hR (by simpa using hfit) h1
    have hsv : (storeVar ty ⟨g, i, none⟩ (.agg cells)).run Try.prog w = .ok () (w.setRow g (cur.toList.take i ++ cells.toList ++ cur.toList.drop (i + cells.size)).toArray) := by
      cases hq : Try.prog.info? ty with
      | none => simp [hq] at hi
      | some j =>
        have hs : cells.size = j.size := by simp [hq] at hi; omega
        simp only [Nat.add_zero, Array.length_toList] at hst
        simp [storeVar, sizeOf, typeInfo, hq, Value.cells, hs, hst]
    unfold Oper.wp execOp
    simp only [ho, hx, hy, Instr.storeAt, Instr.sureAddr, Sem.run_bind, Sem.run_pure, Result.andThen_ok, hsv]
    exact hK _ _ h
end

theorem read_bad (n : Int) (b : Value) (w : World) (h : n < 1 ∨ 2048 < n) : Calls Try.prog 18 #[b, .int .i64 n] w fun e w' => e = .returned (.tuple #[.pointer none, .int .i64 2]) ∧ w' = w := by
  have H := new_bad n w h
  clear h
  go_enter Try.func18, Try.ntmps18
  go_wp2_with fail
  refine H.mono ?_
  rintro e w' ⟨rfl, rfl⟩
  go_wp2
  go_ret2
  exact ⟨rfl, rfl⟩
theorem read_len (n : Nat) (a : Option Addr) (len cap : Nat) (w : World) (h0 : 1 ≤ n) (h1 : n ≤ 2048) (hl : len ≠ 256) : Calls Try.prog 18 #[.slice a len cap, .int .i64 n] w fun e w' => e = .returned (.tuple #[.pointer none, .int .i64 2]) ∧ Below w.heap.size w w' := by
  have H := new_ok n w h0 h1
  have hl' : ¬ (len : Int) = 256 := by omega
  clear h0 h1
  go_enter Try.func18, Try.ntmps18
  go_wp2_with fail
  refine H.mono ?_
  rintro e w' ⟨rfl, _, hb⟩
  go_wp2
  go_ret2
  exact ⟨rfl, hb⟩

/-- Is a bit from n on set? -/
def beyond (S : Nat → Bool) (n : Nat) : Nat → Bool
  | 0 => false
  | j + 1 => beyond S n j || S (n + j)
theorem beyond_no (S : Nat → Bool) (n j : Nat) (h : beyond S n j = false) : ∀ k, n ≤ k → k < n + j → S k = false := by
  induction j with
  | zero => intro k h1 h2; omega
  | succ j ih =>
    intro k h1 h2
    unfold beyond at h
    simp only [Bool.or_eq_false_iff] at h
    by_cases e : k = n + j
    · rw [e]; exact h.2
    · exact ih h.1 k h1 (by omega)
theorem beyond_yes (S : Nat → Bool) (n j i : Nat) (hi : i < j) (h : S (n + i) = true) : beyond S n j = true := by
  induction j with
  | zero => omega
  | succ j ih =>
    unfold beyond
    by_cases e : i = j
    · rw [← e, h]; simp
    · rw [ih (by omega)]; rfl

set_option maxRecDepth 20000 in
set_option maxHeartbeats 2000000 in
theorem read_ok (n : Nat) (b off cap : Nat) (f : Nat → Int) (w : World) (h0 : 1 ≤ n) (h1 : n ≤ 2048) (hB : Bs w (some ⟨b, off, none⟩) b off 256 f) :
    Calls Try.prog 18 #[.slice (some ⟨b, off, none⟩) 256 cap, .int .i64 n] w fun e w' => Below w.heap.size w w' ∧
      ((beyond (bitsOf f) n (2048 - n) = true ∧ e = .returned (.tuple #[.pointer none, .int .i64 10])) ∨
       (beyond (bitsOf f) n (2048 - n) = false ∧ e = .returned (.tuple #[.pointer (some ⟨w.heap.size, 0, none⟩), .int .i64 0]) ∧ SetAt w' w.heap.size n (bitsOf f))) := by
  have H := new_ok n w h0 h1
  have hat : ∀ w, (Instr.arrayAt 51 (.slice (some ⟨b, off, none⟩) 256 cap)).run Try.prog w = .ok (.pointer (some ⟨b, off, none⟩)) w := fun w => run_arrayAt w 51 5 256 _ 256 cap Try.underlying51 (Nat.le_refl _)
  have HB : Hid _ := hB
  clear hB
  have hlen := byts_len f 256
  have hone := byts_one f 256
  have hi51 : (Try.prog.info? 51).map (·.size) = some (byts f 256).length := by rw [hlen]; exact info51
  have hcs : ∀ S, ((setC n S).toList.take 1 ++ (byts f 256 ++ (setC n S).toList.drop 257)).toArray = setC n (bitsOf f) := fun S => by
    have e1 : (Value.int .i64 n :: byts f 256).toArray = setC n (bitsOf f) := by
      unfold setC
      rw [byts_congr (byt (bitsOf f)) f 256 (fun i hi => byt_bitsOf f i hi (HB.out.bd i))]
    rw [← e1]
    have e2 : (setC n S).toList = .int .i64 n :: byts (byt S) 256 := by simp [setC]
    rw [e2]
    have e3 : (byts (byt S) 256).drop 256 = [] := List.drop_eq_nil_of_le (by rw [byts_len]; exact Nat.le_refl _)
    simp only [List.take_succ_cons, List.take_zero, List.drop_succ_cons, e3]
    simp
  have HC : Hid _ := hcs
  clear hcs
  go_enter Try.func18, Try.ntmps18
  go_wp2_with fail
  refine H.mono ?_
  rintro e w1 ⟨rfl, hS, hb⟩
  have hrg : w1.rangeAt b off (byts f 256) := fun j v hv => by
    have hj : j < 256 := by rw [← hlen]; exact (List.getElem?_eq_some_iff.1 hv).1
    rw [(HB.out.belowAll hb).cell j hj, ← hv, byts_at _ _ _ hj]
  have hfit : 1 + (byts f 256).toArray.size ≤ (setC n none').size := by rw [setC_size]; simp [hlen]
  have hrow := hS.row
  have hs := hb.size
  obtain ⟨WW, hWW⟩ : ∃ WW, WW = w1.setRow w.heap.size ((setC n none').toList.take 1 ++ (byts f 256 ++ (setC n none').toList.drop 257)).toArray := ⟨_, rfl⟩
  have hR2 : Row WW w.heap.size (setC n (bitsOf f)) 53 := by
    rw [hWW, HC.out none']
    exact hrow.setRow
  have hb2 : Below w.heap.size w WW := by rw [hWW]; exact hb.trans ((Chg.of_setRow w1 _).to_below (Nat.le_refl _) hs)
  have hi51' : (Try.prog.info? 51).map (·.size) = some (byts f 256).toArray.size := by rw [hi51]; simp
  have HR : Hid _ := hR2
  have HBB : Hid _ := hb2
  have HW : Hid _ := hWW
  clear hR2 hb2 HC H hS hb hWW
  generalize setC n none' = Z at *
  generalize byts f 256 = L at *
  go_wp2_with (first
    | refine wpList_load_mid rfl 51 _ rfl b off rfl L _ hrg Try.underlying51 rfl hi51 ?_
    | refine wpList_store_into rfl 51 _ _ rfl w.heap.size 1 L.toArray rfl rfl 53 Z hrow hi51' hfit (by simpa using hone) ?_)
  go_loopw [28] (fun v wr => ∃ j : Nat, j ≤ 2048 - n ∧ v = .int .i64 j ∧ Row wr w.heap.size (setC n (bitsOf f)) 53 ∧ beyond (bitsOf f) n j = false ∧ Below w.heap.size w wr) (fun v _ => 2048 - n - (intOf v).toNat)
  case atStart => exact ⟨0, by omega, rfl, by rw [← HW.out]; exact HR.out, rfl, by rw [← HW.out]; exact HBB.out⟩
  case round =>
    obtain ⟨j, hj, rfl, hR, hbn, hbw⟩ := hrel
    clear hat HR HBB HW hrg hrow hi51 hi51' hfit hone hlen
    by_cases hjn : j < 2048 - n
    · have hj' : (j : Int) < 2048 - n := by omega
      have H3 := in_row hR (n + j) (by omega)
      rw [Int.natCast_add] at H3
      have e1 : IntKind.i64.wrap ((n : Int) + j) = (n : Int) + j := by rw [IntKind.wrap_i64]; omega
      cases hS : bitsOf f (n + j) with
      | true =>
        rw [hS] at H3
        go_wp2_with fail
        refine H3.mono ?_
        rintro e w2 ⟨rfl, hst⟩
        go_wp2
        go_ret2
        exact ⟨hbw.trans (hst.below _), .inl ⟨beyond_yes _ _ _ j hjn hS, rfl⟩⟩
      | false =>
        rw [hS] at H3
        go_wp2_with fail
        refine H3.mono ?_
        rintro e w2 ⟨rfl, hst⟩
        clear H3
        go_wp2
        go_roundw
        case rel => exact ⟨j + 1, by omega, by go_num, hR.still hst, by rw [beyond, hbn, hS]; rfl, hbw.trans (hst.below _)⟩
        case measure => simp [intOf]; omega
    · have hj' : ¬ (j : Int) < 2048 - n := by omega
      obtain rfl : j = 2048 - n := by omega
      have HBN : Hid _ := hbn
      clear hbn
      go_wp2
      go_ret2
      refine ⟨hbw, .inr ⟨HBN.out, rfl, hR, h0, h1, fun k hk => ?_⟩⟩
      by_cases h : k < 2048
      · exact beyond_no _ _ _ HBN.out k hk (by omega)
      · unfold bitsOf
        rw [decide_eq_false h]
        rfl
end Go.Proofs.Ythjmmlgcaigdfaa
