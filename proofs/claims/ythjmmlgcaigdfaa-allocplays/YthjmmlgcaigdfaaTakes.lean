/- The law AllocTakes. -/
import Derived.Test.YthjmmlgcaigdfaaBools
namespace Go.Proofs.Ythjmmlgcaigdfaa
open Go.RowKit

/-- What lies in memory: the set T, and bools, which of its numbers were put. -/
structure Tk (w : World) (m gb : Nat) (S T : Nat → Bool) (wr : World) : Prop where
  set : SetAt wr w.heap.size m T
  row : Row wr gb (bls S m) 4
  old : Below w.heap.size w wr
section
variable {w wr w2 : World} {m gb : Nat} {S T T' : Nat → Bool}
theorem Tk.ne (h : Tk w m gb S T wr) : gb ≠ w.heap.size := fun e => by
  subst e
  have := h.row.symm.trans h.set.row
  simp at this
theorem Tk.still (h : Tk w m gb S T wr) (hs : Still wr w2) : Tk w m gb S T w2 := ⟨h.set.still hs, h.row.still hs, h.old.trans (hs.below _)⟩
theorem Tk.put (h : Tk w m gb S T wr) (hs : SetAt w2 w.heap.size m T') (hc : Chg w.heap.size wr w2) : Tk w m gb S T' w2 := ⟨hs, h.row.chg hc h.ne, h.old.trans (hc.to_below (Nat.le_refl _) h.old.size)⟩
theorem Tk.mark (h : Tk w m gb S T wr) (hgb : w.heap.size ≤ gb) (k : Nat) (hS : T k = true) (hT : ∀ j, j ≠ k → T j = S j) : Tk w m gb T T (wr.setCell ⟨gb, k, none⟩ (.bool true)) := by
  refine ⟨⟨h.set.row.setCell_other (fun e => h.ne e.symm) _, h.set.lo, h.set.hi, h.set.top⟩, ?_, h.old.setCell (p := ⟨gb, k, none⟩) hgb _⟩
  rw [← bls_set S T m k true hS hT]
  exact h.row.setCell _
end
theorem fl_at (S : Nat → Bool) (k : Nat) : fl S k k = !S k := by simp [fl]
theorem fl_other (S : Nat → Bool) (k j : Nat) (h : j ≠ k) : fl S k j = S j := by simp [fl, h]
/-- The numbers below k, too. -/
def upto (S : Nat → Bool) (k j : Nat) : Bool := S j || decide (j < k)
theorem upto_zero (S : Nat → Bool) : upto S 0 = S := by funext j; simp [upto]
theorem upto_in (S : Nat → Bool) (k : Nat) (h : S k = true) : upto S (k + 1) = upto S k := by
  funext j
  by_cases e : j = k
  · subst e; simp [upto, h]
  · have e2 : (j < k + 1) ↔ (j < k) := by omega
    simp [upto, e2]
theorem upto_new (S : Nat → Bool) (k : Nat) (h : S k = false) : upto S (k + 1) = fl (upto S k) k := by
  funext j
  by_cases e : j = k
  · subst e; simp [upto, fl, h]
  · have e2 : (j < k + 1) ↔ (j < k) := by omega
    simp [upto, fl, e, e2]

set_option maxRecDepth 20000 in
set_option maxHeartbeats 2000000 in
theorem law_takes (n0 : Int) (a : Option Addr) (b off len cap : Nat) (f : Nat → Int) (w : World) (hI : Is w a b off len f) (hlc : len ≤ cap) (hcm : cap ≤ maxLen) :
    Calls Try.prog 6 #[.int .i64 n0, .slice a len cap] w fun e w' => e = .returned (.bool true) ∧ Below w.heap.size w w' := by
  unfold maxLen at hcm
  obtain ⟨q, hq, hq1⟩ := and2047 n0
  have HI : Hid _ := hI
  clear hI
  have hwq : IntKind.i64.wrap (1 + (q : Int)) = ((1 + q : Nat) : Int) := by rw [IntKind.wrap_i64]; omega
  obtain ⟨m, hm⟩ : ∃ m, m = 1 + q := ⟨_, rfl⟩
  rw [← hm] at hwq
  have hm1 : 1 ≤ m := by omega
  have hm2 : m ≤ 2048 := by omega
  have HM : Hid _ := hm
  clear hm
  have HN := new_ok m w hm1 hm2
  go_enter Try.func6, Try.ntmps6
  go_wp2_with fail
  refine HN.mono ?_
  rintro e w1 ⟨rfl, hS, hb⟩
  have hmk := run_make_row' (P := Try.prog) 44 4 (.bool false) 1 Try.underlying44 Try.info4 rfl .i64 .i64 m (by omega) (by omega) w1
  rw [made_bls] at hmk
  have hs := hb.size
  have hlt := hS.row.lt
  clear HN
  have HS : Hid _ := hS
  clear hS
  go_wp2
  go_loopw [8] (fun v wr => ∃ i : Nat, i ≤ len ∧ v = .int .i64 i ∧ ∃ S, Tk w m w1.heap.size S S wr) (fun v _ => len - (intOf v).toNat)
  case atStart =>
    refine ⟨0, by omega, rfl, none', HS.out.below ((Below.refl _ _).alloc (Nat.le_refl _) _), Row.new w1 _ 4, hb.alloc hs _⟩
  case round =>
    obtain ⟨i, hi, rfl, S, hT⟩ := hrel
    clear hmk hq hwq hb HS
    by_cases hl : i < len
    · have ha := HI.out.at' (by omega)
      have hc := (HI.out.belowAll hT.old).cell i hl
      subst ha
      obtain ⟨r, hr, hr1, hr2, K, hK, hK2⟩ := into (f i) m hm1
      have e1 : IntKind.i64.wrap r = r := by rw [IntKind.wrap_i64]; omega
      have e2 : IntKind.i64.wrap (r + m) = r + m := by rw [IntKind.wrap_i64]; omega
      have e3 : IntKind.i64.wrap (K : Int) = K := by rw [IntKind.wrap_i64]; omega
      have hl' : (i : Int) < len := by omega
      generalize f i = x at *
      go_wp2_with fail
      have HK : Hid _ := hK2
      clear hc hr hr1 hr2 e1 e2 e3 hK2
      have hK' : (K : Int) < m := by omega
      cases hS : S K with
      | true =>
        refine wp_region_permA [(false, 0), (false, 1), (false, 4), (false, 5), (false, 6), (false, 7), (false, 8), (true, 2), (false, 3), (false, 9)] (fun wx => Row wx w1.heap.size (bls S m) 4) (by kernel_rfl) (by kernel_rfl) hT.row ?_
        refine a_move (some 46) _ rfl rfl rfl (by rfl) ?_
        simp only [Act.put, List.setIfInBounds_toArray, List.set_cons_zero, List.set_cons_succ]
        refine a_move (some 47) _ rfl rfl rfl (by rfl) ?_
        simp only [Act.put, List.setIfInBounds_toArray, List.set_cons_zero, List.set_cons_succ]
        refine a_move (some 50) _ rfl rfl rfl (by rfl) ?_
        simp only [Act.put, List.setIfInBounds_toArray, List.set_cons_zero, List.set_cons_succ]
        refine a_move (some 51) _ rfl rfl rfl (by rfl) ?_
        simp only [Act.put, List.setIfInBounds_toArray, List.set_cons_zero, List.set_cons_succ]
        refine a_value (some 52) ?_ rfl rfl (by rfl) (fun w hw => ?_) ?_
        rotate_left
        · go_simp
          with_reducible rfl
        simp only [Act.put, List.setIfInBounds_toArray, List.set_cons_zero, List.set_cons_succ]
        refine a_value (some 53) ?_ rfl rfl (by rfl) (fun w hw => ?_) ?_
        rotate_left
        · have hc := (hw.cell K).trans (bls_at S m K hK)
          go_simp
          with_reducible rfl
        simp only [Act.put, List.setIfInBounds_toArray, List.set_cons_zero, List.set_cons_succ]
        refine a_value (some 54) ?_ rfl rfl (by rfl) (fun w hw => ?_) ?_
        rotate_left
        · go_simp
          with_reducible rfl
        simp only [Act.put, List.setIfInBounds_toArray, List.set_cons_zero, List.set_cons_succ]
        refine a_call (some 48) rfl rfl (by rfl) 13 #[.pointer (some ⟨w.heap.size, 0, none⟩), .int .i64 K] (by go_simp) ((put_there (hT.still (Still.refl wr).drew).set K hK hS).mono fun e w2 ⟨he, h2⟩ => ⟨_, he, (hT.still ((Still.refl wr).drew.trans h2)).row, ?_⟩)
        have hT2 := hT.still ((Still.refl wr).drew.trans h2)
        simp only [Act.put, List.setIfInBounds_toArray, List.set_cons_zero, List.set_cons_succ]
        refine a_value (some 49) ?_ rfl rfl (by rfl) (fun w hw => ?_) ?_
        rotate_left
        · go_simp
          with_reducible rfl
        simp only [Act.put, List.setIfInBounds_toArray, List.set_cons_zero, List.set_cons_succ]
        refine a_value (some 55) ?_ rfl rfl (by rfl) (fun w hw => ?_) ?_
        rotate_left
        · go_simp
          with_reducible rfl
        simp only [Act.put, List.setIfInBounds_toArray, List.set_cons_zero, List.set_cons_succ]
        refine a_done ?_
        try simp only [Exit.then]
        have hcb := (hT2.row.cell K).trans (bls_at S m K hK)
        have hfz := hT2.row.frozen K
        go_wp2
        go_roundw
        case rel => exact ⟨i + 1, by omega, by go_num, S, hT2.mark hs K hS (fun j _ => rfl)⟩
        case measure => simp [intOf]; omega
      | false =>
        refine wp_region_permA [(false, 0), (false, 1), (false, 4), (false, 5), (false, 6), (false, 7), (false, 8), (true, 2), (false, 3), (false, 9)] (fun wx => Row wx w1.heap.size (bls S m) 4) (by kernel_rfl) (by kernel_rfl) hT.row ?_
        refine a_move (some 46) _ rfl rfl rfl (by rfl) ?_
        simp only [Act.put, List.setIfInBounds_toArray, List.set_cons_zero, List.set_cons_succ]
        refine a_move (some 47) _ rfl rfl rfl (by rfl) ?_
        simp only [Act.put, List.setIfInBounds_toArray, List.set_cons_zero, List.set_cons_succ]
        refine a_move (some 50) _ rfl rfl rfl (by rfl) ?_
        simp only [Act.put, List.setIfInBounds_toArray, List.set_cons_zero, List.set_cons_succ]
        refine a_move (some 51) _ rfl rfl rfl (by rfl) ?_
        simp only [Act.put, List.setIfInBounds_toArray, List.set_cons_zero, List.set_cons_succ]
        refine a_value (some 52) ?_ rfl rfl (by rfl) (fun w hw => ?_) ?_
        rotate_left
        · go_simp
          with_reducible rfl
        simp only [Act.put, List.setIfInBounds_toArray, List.set_cons_zero, List.set_cons_succ]
        refine a_value (some 53) ?_ rfl rfl (by rfl) (fun w hw => ?_) ?_
        rotate_left
        · have hc := (hw.cell K).trans (bls_at S m K hK)
          go_simp
          with_reducible rfl
        simp only [Act.put, List.setIfInBounds_toArray, List.set_cons_zero, List.set_cons_succ]
        refine a_value (some 54) ?_ rfl rfl (by rfl) (fun w hw => ?_) ?_
        rotate_left
        · go_simp
          with_reducible rfl
        simp only [Act.put, List.setIfInBounds_toArray, List.set_cons_zero, List.set_cons_succ]
        refine a_call (some 48) rfl rfl (by rfl) 13 #[.pointer (some ⟨w.heap.size, 0, none⟩), .int .i64 K] (by go_simp) ((put_new (hT.still (Still.refl wr).drew).set K hK hS).mono fun e w2 ⟨he, h2, h3⟩ => ⟨_, he, ((hT.still (Still.refl wr).drew).put h2 h3).row, ?_⟩)
        have hT2 := (hT.still (Still.refl wr).drew).put h2 h3
        simp only [Act.put, List.setIfInBounds_toArray, List.set_cons_zero, List.set_cons_succ]
        refine a_value (some 49) ?_ rfl rfl (by rfl) (fun w hw => ?_) ?_
        rotate_left
        · go_simp
          with_reducible rfl
        simp only [Act.put, List.setIfInBounds_toArray, List.set_cons_zero, List.set_cons_succ]
        refine a_value (some 55) ?_ rfl rfl (by rfl) (fun w hw => ?_) ?_
        rotate_left
        · go_simp
          with_reducible rfl
        simp only [Act.put, List.setIfInBounds_toArray, List.set_cons_zero, List.set_cons_succ]
        refine a_done ?_
        try simp only [Exit.then]
        have hcb := (hT2.row.cell K).trans (bls_at S m K hK)
        have hfz := hT2.row.frozen K
        go_wp2
        go_roundw
        case rel => exact ⟨i + 1, by omega, by go_num, fl S K, hT2.mark hs K (by rw [fl_at, hS]; rfl) (fun j hj => fl_other S K j hj)⟩
        case measure => simp [intOf]; omega
    · clear HI
      have hl' : ¬ (i : Int) < len := by omega
      go_wp2
      go_loopw [10] (fun v wx => ∃ k : Nat, k ≤ m ∧ v = .int .i64 k ∧ Tk w m w1.heap.size S (upto S k) wx) (fun v _ => m - (intOf v).toNat)
      case atStart => exact ⟨0, by omega, rfl, by rw [upto_zero]; exact hT⟩
      case round =>
        obtain ⟨k, hk, rfl, hU⟩ := hrel
        clear hT
        by_cases hkm : k < m
        · have hk' : (k : Int) < m := by omega
          have hcb := (hU.row.cell k).trans (bls_at S m k hkm)
          cases hS : S k with
          | true =>
            rw [hS] at hcb
            go_wp2
            go_roundw
            case rel => exact ⟨k + 1, by omega, by go_num, by rw [upto_in S k hS]; exact hU⟩
            case measure => simp [intOf]; omega
          | false =>
            rw [hS] at hcb
            have HT := take_ok hU.set k hkm (fun j hj => by simp [upto, hj]) (by simp [upto, hS])
            go_wp2_with fail
            refine HT.mono ?_
            rintro e w2 ⟨rfl, h2, h3⟩
            clear hcb HT
            have hU2 := hU.put h2 h3
            go_wp2
            go_roundw
            case rel => exact ⟨k + 1, by omega, by go_num, by rw [upto_new S k hS]; exact hU2⟩
            case measure => simp [intOf]; omega
        · have hk' : ¬ (k : Int) < m := by omega
          have HT := take_full hU.set (fun j hj => by simp [upto]; right; omega)
          go_wp2_with fail
          refine HT.mono ?_
          rintro e w2 ⟨rfl, h2⟩
          clear HT
          have hU2 := hU.still h2
          go_wp2
          go_ret
          exact ⟨rfl, hU2.old⟩
end Go.Proofs.Ythjmmlgcaigdfaa
