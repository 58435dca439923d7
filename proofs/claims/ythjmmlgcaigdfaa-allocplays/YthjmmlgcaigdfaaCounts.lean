/- The law AllocCounts. -/
import Derived.Test.YthjmmlgcaigdfaaTakes
namespace Go.Proofs.Ythjmmlgcaigdfaa
open Go.RowKit

/-- What lies in memory: the set T, and the one that it was, S. -/
structure Ck (w : World) (m g : Nat) (S T : Nat → Bool) (wr : World) : Prop where
  set : SetAt wr w.heap.size m T
  was : SetAt wr g m S
  old : Below w.heap.size w wr
  ne : g ≠ w.heap.size
section
variable {w wr w2 : World} {m g : Nat} {S T T' : Nat → Bool}
theorem Ck.still (h : Ck w m g S T wr) (hs : Still wr w2) : Ck w m g S T w2 := ⟨h.set.still hs, h.was.still hs, h.old.trans (hs.below _), h.ne⟩
theorem Ck.put (h : Ck w m g S T wr) (hs : SetAt w2 w.heap.size m T') (hc : Chg w.heap.size wr w2) : Ck w m g S T' w2 := ⟨hs, h.was.chg hc h.ne, h.old.trans (hc.to_below (Nat.le_refl _) h.old.size), h.ne⟩
end
theorem fl_fl (S : Nat → Bool) (k : Nat) : fl (fl S k) k = S := by
  funext j
  by_cases e : j = k
  · subst e; simp [fl]
  · simp [fl, e]
theorem cnt_out (S : Nat → Bool) (k n : Nat) (h : n ≤ k) : cnt (fl S k) n = cnt S n := by
  induction n with
  | zero => rfl
  | succ n ih => unfold cnt; rw [ih (by omega), fl_other S k n (by omega)]
theorem cnt_fl (S : Nat → Bool) (k n : Nat) (h : k < n) : cnt (fl S k) n + (S k).toNat = cnt S n + (!S k).toNat := by
  induction n with
  | zero => omega
  | succ n ih =>
    unfold cnt
    by_cases e : k = n
    · subst e
      rw [cnt_out S k k (Nat.le_refl _), fl_at]
      omega
    · rw [fl_other S k n (by omega)]
      have := ih (by omega)
      omega

set_option maxRecDepth 20000 in
set_option maxHeartbeats 4000000 in
theorem law_counts (n0 : Int) (a : Option Addr) (b off len cap : Nat) (f : Nat → Int) (w : World) (hI : Is w a b off len f) :
    Calls Try.prog 7 #[.int .i64 n0, .slice a len cap] w fun e w' => e = .returned (.bool true) ∧ Below w.heap.size w w' := by
  obtain ⟨q, hq, hq1⟩ := and2047 n0
  have HI : Hid _ := hI
  clear hI
  have hwq : IntKind.i64.wrap (1 + (q : Int)) = ((1 + q : Nat) : Int) := by rw [IntKind.wrap_i64]; omega
  obtain ⟨m, hm⟩ : ∃ m, m = 1 + q := ⟨_, rfl⟩
  rw [← hm] at hwq
  have hm1 : 1 ≤ m := by omega
  have hm2 : m ≤ 2048 := by omega
  have HM : Hid _ := hm
  clear hm
  have HN := new_ok m w hm1 hm2
  go_enter Try.func7, Try.ntmps7
  go_wp2_with fail
  refine HN.mono ?_
  rintro e w1 ⟨rfl, hS, hb⟩
  have hs := hb.size
  have hlt := hS.row.lt
  clear HN
  have HS : Hid _ := hS
  clear hS
  go_wp2
  go_loopw [7] (fun v wr => ∃ i : Nat, i ≤ len ∧ v = .int .i64 i ∧ ∃ S, SetAt wr w.heap.size m S ∧ Below w.heap.size w wr) (fun v _ => len - (intOf v).toNat)
  case atStart => exact ⟨0, by omega, rfl, none', HS.out, hb⟩
  case round =>
    obtain ⟨i, hi, rfl, S, hT, hbr⟩ := hrel
    clear hq hwq hb HS
    by_cases hl : i < len
    · have hl' : (i : Int) < len := by omega
      by_cases hl3 : i < 300
      · have hl3' : (i : Int) < 300 := by omega
        have ha := HI.out.at' (by omega)
        have hc := (HI.out.belowAll hbr).cell i hl
        subst ha
        obtain ⟨r, hr, hr1, hr2, K, hK, hK2⟩ := into (f i) m hm1
        have e1 : IntKind.i64.wrap r = r := by rw [IntKind.wrap_i64]; omega
        have e2 : IntKind.i64.wrap (r + m) = r + m := by rw [IntKind.wrap_i64]; omega
        have e3 : IntKind.i64.wrap (K : Int) = K := by rw [IntKind.wrap_i64]; omega
        generalize f i = x at *
        have HT := clone_ok hT
        have hlts := hT.row.lt
        go_wp2_with fail
        refine HT.mono ?_
        rintro e w2 ⟨rfl, h2, h3⟩
        have hC2 : Ck w m wr.heap.size S S w2 := ⟨hT.below h3, h2, hbr.trans (h3.mono (by omega)), by omega⟩
        have HK : Hid _ := hK2
        clear hc hr hr1 hr2 e1 e2 e3 hK2 HT h2 h3 hT
        have hcl := cnt_le S m
        have hcl2 := cnt_le (fl S K) m
        have hcf := cnt_fl S K m hK
        have HT := count_ok hC2.set
        go_wp2_with fail
        refine HT.mono ?_
        rintro e w3 ⟨rfl, h2⟩
        have hC3 := hC2.still h2
        clear HT h2 hC2
        have HT := has_in hC3.set K hK
        go_wp2_with fail
        cases hS : S K with
        | true =>
          rw [hS] at HT hcf
          refine HT.mono ?_
          rintro e w4 ⟨rfl, h2⟩
          have hC4 := hC3.still h2
          clear HT h2 hC3
          have HT := put_there hC4.set K hK hS
          go_wp2_with fail
          refine HT.mono ?_
          rintro e w5 ⟨rfl, h2⟩
          have hC5 := hC4.still h2
          clear HT h2 hC4
          have HT := drop_in hC5.set K hK hS
          go_wp2_with fail
          refine HT.mono ?_
          rintro e w6 ⟨rfl, h2, h3⟩
          have hC6 := hC5.put h2 h3
          clear HT h2 h3 hC5
          have HT := same_ok hC6.set hC6.was
          rw [sameB_no m _ m _ K (by omega) (by rw [fl_at, hS]; decide)] at HT
          go_wp2_with fail
          refine HT.mono ?_
          rintro e w7 ⟨rfl, h2⟩
          have hC7 := hC6.still h2
          clear HT h2 hC6
          have HT := put_new hC7.set K hK (by rw [fl_at, hS]; rfl)
          go_wp2_with fail
          refine HT.mono ?_
          rintro e w8 ⟨rfl, h2, h3⟩
          have hC8 := hC7.put h2 h3
          rw [fl_fl] at hC8
          clear HT h2 h3 hC7
          have HT := same_ok hC8.set hC8.was
          rw [sameB_refl] at HT
          go_wp2_with fail
          refine HT.mono ?_
          rintro e w9 ⟨rfl, h2⟩
          have hC9 := hC8.still h2
          clear HT h2 hC8
          have HT := drop_in hC9.set K hK hS
          go_wp2_with fail
          refine HT.mono ?_
          rintro e w10 ⟨rfl, h2, h3⟩
          have hC10 := hC9.put h2 h3
          clear HT h2 h3 hC9
          have HT := count_ok hC10.set
          go_wp2_with fail
          refine HT.mono ?_
          rintro e w11 ⟨rfl, h2⟩
          have hC11 := hC10.still h2
          clear HT h2 hC10
          generalize hc1 : cnt S m = c1 at *
          generalize hc2 : cnt (fl S K) m = c2 at *
          simp at hcf
          have z1 : IntKind.i64.wrap ((c1 : Int) + ((m : Int) - c1)) = m := by rw [IntKind.wrap_i64]; omega
          have z2 : IntKind.i64.wrap ((c2 : Int) + ((m : Int) - c2)) = m := by rw [IntKind.wrap_i64]; omega
          have z3 : IntKind.i64.wrap ((c2 : Int) - c1) = -1 := by rw [IntKind.wrap_i64]; omega
          have z4 : IntKind.i64.wrap ((c1 : Int) - c2) = 1 := by rw [IntKind.wrap_i64]; omega
          clear hc1 hc2 hcf hS
          go_wp2
          go_roundw
          case rel => exact ⟨i + 1, by omega, by go_num, fl S K, hC11.set, hC11.old⟩
          case measure => simp [intOf]; omega
        | false =>
          rw [hS] at HT hcf
          refine HT.mono ?_
          rintro e w4 ⟨rfl, h2⟩
          have hC4 := hC3.still h2
          clear HT h2 hC3
          have HT := drop_none hC4.set K hK hS
          go_wp2_with fail
          refine HT.mono ?_
          rintro e w5 ⟨rfl, h2⟩
          have hC5 := hC4.still h2
          clear HT h2 hC4
          have HT := put_new hC5.set K hK hS
          go_wp2_with fail
          refine HT.mono ?_
          rintro e w6 ⟨rfl, h2, h3⟩
          have hC6 := hC5.put h2 h3
          clear HT h2 h3 hC5
          have HT := same_ok hC6.set hC6.was
          rw [sameB_no m _ m _ K (by omega) (by rw [fl_at, hS]; decide)] at HT
          go_wp2_with fail
          refine HT.mono ?_
          rintro e w7 ⟨rfl, h2⟩
          have hC7 := hC6.still h2
          clear HT h2 hC6
          have HT := drop_in hC7.set K hK (by rw [fl_at, hS]; rfl)
          go_wp2_with fail
          refine HT.mono ?_
          rintro e w8 ⟨rfl, h2, h3⟩
          have hC8 := hC7.put h2 h3
          rw [fl_fl] at hC8
          clear HT h2 h3 hC7
          have HT := same_ok hC8.set hC8.was
          rw [sameB_refl] at HT
          go_wp2_with fail
          refine HT.mono ?_
          rintro e w9 ⟨rfl, h2⟩
          have hC9 := hC8.still h2
          clear HT h2 hC8
          have HT := put_new hC9.set K hK hS
          go_wp2_with fail
          refine HT.mono ?_
          rintro e w10 ⟨rfl, h2, h3⟩
          have hC10 := hC9.put h2 h3
          clear HT h2 h3 hC9
          have HT := count_ok hC10.set
          go_wp2_with fail
          refine HT.mono ?_
          rintro e w11 ⟨rfl, h2⟩
          have hC11 := hC10.still h2
          clear HT h2 hC10
          generalize hc1 : cnt S m = c1 at *
          generalize hc2 : cnt (fl S K) m = c2 at *
          simp at hcf
          have z1 : IntKind.i64.wrap ((c1 : Int) + ((m : Int) - c1)) = m := by rw [IntKind.wrap_i64]; omega
          have z2 : IntKind.i64.wrap ((c2 : Int) + ((m : Int) - c2)) = m := by rw [IntKind.wrap_i64]; omega
          have z3 : IntKind.i64.wrap ((c2 : Int) - c1) = 1 := by rw [IntKind.wrap_i64]; omega
          have z4 : IntKind.i64.wrap ((c1 : Int) - c2) = -1 := by rw [IntKind.wrap_i64]; omega
          clear hc1 hc2 hcf hS
          go_wp2
          go_roundw
          case rel => exact ⟨i + 1, by omega, by go_num, fl S K, hC11.set, hC11.old⟩
          case measure => simp [intOf]; omega
      · have hl3' : ¬ (i : Int) < 300 := by omega
        go_wp2
        go_ret
        exact ⟨rfl, hbr⟩
    · have hl' : ¬ (i : Int) < len := by omega
      go_wp2
      go_ret
      exact ⟨rfl, hbr⟩
end Go.Proofs.Ythjmmlgcaigdfaa
