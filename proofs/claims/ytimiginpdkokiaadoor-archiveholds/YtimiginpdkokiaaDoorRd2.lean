/- My own work: the walks of ContainsFunc over bytes, and next. -/
import Derived.Test.YtimiginpdkokiaaDoorRd
import Derived.Test.YtimiginpdkokiaaDoorStrs
namespace Go.Proofs.YtimiginpdkokiaaDoor
open Go.RowKit

set_option maxRecDepth 20000 in
theorem notZero_ok (c : Int) (w : World) : Calls Tryd.prog 79 #[.int .u8 c] w fun r w' => r = .returned (.bool (c != 0)) ∧ w' = w := by
  go_enter Tryd.func79, Tryd.ntmps79
  go_wp2
  go_ret
  exact ⟨rfl, rfl⟩
set_option maxRecDepth 20000 in
set_option maxHeartbeats 2000000 in
theorem indexFunc_ok (a : Option Addr) (b o m c : Nat) (g : Nat → Int) (w : World) (hat : 0 < m → a = some ⟨b, o, none⟩) (hcell : ∀ i, i < m → w.cell? ⟨b, o + i, none⟩ = some (.int .u8 (g i))) (hm : m ≤ c) (hc : c ≤ 9223372036854775807) :
    Calls Tryd.prog 81 #[.slice a m c, .func (.func 79) #[] #[]] w fun r w' => (∃ x : Int, r = .returned (.int .i64 x) ∧ (decide (0 ≤ x) = !zerosB g 0 m)) ∧ w' = w := by
  go_enter Tryd.func81, Tryd.ntmps81
  go_wp2
  go_loopw [8] (fun iv wx => ∃ i : Nat, iv = .int .i64 i ∧ i ≤ m ∧ wx = w ∧ ∀ j, j < i → g j = 0) (fun iv _ => m - (intOf iv).toNat)
  case atStart => exact ⟨0, rfl, Nat.zero_le _, rfl, fun j hj => absurd hj (by omega)⟩
  case round =>
    obtain ⟨i, rfl, hi, rfl, hz⟩ := hrel
    by_cases hlt : i < m
    · have hlt' : (i : Int) < (m : Int) := by omega
      obtain rfl := hat (by omega)
      have c0 := hcell i hlt
      have HZ : Hid (∀ j, j < i → g j = 0) := hz
      clear hz
      go_wp2_with fail
      refine Calls.mono (notZero_ok (g i) _) ?_
      rintro r w2 ⟨rfl, rfl⟩
      by_cases hg : g i = 0
      · have HZ2 : Hid (∀ j, j < i + 1 → g j = 0) := fun j hj => by
          rcases Nat.lt_succ_iff_lt_or_eq.1 hj with h | h
          · exact HZ.out j h
          · rw [h]; exact hg
        have hg' : (g i != 0) = false := by simp [hg]
        clear HZ hg
        go_wp2
        go_roundw
        case rel => exact ⟨i + 1, by go_num, by omega, by trivial, HZ2.out⟩
        case measure => simp [intOf]; omega
      · have hg' : (g i != 0) = true := by simp [hg]
        have hzz : zerosB g 0 m = false := by
          unfold zerosB
          rw [List.all_eq_false]
          exact ⟨i, List.mem_range.2 hlt, by simpa using hg⟩
        clear HZ hg
        go_wp2
        go_ret
        exact ⟨⟨_, rfl, by rw [hzz]; simp⟩, rfl⟩
    · have hlt' : ¬ (i : Int) < (m : Int) := by omega
      have hzz : zerosB g 0 m = true := by
        unfold zerosB
        rw [List.all_eq_true]
        intro j hj
        have := hz j (by have := List.mem_range.1 hj; omega)
        simpa using this
      clear hz
      go_wp2
      go_ret
      exact ⟨⟨_, rfl, by decide⟩, rfl⟩
set_option maxRecDepth 20000 in
theorem contains_ok (a : Option Addr) (b o m c : Nat) (g : Nat → Int) (w : World) (hat : 0 < m → a = some ⟨b, o, none⟩) (hcell : ∀ i, i < m → w.cell? ⟨b, o + i, none⟩ = some (.int .u8 (g i))) (hm : m ≤ c) (hc : c ≤ 9223372036854775807) :
    Calls Tryd.prog 78 #[.slice a m c, .func (.func 79) #[] #[]] w fun r w' => r = .returned (.bool (!zerosB g 0 m)) ∧ w' = w := by
  have HC : Hid (Calls Tryd.prog 81 #[.slice a m c, .func (.func 79) #[] #[]] w fun r w' => (∃ x : Int, r = .returned (.int .i64 x) ∧ (decide (0 ≤ x) = !zerosB g 0 m)) ∧ w' = w) := indexFunc_ok a b o m c g w hat hcell hm hc
  clear hat hcell
  go_enter Tryd.func78, Tryd.ntmps78
  go_wp2_with fail
  refine Calls.mono HC.out ?_
  rintro r w2 ⟨⟨x, rfl, hx⟩, rfl⟩
  clear HC
  have HX : Hid _ := hx
  clear hx
  go_wp2
  go_ret
  exact ⟨by rw [← HX.out]; rfl, rfl⟩
theorem zeros_shift (f : Nat → Int) (s n : Nat) : zerosB (fun i => f (s + i)) 0 n = zerosB f s n := by
  unfold zerosB
  simp only [Nat.zero_add]
/-- What next tells: the string's bytes, still those that were handed in; or what is wrong. -/
def NextPost (I : Inp) (p : Nat) (w : World) (r : Ending) (w' : World) : Prop :=
  Gr I w w' ∧ match nextF I.f I.L p with
    | .error e => ∃ ev, r = .returned (.tuple #[.slice none 0 0, ev]) ∧ ErrAt w' ev e
    | .ok (s, n, q) => ∃ o c, r = .returned (.tuple #[.slice (some ⟨I.b, o, none⟩) n c, .nilIface]) ∧ (0 < n → o = I.off + s) ∧ n ≤ c ∧ c ≤ 9223372036854775807 ∧ s + n ≤ I.L ∧ Rdr w' I q
theorem nextF_11 {f : Nat → Int} {L p : Nat} (h : L < p + 8) : nextF f L p = .error 11 := by unfold nextF; rw [if_pos h]
theorem nextF_10 {f : Nat → Int} {L p v : Nat} (h : ¬ L < p + 8) (hv : Num.num (fun i => f (p + i)) 8 = v) (h2 : L < v) : nextF f L p = .error 10 := by unfold nextF; rw [if_neg h, hv, if_pos (by omega)]
theorem nextF_11' {f : Nat → Int} {L p v : Nat} (h : ¬ L < p + 8) (hv : Num.num (fun i => f (p + i)) 8 = v) (h2 : ¬ L < v) (h3 : L < p + 8 + (v + fillN v)) : nextF f L p = .error 11 := by unfold nextF; rw [if_neg h, hv, if_neg (by omega), Int.toNat_natCast, if_pos h3]
theorem nextF_ok {f : Nat → Int} {L p v : Nat} (h : ¬ L < p + 8) (hv : Num.num (fun i => f (p + i)) 8 = v) (h2 : ¬ L < v) (h3 : ¬ L < p + 8 + (v + fillN v)) (h4 : zerosB f (p + 8 + v) (fillN v) = true) : nextF f L p = .ok (p + 8, v, p + 8 + (v + fillN v)) := by unfold nextF; rw [if_neg h, hv, if_neg (by omega), Int.toNat_natCast, if_neg h3, if_pos h4]
theorem nextF_10' {f : Nat → Int} {L p v : Nat} (h : ¬ L < p + 8) (hv : Num.num (fun i => f (p + i)) 8 = v) (h2 : ¬ L < v) (h3 : ¬ L < p + 8 + (v + fillN v)) (h4 : zerosB f (p + 8 + v) (fillN v) = false) : nextF f L p = .error 10 := by unfold nextF; rw [if_neg h, hv, if_neg (by omega), Int.toNat_natCast, if_neg h3, if_neg (by rw [h4]; decide)]
set_option maxRecDepth 20000 in
set_option maxHeartbeats 4000000 in
theorem next_ok (I : Inp) (p : Nat) (w : World) (h : Rdr w I p) : Calls Tryd.prog 70 #[.pointer (some ⟨I.gR, 0, none⟩)] w fun r w' => NextPost I p w r w' := by
  have hsm := h.small
  have hle := h.le
  by_cases h8 : I.L < p + 8
  · have HP : Hid (∀ r w', Gr I w w' → (∃ ev, r = .returned (.tuple #[.slice none 0 0, ev]) ∧ ErrAt w' ev 11) → NextPost I p w r w') := fun r w' g he => ⟨g, by rw [nextF_11 h8]; exact he⟩
    have HT : Hid (Calls Tryd.prog 77 #[.pointer (some ⟨I.gR, 0, none⟩), .int .i64 8] w fun r w' => ∃ ev, r = .returned (.tuple #[.slice none 0 0, ev]) ∧ ErrAt w' ev 11 ∧ Below w.heap.size w w') := take_no I p 8 w h (by omega) (by omega)
    clear h
    obtain ⟨NP, hNP⟩ : ∃ NP, NP = NextPost I p w := ⟨_, rfl⟩
    rw [← hNP] at HP ⊢
    clear hNP
    go_enter Tryd.func70, Tryd.ntmps70
    go_wp2_with fail
    refine Calls.mono HT.out ?_
    rintro r w1 ⟨ev, rfl, he, hb⟩
    have HE : Hid (ErrAt w1 ev 11) := he
    have HG : Hid (Gr I w w1) := Gr.of hb
    obtain ⟨g, q, rfl, _⟩ := he
    clear hb HT
    go_wp2
    exact HP.out _ _ HG.out ⟨_, rfl, HE.out⟩
  · have hpos : 0 < I.L := by omega
    have hat := h.at' hpos
    have hb := Num.num_bd (fun i => I.f (p + i)) (fun i => h.bd (p + i)) 8
    obtain ⟨v, hv⟩ : ∃ v : Nat, Num.num (fun i => I.f (p + i)) 8 = v := ⟨_, (Int.toNat_of_nonneg hb.1).symm⟩
    have hv64 : v < 18446744073709551616 := by
      have h2 := hb.2
      rw [hv] at h2
      have e : (256 : Int) ^ 8 = 18446744073709551616 := by decide
      omega
    have HT : Hid (Calls Tryd.prog 77 #[.pointer (some ⟨I.gR, 0, none⟩), .int .i64 8] w fun r w' => ∃ o, r = .returned (.tuple #[.slice (some ⟨I.b, o, none⟩) 8 (I.c - p), .nilIface]) ∧ (0 < 8 → o = I.off + p) ∧ Rdr w' I (p + 8) ∧ Gr I w w') := take_yes I p 8 w h (by omega) hpos
    have HN : Hid (∀ wx, Rdr wx I (p + 8) → Calls Tryd.prog 67 #[.slice (some ⟨I.b, I.off + p, none⟩) 8 (I.c - p)] wx fun e w' => e = .returned (.tuple #[.int .u64 v, .int .i64 0]) ∧ w' = wx) := fun wx hx => by
      have := S2.number_any I.b (I.off + p) 8 (I.c - p) (fun i => I.f (p + i)) wx (by omega) (by omega) (fun i hi => by rw [Nat.add_assoc]; exact hx.cell (p + i) (by omega)) (fun i => hx.bd (p + i))
      rw [hv] at this
      exact this
    have HBD : Hid _ := h.bd
    have HV : Hid (Num.num (fun i => I.f (p + i)) 8 = v) := hv
    clear hv hb h
    have hL1 : IntKind.u64.wrap (I.L : Int) = I.L := by rw [IntKind.wrap_u64]; omega
    by_cases hvl : I.L < v
    · have HP : Hid (∀ r w', Gr I w w' → (∃ ev, r = .returned (.tuple #[.slice none 0 0, ev]) ∧ ErrAt w' ev 10) → NextPost I p w r w') := fun r w' g he => ⟨g, by rw [nextF_10 h8 HV.out hvl]; exact he⟩
      obtain ⟨NP, hNP⟩ : ∃ NP, NP = NextPost I p w := ⟨_, rfl⟩
      rw [← hNP] at HP ⊢
      clear hNP
      have hvl' : (I.L : Int) < (v : Int) := by omega
      go_enter Tryd.func70, Tryd.ntmps70
      go_wp2_with fail
      refine Calls.mono HT.out ?_
      rintro r w1 ⟨o, rfl, ho, hr1, hg1⟩
      obtain rfl := ho (by omega)
      have HN1 := HN.out w1 hr1
      have HW : Hid (Calls Tryd.prog 44 #[.pointer (some ⟨I.gR, 0, none⟩), .int .i64 10] w1 fun r w' => ∃ ev, r = .returned ev ∧ ErrAt w' ev 10 ∧ Below w1.heap.size w1 w') := wrong_ok I (p + 8) w1 hr1 10
      have c0 := (hr1.row.cell 0).trans (rfl : _ = some (Value.slice I.a I.L I.c))
      have HG : Hid (Gr I w w1) := hg1
      clear hr1 hg1 HT HN
      go_wp2_with fail
      refine Calls.mono HN1 ?_
      rintro r w2 ⟨rfl, rfl⟩
      clear HN1
      go_wp2_with fail
      refine Calls.mono HW.out ?_
      rintro r w3 ⟨ev, rfl, he, hb3⟩
      have HE : Hid (ErrAt w3 ev 10) := he
      have HG3 : Hid (Gr I w w3) := HG.out.trans (Gr.of hb3)
      clear he hb3 HW c0
      go_wp2
      exact HP.out _ _ HG3.out ⟨_, rfl, HE.out⟩
    · have hvl' : ¬ (I.L : Int) < (v : Int) := by omega
      have hvi : IntKind.i64.wrap (v : Int) = v := by rw [IntKind.wrap_i64]; omega
      have hfl := fillN_lt v
      obtain ⟨fl, hfe⟩ : ∃ fl, fl = fillN v := ⟨_, rfl⟩
      have HFO : Hid (∀ wx, Calls Tryd.prog 33 #[.int .i64 v] wx fun e w' => e = .returned (.int .i64 (fl : Nat)) ∧ w' = wx) := fun wx => by rw [hfe]; exact fillOf_ok v wx (by omega)
      obtain ⟨t, ht⟩ : ∃ t, t = v + fl := ⟨_, rfl⟩
      have hvt : IntKind.i64.wrap ((v : Int) + (fl : Int)) = (t : Int) := by rw [IntKind.wrap_i64]; omega
      rw [← hfe] at hfl
      have HFE : Hid (fl = fillN v) := hfe
      have HTE : Hid (t = v + fl) := ht
      have t1 : v ≤ t := by omega
      have t2 : t - v = fl := by omega
      have t3 : t ≤ 2097152 := by omega
      clear hfe ht
      by_cases hto : I.L < p + 8 + t
      · have HP : Hid (∀ r w', Gr I w w' → (∃ ev, r = .returned (.tuple #[.slice none 0 0, ev]) ∧ ErrAt w' ev 11) → NextPost I p w r w') := fun r w' g he => ⟨g, by rw [nextF_11' h8 HV.out hvl (by rw [← HFE.out, ← HTE.out]; exact hto)]; exact he⟩
        obtain ⟨NP, hNP⟩ : ∃ NP, NP = NextPost I p w := ⟨_, rfl⟩
        rw [← hNP] at HP ⊢
        clear hNP
        go_enter Tryd.func70, Tryd.ntmps70
        go_wp2_with fail
        refine Calls.mono HT.out ?_
        rintro r w1 ⟨o, rfl, ho, hr1, hg1⟩
        obtain rfl := ho (by omega)
        have HN1 := HN.out w1 hr1
        have HTK : Hid (Calls Tryd.prog 77 #[.pointer (some ⟨I.gR, 0, none⟩), .int .i64 t] w1 fun r w' => ∃ ev, r = .returned (.tuple #[.slice none 0 0, ev]) ∧ ErrAt w' ev 11 ∧ Below w1.heap.size w1 w') := take_no I (p + 8) t w1 hr1 (by omega) (by omega)
        have c0 := (hr1.row.cell 0).trans (rfl : _ = some (Value.slice I.a I.L I.c))
        have HG : Hid (Gr I w w1) := hg1
        clear hr1 hg1 HT HN
        go_wp2_with fail
        refine Calls.mono HN1 ?_
        rintro r w2 ⟨rfl, rfl⟩
        clear HN1
        go_wp2_with fail
        refine Calls.mono (HFO.out _) ?_
        rintro r w3 ⟨rfl, rfl⟩
        go_wp2_with fail
        refine Calls.mono HTK.out ?_
        rintro r w4 ⟨ev, rfl, he, hb3⟩
        have HE : Hid (ErrAt w4 ev 11) := he
        have HG3 : Hid (Gr I w w4) := HG.out.trans (Gr.of hb3)
        obtain ⟨g, q, rfl, _⟩ := he
        clear hb3 HTK c0
        go_wp2
        exact HP.out _ _ HG3.out ⟨_, rfl, HE.out⟩
      · have HPO : Hid (∀ r w', Gr I w w' → (match zerosB I.f (p + 8 + v) fl with | true => ∃ o c, r = .returned (.tuple #[.slice (some ⟨I.b, o, none⟩) v c, .nilIface]) ∧ (0 < v → o = I.off + (p + 8)) ∧ v ≤ c ∧ c ≤ 9223372036854775807 ∧ p + 8 + v ≤ I.L ∧ Rdr w' I (p + 8 + t) | false => ∃ ev, r = .returned (.tuple #[.slice none 0 0, ev]) ∧ ErrAt w' ev 10) → NextPost I p w r w') := fun r w' g he => by
          refine ⟨g, ?_⟩
          cases hz : zerosB I.f (p + 8 + v) fl with
          | true =>
            rw [hz] at he
            rw [nextF_ok h8 HV.out hvl (by rw [← HFE.out, ← HTE.out]; exact hto) (by rw [← HFE.out]; exact hz), ← HFE.out, ← HTE.out]
            exact he
          | false =>
            rw [hz] at he
            rw [nextF_10' h8 HV.out hvl (by rw [← HFE.out, ← HTE.out]; exact hto) (by rw [← HFE.out]; exact hz)]
            exact he
        obtain ⟨NP, hNP⟩ : ∃ NP, NP = NextPost I p w := ⟨_, rfl⟩
        rw [← hNP] at HPO ⊢
        clear hNP
        go_enter Tryd.func70, Tryd.ntmps70
        go_wp2_with fail
        refine Calls.mono HT.out ?_
        rintro r w1 ⟨o, rfl, ho, hr1, hg1⟩
        obtain rfl := ho (by omega)
        have HN1 := HN.out w1 hr1
        have hcap := hr1.cap
        have hcm := hr1.cm
        have HTK : Hid (Calls Tryd.prog 77 #[.pointer (some ⟨I.gR, 0, none⟩), .int .i64 t] w1 fun r w' => ∃ o, r = .returned (.tuple #[.slice (some ⟨I.b, o, none⟩) t (I.c - (p + 8)), .nilIface]) ∧ (0 < t → o = I.off + (p + 8)) ∧ Rdr w' I (p + 8 + t) ∧ Gr I w1 w') := take_yes I (p + 8) t w1 hr1 (by omega) hpos
        have c0 := (hr1.row.cell 0).trans (rfl : _ = some (Value.slice I.a I.L I.c))
        have HG : Hid (Gr I w w1) := hg1
        clear hr1 hg1 HT HN
        go_wp2_with fail
        refine Calls.mono HN1 ?_
        rintro r w2 ⟨rfl, rfl⟩
        clear HN1
        go_wp2_with fail
        refine Calls.mono (HFO.out _) ?_
        rintro r w3 ⟨rfl, rfl⟩
        go_wp2_with fail
        refine Calls.mono HTK.out ?_
        rintro r w4 ⟨o2, rfl, ho2, hr4, hg4⟩
        obtain ⟨c2, hc2⟩ : ∃ c2, c2 = I.c - (p + 8) := ⟨_, rfl⟩
        have k1 : t ≤ c2 := by omega
        have k2 : c2 ≤ 9223372036854775807 := by omega
        rw [← hc2]
        clear hc2
        obtain ⟨o3, hob3, ho3⟩ : ∃ o3, (if c2 = v then some (⟨I.b, o2, none⟩ : Addr) else some ⟨I.b, o2 + v, none⟩) = some ⟨I.b, o3, none⟩ ∧ (0 < fl → o3 = I.off + (p + 8 + v)) := by
          by_cases hc : c2 = v
          · exact ⟨o2, if_pos hc, fun h => by omega⟩
          · exact ⟨o2 + v, if_neg hc, fun h => by have := ho2 (by omega); omega⟩
        have HCF : Hid (Calls Tryd.prog 78 #[.slice (some ⟨I.b, o3, none⟩) fl (c2 - v), .func (.func 79) #[] #[]] w4 fun r w' => r = .returned (.bool (!zerosB (fun i => I.f (p + 8 + v + i)) 0 fl)) ∧ w' = w4) := contains_ok _ I.b o3 fl (c2 - v) (fun i => I.f (p + 8 + v + i)) w4 (fun _ => rfl) (fun i hi => by rw [ho3 (by omega), Nat.add_assoc]; exact hr4.cell _ (by have := HTE.out; omega)) (by have := HTE.out; omega) (by omega)
        rw [zeros_shift] at HCF
        have HW : Hid (Calls Tryd.prog 44 #[.pointer (some ⟨I.gR, 0, none⟩), .int .i64 10] w4 fun r w' => ∃ ev, r = .returned ev ∧ ErrAt w' ev 10 ∧ Below w4.heap.size w4 w') := wrong_ok I (p + 8 + t) w4 hr4 10
        have HG4 : Hid (Gr I w w4) := HG.out.trans hg4
        have HR4 : Hid (Rdr w4 I (p + 8 + t)) := hr4
        have HO2 : Hid (0 < v → o2 = I.off + (p + 8)) := fun h => ho2 (by omega)
        have hv2 : (0 : Int) ≤ (v : Int) ∧ (v : Int) ≤ (c2 : Int) := by omega
        have hv3 : (0 : Int) ≤ (v : Int) ∧ (v : Int) ≤ (t : Int) := by omega
        clear hr4 hg4 HTK c0 HG ho2 ho3
        go_wp2_with fail
        refine Calls.mono HCF.out ?_
        rintro r w5 ⟨rfl, rfl⟩
        clear HCF
        cases hz : zerosB I.f (p + 8 + v) fl with
        | true =>
          rw [hz] at HPO
          clear hz
          go_wp2
          exact HPO.out _ _ HG4.out ⟨o2, c2, rfl, HO2.out, by omega, k2, by have := HTE.out; omega, HR4.out⟩
        | false =>
          rw [hz] at HPO
          clear hz
          go_wp2_with fail
          refine Calls.mono HW.out ?_
          rintro r w6 ⟨ev, rfl, he, hb6⟩
          have HE : Hid (ErrAt w6 ev 10) := he
          have HG6 : Hid (Gr I w w6) := HG4.out.trans (Gr.of hb6)
          clear he hb6 HW
          go_wp2
          exact HPO.out _ _ HG6.out ⟨_, rfl, HE.out⟩
end Go.Proofs.YtimiginpdkokiaaDoor
