/- My own work: the walks of room and large. -/
import Derived.Test.YtimiginpdkokiaaDoorNd
namespace Go.Proofs.YtimiginpdkokiaaDoor
open Go.RowKit

mutual
/-- How much more may be looked at behind a node; none: it is too much, or too deep. -/
def roomN : Nd → Nat → Nat → Option Nat | .mk _ _ dt ns ks, d, l => if l < 1 + dt.size / 100 + ns.length / 4 ∨ 40 < d then none else roomL ks (d + 1) (l - (1 + dt.size / 100 + ns.length / 4))
def roomL : List Nd → Nat → Nat → Option Nat | [], _, l => some l | k :: ks, d, l => match roomN k d l with | none => none | some r => roomL ks d r
end
def roomV : Option Nat → Int | none => -1 | some r => r
mutual
theorem roomN_count : ∀ (n : Nd) (d l r : Nat), roomN n d l = some r → n.count + r ≤ l
  | .mk _ _ dt ns ks, d, l, r, h => by
    unfold roomN at h
    split at h
    · cases h
    · have := roomL_count ks _ _ _ h
      simp only [Nd.count]
      omega
theorem roomL_count : ∀ (ks : List Nd) (d l r : Nat), roomL ks d l = some r → Nd.countL ks + r ≤ l
  | [], d, l, r, h => by
    unfold roomL at h
    simp only [Option.some.injEq] at h
    simp only [Nd.countL]
    omega
  | k :: ks, d, l, r, h => by
    unfold roomL at h
    split at h
    · cases h
    · rename_i r' hr
      have h1 := roomN_count k d l r' hr
      have h2 := roomL_count ks d r' r h
      simp only [Nd.countL]
      omega
end
theorem roomL_next (ks : List Nd) (d l i : Nat) (hi : i < ks.length) : roomL (ks.drop i) d l = match roomN ks[i] d l with | none => none | some r => roomL (ks.drop (i + 1)) d r := by
  rw [List.drop_eq_getElem_cons hi]
  conv => lhs; unfold roomL
theorem roomL_end (ks : List Nd) (d l i : Nat) (hi : ¬ i < ks.length) : roomL (ks.drop i) d l = some l := by
  rw [List.drop_eq_nil_of_le (by omega)]
  unfold roomL
  rfl
set_option maxRecDepth 20000 in
set_option maxHeartbeats 2000000 in
theorem room_step (N : Nat) (IH : ∀ n : Nd, n.count ≤ N → ∀ (d l : Nat) (w : World) (C : Array Value), d ≤ 41 → l ≤ 3000 → NodeAt w n C → Calls Tryd.prog 16 #[.agg C, .int .i64 d, .int .i64 l] w fun e w' => e = .returned (.int .i64 (roomV (roomN n d l))) ∧ Below w.heap.size w w')
    (n : Nd) (hN : n.count ≤ N + 1) (d l : Nat) (w : World) (C : Array Value) (hd : d ≤ 41) (hl : l ≤ 3000) (h : NodeAt w n C) : Calls Tryd.prog 16 #[.agg C, .int .i64 d, .int .i64 l] w fun e w' => e = .returned (.int .i64 (roomV (roomN n d l))) ∧ Below w.heap.size w w' := by
  cases h with
  | @mk k e dt ns ks da dc na nc ka kb koff kc Cs hk hdt hn hks each =>
  have hb0 : Below w.heap.size w (w.alloc (.cells (nodeV k e da dt.size dc na ns.length nc ka ks.length kc) 26)) := (Below.refl _ _).alloc (Nat.le_refl _) _
  have hR := Row.new w (nodeV k e da dt.size dc na ns.length nc ka ks.length kc) 26
  have HK : Hid (∀ w', Below w.heap.size w w' → KidsAt w' ka kb koff ks.length kc Cs) := fun w' hb => hks.keep hb
  have HE : Hid (∀ w', Below w.heap.size w w' → ∀ i (h : i < ks.length), NodeAt w' ks[i] (Cs i)) := fun w' hb i h => (each i h).keep hb
  have hcap := hks.cap
  have hle := hks.le
  have hat := hks.at'
  have hdl := hdt.len
  have hnl := hn.len
  unfold maxLen at hcap
  unfold big at hdl hnl
  have hsm : roomN (.mk k e dt ns ks) d l = if l < 1 + dt.size / 100 + ns.length / 4 ∨ 40 < d then none else roomL ks (d + 1) (l - (1 + dt.size / 100 + ns.length / 4)) := by unfold roomN; rfl
  rw [hsm]
  have HN : Hid _ := hN
  have e1 : (dt.size : Int).tdiv 100 = ((dt.size / 100 : Nat) : Int) := by rw [Int.tdiv_eq_ediv_of_nonneg (by omega)]; omega
  have e2 : (ns.length : Int).tdiv 4 = ((ns.length / 4 : Nat) : Int) := by rw [Int.tdiv_eq_ediv_of_nonneg (by omega)]; omega
  obtain ⟨q1, hq1⟩ : ∃ q, q = dt.size / 100 := ⟨_, rfl⟩
  obtain ⟨q2, hq2⟩ : ∃ q, q = ns.length / 4 := ⟨_, rfl⟩
  rw [← hq1] at e1 ⊢
  rw [← hq2] at e2 ⊢
  have hq1' : q1 ≤ 140737488355328 := by omega
  have hq2' : q2 ≤ 140737488355328 := by omega
  have c2 := (hR.cell 2).trans (rfl : _ = some (Value.slice da dt.size dc))
  have c3 := (hR.cell 3).trans (rfl : _ = some (Value.slice na ns.length nc))
  clear hks each hdt hn hsm hN hq1 hq2 hdl hnl
  by_cases h1 : l < 1 + q1 + q2 ∨ 40 < d
  · rw [if_pos h1]
    clear hat IH
    by_cases h2 : l < 1 + q1 + q2
    · have h2' : (l : Int) - 1 - (q1 : Int) - (q2 : Int) < 0 := by omega
      go_enter Tryd.func16, Tryd.ntmps16
      go_wp2
      go_ret
      exact ⟨rfl, hb0⟩
    · have h2' : ¬ (l : Int) - 1 - (q1 : Int) - (q2 : Int) < 0 := by omega
      have h40' : (40 : Int) < (d : Int) := by omega
      go_enter Tryd.func16, Tryd.ntmps16
      go_wp2
      go_ret
      exact ⟨rfl, hb0⟩
  · rw [if_neg h1]
    have h2' : ¬ (l : Int) - 1 - (q1 : Int) - (q2 : Int) < 0 := by omega
    have h40' : ¬ (40 : Int) < (d : Int) := by omega
    have HIH : Hid _ := IH
    clear IH
    have HR : Hid _ := hR
    have HB0 : Hid (Below w.heap.size w (w.alloc (.cells (nodeV k e da dt.size dc na ns.length nc ka ks.length kc) 26))) := hb0
    clear hR hb0
    obtain ⟨l1, hl1⟩ : ∃ l1, l1 = l - (1 + q1 + q2) := ⟨_, rfl⟩
    have hl1' : (l : Int) - 1 - (q1 : Int) - (q2 : Int) = (l1 : Int) := by omega
    have hl3 : l1 ≤ 3000 := by omega
    rw [← hl1]
    clear hl1
    go_enter Tryd.func16, Tryd.ntmps16
    go_wp2
    generalize hwB : w.alloc (.cells (nodeV k e da dt.size dc na ns.length nc ka ks.length kc) 26) = wB at *
    clear c2 c3
    go_loopw [2, 7] (fun lv iv wx => ∃ (s i : Nat), lv = .int .i64 s ∧ iv = .int .i64 i ∧ i ≤ ks.length ∧ s ≤ 3000 ∧ roomL (ks.drop i) (d + 1) s = roomL ks (d + 1) l1 ∧ Hid (Below wB.heap.size wB wx)) (fun _ iv _ => ks.length - (intOf iv).toNat)
    case atStart => exact ⟨l1, 0, by first | rfl | (rw [← hl1']), rfl, Nat.zero_le _, hl3, rfl, Below.refl _ _⟩
    case round =>
      obtain ⟨s, i, rfl, rfl, hi, hs, hsl, hB⟩ := hrel
      have c4 := ((Row.below HR.out hB.out (Row.lt HR.out)).cell 4).trans (rfl : _ = some (Value.slice ka ks.length kc))
      have hsz : w.heap.size ≤ wB.heap.size := HB0.out.size
      have hBw : Hid (Below w.heap.size w wr) := HB0.out.trans (hB.out.mono hsz)
      by_cases hlt : i < ks.length
      · have hlt' : (i : Int) < (ks.length : Int) := by omega
        obtain rfl := hat (by omega)
        have HRG : Hid _ := (HK.out wr hBw.out).range i hlt
        have hsi : (Tryd.prog.info? 26).map (·.size) = some (Cs i).toList.length := by rw [infoN, Array.length_toList, (HK.out wr hBw.out).size i hlt]
        have HC : Hid (Calls Tryd.prog 16 #[.agg (Cs i), .int .i64 ((d : Int) + 1), .int .i64 s] wr fun e w' => e = .returned (.int .i64 (roomV (roomN ks[i] (d + 1) s))) ∧ Below wr.heap.size wr w') := HIH.out ks[i] (Nd.kid_lt HN.out i hlt) (d + 1) s wr (Cs i) (by omega) hs (HE.out wr hBw.out i hlt)
        have hnx := roomL_next ks (d + 1) s i hlt
        rw [hsl] at hnx
        clear hsl
        go_wp2_with (refine wpList_load_mid rfl 26 _ rfl kb (koff + i * 5) rfl (Cs i).toList _ HRG.out Tryd.underlying26 rfl hsi ?_; simp only [Array.toArray_toList])
        refine Calls.mono HC.out ?_
        rintro e w2 ⟨rfl, hb2⟩
        have hB2 : Hid (Below wB.heap.size wB w2) := hB.out.trans (hb2.mono hB.out.size)
        have hBw2 : Hid (Below w.heap.size w w2) := HB0.out.trans (hB2.out.mono hsz)
        clear HC HRG c4
        cases hrm : roomN ks[i] (d + 1) s with
        | none =>
          rw [hrm] at hnx
          have hv : roomV none = -1 := rfl
          have HNX : Hid (roomL ks (d + 1) l1 = none) := hnx
          clear hnx hrm
          go_wp2
          go_ret
          rw [HNX.out]
          exact ⟨rfl, hBw2.out⟩
        | some r =>
          have hrc := roomN_count _ _ _ _ hrm
          rw [hrm] at hnx
          have hv : roomV (some r) = (r : Int) := rfl
          have HNX : Hid (roomL ks (d + 1) l1 = roomL (ks.drop (i + 1)) (d + 1) r) := hnx
          clear hnx hrm
          go_wp2
          go_roundw
          case rel => exact ⟨r, i + 1, rfl, by go_num, by omega, by omega, HNX.out.symm, hB2⟩
          case measure => simp [intOf]; omega
      · have hlt' : ¬ (i : Int) < (ks.length : Int) := by omega
        have hen := roomL_end ks (d + 1) s i hlt
        rw [hsl] at hen
        have HEN : Hid (roomL ks (d + 1) l1 = some s) := hen
        clear hsl hen
        go_wp2
        go_ret
        rw [HEN.out]
        exact ⟨rfl, hBw.out⟩
theorem room_ok (n : Nd) (d l : Nat) (w : World) (C : Array Value) (hd : d ≤ 41) (hl : l ≤ 3000) (h : NodeAt w n C) : Calls Tryd.prog 16 #[.agg C, .int .i64 d, .int .i64 l] w fun e w' => e = .returned (.int .i64 (roomV (roomN n d l))) ∧ Below w.heap.size w w' := by
  have key : ∀ N : Nat, ∀ n : Nd, n.count ≤ N → ∀ (d l : Nat) (w : World) (C : Array Value), d ≤ 41 → l ≤ 3000 → NodeAt w n C → Calls Tryd.prog 16 #[.agg C, .int .i64 d, .int .i64 l] w fun e w' => e = .returned (.int .i64 (roomV (roomN n d l))) ∧ Below w.heap.size w w' := by
    intro N
    induction N with
    | zero => intro n hn; have := n.count_pos; omega
    | succ N ih => exact room_step N ih
  exact key n.count n (Nat.le_refl _) d l w C hd hl h
/-- Is a node too large for the law's own looks? -/
def largeB (n : Nd) : Bool := (roomN n 0 3000).isNone
theorem large_count {n : Nd} (h : largeB n = false) : n.count ≤ 3000 := by
  unfold largeB at h
  cases hr : roomN n 0 3000 with
  | none => rw [hr] at h; cases h
  | some r => have := roomN_count n 0 3000 r hr; omega
set_option maxRecDepth 20000 in
theorem large_ok (n : Nd) (w : World) (C : Array Value) (h : NodeAt w n C) : Calls Tryd.prog 7 #[.agg C, .int .i64 0] w fun e w' => e = .returned (.bool (largeB n)) ∧ Below w.heap.size w w' := by
  have hb0 : Below w.heap.size w (w.alloc (.cells C 26)) := (Below.refl _ _).alloc (Nat.le_refl _) _
  have HR : Hid _ := Row.new w C 26
  have HC : Hid (Calls Tryd.prog 16 #[.agg C, .int .i64 0, .int .i64 3000] (w.alloc (.cells C 26)) fun e w' => e = .returned (.int .i64 (roomV (roomN n 0 3000))) ∧ Below (w.alloc (.cells C 26)).heap.size (w.alloc (.cells C 26)) w') := room_ok n 0 3000 _ C (by omega) (by omega) (h.keep hb0)
  have hsi : (Tryd.prog.info? 26).map (·.size) = some C.size := by rw [infoN, h.size]
  have HB0 : Hid (Below w.heap.size w (w.alloc (.cells C 26))) := hb0
  have HLB : Hid (largeB n = (roomN n 0 3000).isNone) := rfl
  clear h hb0
  go_enter Tryd.func7, Tryd.ntmps7
  go_wp2_with (refine wpList_load_row rfl 26 _ rfl w.heap.size rfl 26 C (0, 0) _ HR.out Tryd.underlying26 rfl hsi ?_)
  generalize hwB : w.alloc (.cells C 26) = wB at *
  refine Calls.mono HC.out ?_
  rintro er w1 ⟨rfl, hbw1⟩
  have HB1 : Hid (Below w.heap.size w w1) := HB0.out.trans (hbw1.mono HB0.out.size)
  clear HC hbw1 HR HB0 hwB
  cases hr : roomN n 0 3000 with
  | none =>
    rw [hr] at HLB
    have hv : roomV none = -1 := rfl
    clear hr
    go_wp2
    go_ret
    rw [HLB.out]
    exact ⟨rfl, HB1.out⟩
  | some r =>
    rw [hr] at HLB
    have hv : roomV (some r) = (r : Int) := rfl
    clear hr
    go_wp2
    go_ret
    rw [HLB.out]
    exact ⟨by simp, HB1.out⟩
theorem names_ok (w : World) : Calls Tryd.prog 12 #[] w fun e w' => e = .returned (.bool true) ∧ w' = w := by
  go_enter Tryd.func12, Tryd.ntmps12
  go_wp2
  go_ret
  exact ⟨rfl, rfl⟩
end Go.Proofs.YtimiginpdkokiaaDoor
