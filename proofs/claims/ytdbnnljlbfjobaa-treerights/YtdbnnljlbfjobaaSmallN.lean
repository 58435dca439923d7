/- The walk of small: how many nodes, as long as they are few. -/
import Derived.Test.YtdbnnljlbfjobaaNd
namespace Go.Proofs.Ytdbnnljlbfjobaa
open Go.RowKit

mutual
def smallN : Nd → Nat → Nat | .mk _ _ _ _ ks, d => if 40 < d then 5000 else smallL ks (d + 1) 1
def smallL : List Nd → Nat → Nat → Nat | [], _, s => s | k :: ks, d, s => if s < 5000 then smallL ks d (s + smallN k d) else s
end
mutual
theorem smallN_bd : ∀ (n : Nd) (d : Nat), smallN n d ≤ 5000 + 5000 * (41 - d)
  | .mk _ _ _ _ ks, d => by
    unfold smallN
    split
    · omega
    · have := smallL_bd ks (d + 1) 1 (by omega)
      omega
theorem smallL_bd : ∀ (ks : List Nd) (d s : Nat), s ≤ 9999 + 5000 * (41 - d) → smallL ks d s ≤ 9999 + 5000 * (41 - d)
  | [], d, s, h => by unfold smallL; exact h
  | k :: ks, d, s, h => by
    unfold smallL
    split
    · have := smallN_bd k d
      exact smallL_bd ks d _ (by omega)
    · exact h
end
mutual
/-- Where it is below the bound it is the nodes' number, and they do not lie too deep. -/
theorem smallN_count : ∀ (n : Nd) (d : Nat), smallN n d < 5000 → smallN n d = n.count ∧ n.height + d ≤ 41
  | .mk _ _ _ _ ks, d => by
    intro h
    unfold smallN at h ⊢
    split at h
    · omega
    · rename_i hd
      rw [if_neg hd]
      have := smallL_count ks (d + 1) 1 h
      simp only [Nd.count, Nd.height]
      refine ⟨this.1, ?_⟩
      rcases this.2 with e | e
      · subst e
        simp only [Nd.heightL]
        omega
      · omega
theorem smallL_count : ∀ (ks : List Nd) (d s : Nat), smallL ks d s < 5000 → smallL ks d s = s + Nd.countL ks ∧ (ks = [] ∨ Nd.heightL ks + d ≤ 41)
  | [], d, s, _ => by simp [smallL, Nd.countL]
  | k :: ks, d, s, h => by
    unfold smallL at h ⊢
    split at h
    · rename_i hs
      rw [if_pos hs]
      have h1 := smallL_count ks d _ h
      have h2 := smallN_count k d (by omega)
      simp only [Nd.countL, Nd.heightL]
      refine ⟨by omega, .inr ?_⟩
      rcases h1.2 with e | e
      · subst e
        simp only [Nd.heightL]
        omega
      · omega
    · omega
end
theorem smallL_next (ks : List Nd) (d s i : Nat) (hi : i < ks.length) (hs : s < 5000) : smallL (ks.drop i) d s = smallL (ks.drop (i + 1)) d (s + smallN ks[i] d) := by
  rw [List.drop_eq_getElem_cons hi]
  conv => lhs; unfold smallL
  rw [if_pos hs]
theorem smallL_end (ks : List Nd) (d s i : Nat) (h : ¬ i < ks.length ∨ ¬ s < 5000) : smallL (ks.drop i) d s = s := by
  rcases h with h | h
  · rw [List.drop_eq_nil_of_le (by omega)]
    unfold smallL
    rfl
  · cases ks.drop i with
    | nil => unfold smallL; rfl
    | cons k r => unfold smallL; rw [if_neg h]

set_option maxRecDepth 20000 in
set_option maxHeartbeats 2000000 in
theorem small_step (N : Nat) (IH : ∀ n : Nd, n.count ≤ N → ∀ (d : Nat) (w : World) (C : Array Value), d ≤ 41 → NodeAt w n C → Calls Try.prog 4 #[.agg C, .int .i64 d] w fun e w' => e = .returned (.int .i64 (smallN n d)) ∧ Below w.heap.size w w')
    (n : Nd) (hN : n.count ≤ N + 1) (d : Nat) (w : World) (C : Array Value) (hd : d ≤ 41) (h : NodeAt w n C) : Calls Try.prog 4 #[.agg C, .int .i64 d] w fun e w' => e = .returned (.int .i64 (smallN n d)) ∧ Below w.heap.size w w' := by
  cases h with
  | @mk k e dt ns ks da dc na nc ka kb koff kc Cs hk hdt hn hks each =>
  have hb0 : Below w.heap.size w (w.alloc (.cells (nodeV k e da dt.size dc na ns.length nc ka ks.length kc) 26)) := (Below.refl _ _).alloc (Nat.le_refl _) _
  have hR := Row.new w (nodeV k e da dt.size dc na ns.length nc ka ks.length kc) 26
  have HK : Hid (∀ w', Below w.heap.size w w' → KidsAt w' ka kb koff ks.length kc Cs) := fun w' hb => hks.keep hb
  have HE : Hid (∀ w', Below w.heap.size w w' → ∀ i (h : i < ks.length), NodeAt w' ks[i] (Cs i)) := fun w' hb i h => (each i h).keep hb
  have hcap := hks.cap
  have hle := hks.le
  have hnil := hks.nil
  have hat := hks.at'
  unfold maxLen at hcap
  have hsm : smallN (.mk k e dt ns ks) d = if 40 < d then 5000 else smallL ks (d + 1) 1 := by unfold smallN; rfl
  rw [hsm]
  have HN : Hid _ := hN
  clear hks each hdt hn hsm hN
  by_cases h40 : 40 < d
  · rw [if_pos h40]
    clear hnil hat IH
    have h40' : (40 : Int) < (d : Int) := by omega
    go_enter Try.func4, Try.ntmps4
    go_wp2
    go_ret
    exact ⟨rfl, hb0⟩
  · rw [if_neg h40]
    have h40' : ¬ (40 : Int) < (d : Int) := by omega
    have HIH : Hid _ := IH
    clear IH
    have hb0' := hb0
    have HR : Hid _ := hR
    clear hR
    go_enter Try.func4, Try.ntmps4
    go_wp2
    generalize hwB : w.alloc (.cells (nodeV k e da dt.size dc na ns.length nc ka ks.length kc) 26) = wB at *
    go_loopw [5, 6] (fun sv iv wx => ∃ (s i : Nat), sv = .int .i64 s ∧ iv = .int .i64 i ∧ i ≤ ks.length ∧ s ≤ 220000 ∧ smallL (ks.drop i) (d + 1) s = smallL ks (d + 1) 1 ∧ Hid (Below wB.heap.size wB wx)) (fun _ iv _ => ks.length - (intOf iv).toNat)
    case atStart => exact ⟨1, 0, rfl, rfl, Nat.zero_le _, by omega, rfl, Below.refl _ _⟩
    case round =>
      obtain ⟨s, i, rfl, rfl, hi, hs, hsl, hB⟩ := hrel
      have c4 := ((Row.below HR.out hB.out (Row.lt HR.out)).cell 4).trans (rfl : _ = some (Value.slice ka ks.length kc))
      have hsz : w.heap.size ≤ wB.heap.size := hb0.size
      have hBw : Hid (Below w.heap.size w wr) := hb0.trans (hB.out.mono hsz)
      by_cases hlt : i < ks.length
      · have hlt' : (i : Int) < (ks.length : Int) := by omega
        by_cases h5 : s < 5000
        · have h5' : (s : Int) < 5000 := by omega
          obtain rfl := hat (by omega)
          have HRG : Hid _ := (HK.out wr hBw.out).range i hlt
          have hsi : (Try.prog.info? 26).map (·.size) = some (Cs i).toList.length := by rw [infoN, Array.length_toList, (HK.out wr hBw.out).size i hlt]
          have HC : Hid _ := HIH.out ks[i] (Nd.kid_lt HN.out i hlt) (d + 1) wr (Cs i) (by omega) (HE.out wr hBw.out i hlt)
          have hbd := smallN_bd ks[i] (d + 1)
          have hnx := smallL_next ks (d + 1) s i hlt h5
          rw [hsl] at hnx
          obtain ⟨t, ht⟩ : ∃ t, t = smallN ks[i] (d + 1) := ⟨_, rfl⟩
          rw [← ht] at hbd HC hnx
          have e1 : ((d + 1 : Nat) : Int) = (d : Int) + 1 := by omega
          rw [e1] at HC
          clear ht hsl
          go_wp2_with (refine wpList_load_mid rfl 26 _ rfl kb (koff + i * 5) rfl (Cs i).toList _ HRG.out Try.underlying26 rfl hsi ?_; simp only [Array.toArray_toList])
          refine Calls.mono HC.out ?_
          rintro e w2 ⟨rfl, hb2⟩
          have hB2 : Hid (Below wB.heap.size wB w2) := hB.out.trans (hb2.mono hB.out.size)
          clear HC HRG c4
          go_wp2
          go_roundw
          case rel => exact ⟨s + t, i + 1, by go_num, by go_num, by omega, by omega, hnx.symm, hB2⟩
          case measure => simp [intOf]; omega
        · have h5' : ¬ (s : Int) < 5000 := by omega
          have hen := smallL_end ks (d + 1) s i (.inr h5)
          rw [hsl] at hen
          rw [hen]
          clear hsl
          go_wp2
          go_ret
          exact ⟨rfl, hBw.out⟩
      · have hlt' : ¬ (i : Int) < (ks.length : Int) := by omega
        have hen := smallL_end ks (d + 1) s i (.inl hlt)
        rw [hsl] at hen
        rw [hen]
        clear hsl
        go_wp2
        go_ret
        exact ⟨rfl, hBw.out⟩
theorem small_ok (n : Nd) (d : Nat) (w : World) (C : Array Value) (hd : d ≤ 41) (h : NodeAt w n C) : Calls Try.prog 4 #[.agg C, .int .i64 d] w fun e w' => e = .returned (.int .i64 (smallN n d)) ∧ Below w.heap.size w w' := by
  have key : ∀ N : Nat, ∀ n : Nd, n.count ≤ N → ∀ (d : Nat) (w : World) (C : Array Value), d ≤ 41 → NodeAt w n C → Calls Try.prog 4 #[.agg C, .int .i64 d] w fun e w' => e = .returned (.int .i64 (smallN n d)) ∧ Below w.heap.size w w' := by
    intro N
    induction N with
    | zero => intro n hn; have := n.count_pos; omega
    | succ N ih => exact small_step N ih
  exact key n.count n (Nat.le_refl _) d w C hd h
end Go.Proofs.Ytdbnnljlbfjobaa
