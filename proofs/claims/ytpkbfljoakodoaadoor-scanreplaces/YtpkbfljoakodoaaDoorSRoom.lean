/- My own work: the walks of room and large: how large a node may be that the law looks at. -/
import Derived.Test.YtpkbfljoakodoaaDoorRefRight
namespace Go.Proofs.YtpkbfljoakodoaaDoor
open Go.RowKit

/-- What room tells: below 0, or so much is left that there is room for all nodes. -/
def RoomPost (n : Nd) (l : Int) (w : World) (e : Ending) (w' : World) : Prop :=
  ∃ r : Int, e = .returned (.int .i64 r) ∧ -1 ≤ r ∧ r ≤ l ∧ (0 ≤ r → (n.count : Int) + r ≤ l) ∧ Below w.heap.size w w'
theorem countL_take : ∀ (ks : List Nd) (i : Nat) (h : i < ks.length), Nd.countL (ks.take (i + 1)) = Nd.countL (ks.take i) + ks[i].count
  | k :: ks, 0, _ => by simp [Nd.countL]
  | k :: ks, i + 1, h => by
    simp only [List.take_succ_cons, Nd.countL, List.getElem_cons_succ]
    rw [countL_take ks i (by simpa using h)]
    omega
set_option maxRecDepth 20000 in
set_option maxHeartbeats 4000000 in
theorem room_step (N : Nat) (IH : ∀ n : Nd, n.count ≤ N → ∀ (d : Nat) (l : Int) (w : World) (C : Array Value), d ≤ 41 → 0 ≤ l → l ≤ 3000 → NodeAt w n C → Calls Tryd.prog 21 #[.agg C, .int .i64 d, .int .i64 l] w (RoomPost n l w))
    (n : Nd) (hN : n.count ≤ N + 1) (d : Nat) (l : Int) (w : World) (C : Array Value) (hd : d ≤ 41) (hl0 : 0 ≤ l) (hl1 : l ≤ 3000) (h : NodeAt w n C) : Calls Tryd.prog 21 #[.agg C, .int .i64 d, .int .i64 l] w (RoomPost n l w) := by
  cases h with
  | @mk k e dt ns ks da dc na nc ka kb koff kc Cs hk hdt hn hks each =>
  obtain ⟨C0, hC0⟩ : ∃ C0, C0 = nodeV k e da dt.size dc na ns.length nc ka ks.length kc := ⟨_, rfl⟩
  have hb0 : Below w.heap.size w (w.alloc (.cells C0 26)) := (Below.refl _ _).alloc (Nat.le_refl _) _
  have HR : Hid (Row (w.alloc (.cells C0 26)) w.heap.size C0 26) := Row.new w _ _
  have HCL : Hid (C0[2]? = some (.slice da dt.size dc) ∧ C0[3]? = some (.slice na ns.length nc) ∧ C0[4]? = some (.slice ka ks.length kc)) := by rw [hC0]; exact ⟨rfl, rfl, rfl⟩
  have c2 : (w.alloc (.cells C0 26)).cell? ⟨w.heap.size, 2, none⟩ = some (.slice da dt.size dc) := (Row.cell HR.out 2).trans HCL.out.1
  have c3 : (w.alloc (.cells C0 26)).cell? ⟨w.heap.size, 3, none⟩ = some (.slice na ns.length nc) := (Row.cell HR.out 3).trans HCL.out.2.1
  have HK : Hid (∀ w', Below w.heap.size w w' → KidsAt w' ka kb koff ks.length kc Cs) := fun w' hb => hks.keep hb
  have HE : Hid (∀ w', Below w.heap.size w w' → ∀ i (h : i < ks.length), NodeAt w' ks[i] (Cs i)) := fun w' hb i h => (each i h).keep hb
  have hcap := hks.cap
  have hle := hks.le
  have hat := hks.at'
  have hdl := hdt.len
  have hnl := hn.len
  unfold big at hdl hnl
  unfold maxLen at hcap
  obtain ⟨dl, hdl'⟩ : ∃ x, x = dt.size := ⟨_, rfl⟩
  obtain ⟨nl, hnl'⟩ : ∃ x, x = ns.length := ⟨_, rfl⟩
  obtain ⟨q1, hq1⟩ : ∃ q : Int, q = (dl : Int) / 100 := ⟨_, rfl⟩
  obtain ⟨q2, hq2⟩ : ∃ q : Int, q = (nl : Int) / 4 := ⟨_, rfl⟩
  have hq1b : 0 ≤ q1 ∧ q1 ≤ 140737488351232 := by omega
  have hq2b : 0 ≤ q2 ∧ q2 ≤ 140737488351232 := by omega
  have e1 : (dl : Int) / 100 = q1 := hq1.symm
  have e2 : (nl : Int) / 4 = q2 := hq2.symm
  have e1' : (dl : Int).tdiv 100 = q1 := by rw [Int.tdiv_eq_ediv_of_nonneg (by omega)]; exact e1
  have e2' : (nl : Int).tdiv 4 = q2 := by rw [Int.tdiv_eq_ediv_of_nonneg (by omega)]; exact e2
  have HN : Hid _ := hN
  have HIH : Hid _ := IH
  have HCT : Hid ((Nd.mk k e dt ns ks).count = 1 + Nd.countL ks) := by show _ = _; unfold Nd.count; rfl
  rw [← hC0]
  rw [← hdl'] at c2 hdl
  rw [← hnl'] at c3 hnl
  clear hks each hdt hn hN IH hk hC0 hq1 hq2 hdl' hnl'
  obtain ⟨m, hm⟩ : ∃ m : Int, m = l - 1 - q1 - q2 := ⟨_, rfl⟩
  have em : l - 1 - q1 - q2 = m := hm.symm
  have hmb : m ≤ l - 1 ∧ -300000000000000 ≤ m := by omega
  have HM : Hid _ := hm
  clear hm
  by_cases hm0 : m < 0
  · go_enter Tryd.func21, Tryd.ntmps21
    go_wp2
    go_ret
    exact ⟨-1, rfl, by omega, by omega, fun h => absurd h (by omega), hb0⟩
  · by_cases hd40 : 40 < d
    · have hd' : (40 : Int) < (d : Int) := by omega
      go_enter Tryd.func21, Tryd.ntmps21
      go_wp2
      go_ret
      exact ⟨-1, rfl, by omega, by omega, fun h => absurd h (by omega), hb0⟩
    · have hd' : ¬ (40 : Int) < (d : Int) := by omega
      go_enter Tryd.func21, Tryd.ntmps21
      generalize hwB : w.alloc (.cells C0 26) = wB at *
      go_wp2
      clear em e1 e2 e1' e2' c2 c3
      go_loopw [2, 7] (fun lv iv wx => ∃ (r : Int) (i : Nat), lv = .int .i64 r ∧ iv = .int .i64 i ∧ i ≤ ks.length ∧ 0 ≤ r ∧ r ≤ m ∧ Hid ((Nd.countL (ks.take i) : Int) + r ≤ m) ∧ Hid (Below w.heap.size w wx) ∧ Hid (Below wB.heap.size wB wx)) (fun _ iv _ => ks.length - (intOf iv).toNat)
      case atStart => exact ⟨m, 0, rfl, rfl, Nat.zero_le _, by omega, by omega, by show _ ≤ _; simp [Nd.countL], hb0, Below.refl _ _⟩
      case round =>
        obtain ⟨r, i, rfl, rfl, hi, hr0, hr1, hL, hB, hBB⟩ := hrel
        have c4 := ((Row.below HR.out hBB.out (Row.lt HR.out)).cell 4).trans HCL.out.2.2
        by_cases hlt : i < ks.length
        · have hlt' : (i : Int) < (ks.length : Int) := by omega
          obtain rfl := hat (by omega)
          have HRG : Hid _ := (HK.out wr hB.out).range i hlt
          have hsi2 : (Tryd.prog.info? 26).map (·.size) = some (Cs i).toList.length := by rw [infoN, Array.length_toList, (HK.out wr hB.out).size i hlt]
          have HC : Hid _ := HIH.out ks[i] (Nd.kid_lt HN.out i hlt) (d + 1) r wr (Cs i) (by omega) hr0 (by omega) (HE.out _ hB.out i hlt)
          rw [show ((d + 1 : Nat) : Int) = (d : Int) + 1 by omega] at HC
          go_wp2_with (refine wpList_load_mid rfl 26 _ rfl kb (koff + i * 5) rfl (Cs i).toList _ HRG.out Tryd.underlying26 rfl hsi2 ?_; simp only [Array.toArray_toList])
          refine Calls.mono HC.out ?_
          rintro e w2 ⟨r2, rfl, hr2a, hr2b, hr2c, hb2⟩
          have hB2 : Hid (Below w.heap.size w w2) := hB.out.trans (hb2.mono hB.out.size)
          have hBB2 : Hid (Below wB.heap.size wB w2) := hBB.out.trans (hb2.mono hBB.out.size)
          have HR2 : Hid _ := hr2c
          clear HC HRG hb2 c4 hr2c
          by_cases hneg : r2 < 0
          · go_wp2
            go_ret
            exact ⟨-1, rfl, by omega, by omega, fun h => absurd h (by omega), hB2.out⟩
          · go_wp2
            go_roundw
            case rel =>
              refine ⟨r2, i + 1, by go_num, by go_num, by omega, by omega, by omega, ?_, hB2, hBB2⟩
              show _ ≤ _
              rw [countL_take ks i hlt]
              have h1 := HR2.out (by omega)
              have h2 := hL.out
              omega
            case measure => simp [intOf]; omega
        · have hlt' : ¬ (i : Int) < (ks.length : Int) := by omega
          have HV : Hid ((Nd.countL ks : Int) + r ≤ m) := by
            have h2 := hL.out
            rw [List.take_of_length_le (by omega)] at h2
            exact h2
          clear hL
          go_wp2
          go_ret
          refine ⟨r, rfl, by omega, by omega, fun _ => ?_, hB.out⟩
          have h1 := HCT.out
          have h2 := HV.out
          have h3 := HM.out
          omega
theorem room_ok (n : Nd) (d : Nat) (l : Int) (w : World) (C : Array Value) (hd : d ≤ 41) (hl0 : 0 ≤ l) (hl1 : l ≤ 3000) (h : NodeAt w n C) : Calls Tryd.prog 21 #[.agg C, .int .i64 d, .int .i64 l] w (RoomPost n l w) := by
  suffices hh : ∀ N, ∀ n : Nd, n.count ≤ N → ∀ (d : Nat) (l : Int) (w : World) (C : Array Value), d ≤ 41 → 0 ≤ l → l ≤ 3000 → NodeAt w n C → Calls Tryd.prog 21 #[.agg C, .int .i64 d, .int .i64 l] w (RoomPost n l w) from hh n.count n (Nat.le_refl _) d l w C hd hl0 hl1 h
  intro N
  induction N with
  | zero => intro n h; have := n.count_pos; omega
  | succ N ih => exact fun n h => room_step N ih n h
set_option maxRecDepth 20000 in
set_option maxHeartbeats 2000000 in
/-- large: where it is not, the nodes are at most 3000. -/
theorem large_ok (n : Nd) (w : World) (C : Array Value) (h : NodeAt w n C) : Calls Tryd.prog 7 #[.agg C, .int .i64 0] w fun e w' => ∃ b : Bool, e = .returned (.bool b) ∧ (b = false → n.count ≤ 3000) ∧ Below w.heap.size w w' := by
  have hb0 : Below w.heap.size w (w.alloc (.cells C 26)) := (Below.refl _ _).alloc (Nat.le_refl _) _
  have HR : Hid (Row (w.alloc (.cells C 26)) w.heap.size C 26) := Row.new w _ _
  have hro := room_ok n 0 3000 _ C (by omega) (by omega) (by omega) (h.keep hb0)
  have HB : Hid _ := hb0
  have hsi : (Tryd.prog.info? 26).map (·.size) = some C.size := by rw [infoN, h.size]
  clear h hb0
  go_enter Tryd.func7, Tryd.ntmps7
  generalize hwB : w.alloc (.cells C 26) = wB at *
  go_wp2_with (first
    | (refine wpList_load_row rfl 26 _ rfl w.heap.size rfl 26 C (0, 0) _ HR.out Tryd.underlying26 rfl hsi ?_)
    | (go_at_call 21; refine hro.mono ?_; rintro e w1 ⟨r, rfl, hra, hrb, hrc, hb1⟩
       have HB1 : Hid (Below w.heap.size w w1) := HB.out.trans (hb1.mono HB.out.size)
       have HRC : Hid _ := hrc
       clear hro hb1 hrc))
  go_ret
  refine ⟨_, rfl, fun hh => ?_, HB1.out⟩
  have h0 : ¬ r < 0 := by simpa using hh
  have := HRC.out (by omega)
  omega
end Go.Proofs.YtpkbfljoakodoaaDoor
