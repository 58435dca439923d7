/- My own work: Has. -/
import Derived.Test.YtkbhckjpmgkgjaaGreatDoorSP3
namespace Go.Proofs.YtkbhckjpmgkgjaaGreatDoor
open Go.RowKit

abbrev boxV (w : World) (v : Ver) : World := w.alloc (.cells (verC v) 112)
/-- What Has tells of a set that a call made. -/
def hasV (L : List Cut) (v : Ver) : Bool := mayV v && inn false L ⟨1, v⟩
set_option maxHeartbeats 1000000 in
theorem has_no (v : Ver) {w : World} {p : Value} (h : NoSet w p w.heap.size) (hT : Pw w) : Calls Tryz.prog 100 #[p, verV v] w fun e w' => e = .returned (.bool false) ∧ Below w.heap.size w w' := by
  have hA : Row (boxV w v) w.heap.size (verC v) 112 := Row.new w (verC v) 112
  have hb1 : Below w.heap.size w (boxV w v) := (Below.refl _ _).alloc (Nat.le_refl _) _
  have hs1 : w.heap.size ≤ (boxV w v).heap.size := hb1.size
  obtain ⟨w1, hw1⟩ : ∃ x, x = boxV w v := ⟨_, rfl⟩
  have hw1' := hw1.symm
  rw [← hw1] at hA hb1 hs1
  have ht := text_ok v w1 (hT.keep hb1 hT.lt)
  have HK : Hid (∀ w2, Below w1.heap.size w1 w2 → Made false w2 p ∧ Below w.heap.size w w2) := fun w2 h2 => ⟨(h.keep (hb1.trans (h2.mono hs1))).made, hb1.trans (h2.mono hs1)⟩
  clear hw1 h hb1 hs1 hT
  by_cases hm : mayV v = true
  · rw [textE_yes hm] at ht
    clear hm
    go_enter Tryz.func100, Tryz.ntmps100
    go_wp2_with (first | refine wpList_load_row rfl 112 _ rfl w.heap.size rfl 112 (verC v) (0, 0) _ hA Tryz.underlying112 rfl infoVs ?_ | fail)
    refine ht.mono ?_
    rintro e w2 ⟨rfl, h2⟩
    obtain ⟨hm2, hb2⟩ := HK.out w2 h2
    unfold Made at hm2
    clear ht h2
    go_wp2_with fail
    refine hm2.mono ?_
    rintro e w3 ⟨rfl, hw3⟩
    rw [hw3]
    clear hw3 hm2
    go_wp2
    go_ret
    exact ⟨rfl, hb2⟩
  · rw [textE_no (by simpa using hm)] at ht
    clear hm
    go_enter Tryz.func100, Tryz.ntmps100
    go_wp2_with (first | refine wpList_load_row rfl 112 _ rfl w.heap.size rfl 112 (verC v) (0, 0) _ hA Tryz.underlying112 rfl infoVs ?_ | fail)
    refine ht.mono ?_
    rintro e w2 ⟨rfl, h2⟩
    obtain ⟨_, hb2⟩ := HK.out w2 h2
    clear ht h2
    go_wp2
    go_ret
    exact ⟨rfl, hb2⟩
set_option maxRecDepth 20000 in
set_option maxHeartbeats 2000000 in
theorem has_ok (v : Ver) {w : World} {p : Value} {L : List Cut} {B : Nat} (h : SetAt w p L B) (hB : B ≤ w.heap.size) (hok : ∀ c ∈ L, CutOk c) (hl : L.length < 100000) (hT : Pw w) : Calls Tryz.prog 100 #[p, verV v] w fun e w' => e = .returned (.bool (hasV L v)) ∧ Below w.heap.size w w' := by
  have hA : Row (boxV w v) w.heap.size (verC v) 112 := Row.new w (verC v) 112
  have hb1 : Below w.heap.size w (boxV w v) := (Below.refl _ _).alloc (Nat.le_refl _) _
  have hs1 : w.heap.size + 1 ≤ (boxV w v).heap.size := by simp
  obtain ⟨w1, hw1⟩ : ∃ x, x = boxV w v := ⟨_, rfl⟩
  have hw1' := hw1.symm
  rw [← hw1] at hA hb1 hs1
  have ht := text_ok v w1 (hT.keep hb1 hT.lt)
  clear hw1
  by_cases hm : mayV v = true
  · have HV : Hid (hasV L v = inn false L ⟨1, v⟩) := by show _ = _; unfold hasV; rw [hm, Bool.true_and]
    have hvo : CutOk ⟨1, v⟩ := Or.inr (Or.inr ⟨Or.inl rfl, (mayV_iff v).1 hm⟩)
    have HC : Hid (∀ i (hi : i < L.length) wx, Calls Tryz.prog 131 #[cutV L[i], cutV ⟨1, v⟩] wx fun e w' => e = .returned (.int .i64 (ordC L[i] ⟨1, v⟩)) ∧ Below wx.heap.size wx w') := fun i hi wx => by
      have hc := compareC L[i] ⟨1, v⟩ wx
      rw [cmpC_ord (hok _ (List.getElem_mem hi)) hvo] at hc
      exact hc
    rw [textE_yes hm] at ht
    have HS : Hid (∀ w2, Below w1.heap.size w1 w2 → SetAt w2 p L B ∧ Below w.heap.size w w2 ∧ Row w2 w.heap.size (verC v) 112) := fun w2 h2 => ⟨h.keep ((hb1.mono hB).trans (h2.mono (by omega))), hb1.trans (h2.mono (by omega)), hA.below h2 (by omega)⟩
    clear hm hvo h hok
    go_enter Tryz.func100, Tryz.ntmps100
    go_wp2_with (first | refine wpList_load_row rfl 112 _ rfl w.heap.size rfl 112 (verC v) (0, 0) _ hA Tryz.underlying112 rfl infoVs ?_ | fail)
    refine ht.mono ?_
    rintro e w2 ⟨rfl, h2⟩
    obtain ⟨hS2, hb2, hA2⟩ := HS.out w2 h2
    have HB2 : Hid (Below w.heap.size w w2) := hb2
    have hm2 := hS2.made
    unfold Made at hm2
    obtain ⟨g, vv, rfl, hgB, hrow, hcuts⟩ := hS2.ex
    obtain ⟨sa, g2, off, cap, rfl, hc2, hc3, hc4, hc5⟩ := hcuts.ex
    have hc1 : w2.cell? ⟨g, 1, none⟩ = some (.slice sa L.length cap) := (hrow.cell 1).trans rfl
    have hlt2 : w.heap.size < w2.heap.size := hA2.lt
    have HLt : Hid (w.heap.size < w2.heap.size) := hlt2
    have HR : Hid (∀ wx, Below w2.heap.size w2 wx → ∀ i (hi : i < L.length), wx.rangeAt g2 (off + i * 7) (encC L[i])) := fun wx hx i hi j u hj => (hx.cell (p := ⟨g2, off + i * 7 + j, none⟩) (by have := (hc2 (by omega)).2; show g2 < _; omega)).trans (hc5 i hi j u hj)
    have HSA : Hid (0 < L.length → sa = some ⟨g2, off, none⟩) := fun h => (hc2 h).1
    have HA2 : Hid (∀ wx, Below w2.heap.size w2 wx → Row wx w.heap.size (verC v) 112) := fun wx hx => hA2.below hx hlt2
    obtain ⟨n, hn⟩ : ∃ n, n = L.length := ⟨_, rfl⟩
    have HN : Hid (n = L.length) := hn
    rw [← hn] at hc1 hc3 hl
    clear ht hS2 hb2 hA2 hA hrow hcuts hc2 hc4 hc5 h2 HS hgB hlt2 hn
    go_wp2_with fail
    refine hm2.mono ?_
    rintro e w3 ⟨rfl, hw3⟩
    rw [hw3]
    clear hw3 hm2
    go_wp2
    go_loopw [7, 27] (fun s7 s27 wq => ∃ (i : Nat) (b : Bool), i ≤ n ∧ s27 = .int .i64 i ∧ s7 = .bool b ∧ inn b (L.drop i) ⟨1, v⟩ = inn false L ⟨1, v⟩ ∧ Below w2.heap.size w2 wq) (fun _ s27 _ => n - (intOf s27).toNat)
    case atStart => exact ⟨0, false, Nat.zero_le _, rfl, rfl, rfl, Below.refl _ _⟩
    case round =>
      obtain ⟨i, b, hi, rfl, rfl, hinn, hBq⟩ := hrel
      have HBq : Hid (Below w2.heap.size w2 wr) := hBq
      by_cases hin : i < n
      · have hin' : (i : Int) < (n : Int) := by omega
        have hiL : i < L.length := by have := HN.out; omega
        obtain rfl := HSA.out (by omega)
        have hrg := HR.out wr hBq i hiL
        have hrv := HA2.out wr hBq
        have hcmp := HC.out i hiL
        rw [List.drop_eq_getElem_cons hiL] at hinn
        obtain ⟨c, hc⟩ : ∃ c, c = L[i] := ⟨_, rfl⟩
        rw [← hc] at hrg hinn hcmp
        have hsz : w2.heap.size ≤ wr.heap.size := hBq.size
        have hrv2 : Row (wr.alloc (.cells (cutC c) 216)) w.heap.size (verC v) 112 := hrv.alloc _
        have hrc2 : Row (wr.alloc (.cells (cutC c) 216)) wr.heap.size (cutC c) 216 := Row.new _ _ _
        have hcm := hcmp (wr.alloc (.cells (cutC c) 216))
        have HBa : Hid (Below w2.heap.size w2 (wr.alloc (.cells (cutC c) 216))) := hBq.alloc hsz _
        by_cases hle : le c ⟨1, v⟩
        · have HI : Hid (inn (!b) (L.drop (i + 1)) ⟨1, v⟩ = inn false L ⟨1, v⟩) := by
            rw [inn_cons, if_pos hle] at hinn
            exact hinn
          have hng : ¬ (0 : Int) < ordC c ⟨1, v⟩ := by unfold le at hle; omega
          generalize ordC c ⟨1, v⟩ = oc at hcm hng
          clear hinn hcmp hc hBq hle
          go_wp2_with (first | refine wpList_load_mid rfl 216 _ rfl g2 (off + i * 7) rfl _ _ hrg Tryz.underlying216 rfl infoC ?_ | refine wpList_store_new rfl 216 _ _ rfl wr zeroCut (cutC c) 216 rfl wr.heap.size rfl rfl rfl infoC rfl (cutC_one _) ?_ | refine wpList_load_row rfl 216 _ rfl wr.heap.size rfl 216 (cutC c) (0, 0) _ hrc2 Tryz.underlying216 rfl infoC ?_ | refine wpList_load_row rfl 112 _ rfl w.heap.size rfl 112 (verC v) (0, 0) _ hrv2 Tryz.underlying112 rfl infoVs ?_ | (go_at_call 131; refine hcm.mono ?_; rintro e w9 ⟨rfl, hb9⟩))
          go_roundw
          case rel => exact ⟨i + 1, !b, by omega, by go_num, rfl, HI.out, HBa.out.trans (hb9.mono HBa.out.size)⟩
          case measure => simp [intOf]; omega
        · have HI : Hid (b = inn false L ⟨1, v⟩) := by
            rw [inn_cons, if_neg hle] at hinn
            exact hinn
          have hng : (0 : Int) < ordC c ⟨1, v⟩ := by unfold le at hle; omega
          generalize ordC c ⟨1, v⟩ = oc at hcm hng
          clear hinn hcmp hc hBq hle
          go_wp2_with (first | refine wpList_load_mid rfl 216 _ rfl g2 (off + i * 7) rfl _ _ hrg Tryz.underlying216 rfl infoC ?_ | refine wpList_store_new rfl 216 _ _ rfl wr zeroCut (cutC c) 216 rfl wr.heap.size rfl rfl rfl infoC rfl (cutC_one _) ?_ | refine wpList_load_row rfl 216 _ rfl wr.heap.size rfl 216 (cutC c) (0, 0) _ hrc2 Tryz.underlying216 rfl infoC ?_ | refine wpList_load_row rfl 112 _ rfl w.heap.size rfl 112 (verC v) (0, 0) _ hrv2 Tryz.underlying112 rfl infoVs ?_ | (go_at_call 131; refine hcm.mono ?_; rintro e w9 ⟨rfl, hb9⟩))
          go_ret
          exact ⟨by rw [HV.out, ← HI.out]; rfl, HB2.out.trans ((HBa.out.trans (hb9.mono HBa.out.size)).mono (Nat.le_of_lt HLt.out))⟩
      · have hin' : ¬ (i : Int) < (n : Int) := by omega
        have HI : Hid (b = inn false L ⟨1, v⟩) := by
          rw [List.drop_of_length_le (by have := HN.out; omega)] at hinn
          exact hinn
        clear hinn hBq
        go_wp2
        go_ret
        exact ⟨by rw [HV.out, ← HI.out]; rfl, HB2.out.trans (HBq.out.mono (Nat.le_of_lt HLt.out))⟩
  · have hm' : mayV v = false := by simpa using hm
    rw [textE_no hm'] at ht
    have HV : Hid (hasV L v = false) := by show _ = _; unfold hasV; rw [hm', Bool.false_and]
    have HK : Hid (∀ w2, Below w1.heap.size w1 w2 → Below w.heap.size w w2) := fun w2 h2 => hb1.trans (h2.mono (by omega))
    clear hm hm' h hok hT hb1 hs1
    go_enter Tryz.func100, Tryz.ntmps100
    go_wp2_with (first | refine wpList_load_row rfl 112 _ rfl w.heap.size rfl 112 (verC v) (0, 0) _ hA Tryz.underlying112 rfl infoVs ?_ | fail)
    refine ht.mono ?_
    rintro e w2 ⟨rfl, h2⟩
    have hb2 := HK.out w2 h2
    clear ht h2
    go_wp2
    go_ret
    exact ⟨by rw [HV.out]; rfl, hb2⟩
end Go.Proofs.YtkbhckjpmgkgjaaGreatDoor
