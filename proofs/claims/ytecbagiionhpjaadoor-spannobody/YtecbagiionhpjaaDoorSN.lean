/- My own work: the law SpanNobody. -/
import Derived.Test.YtecbagiionhpjaaDoorSP4
namespace Go.Proofs.YtecbagiionhpjaaDoor
open Go.RowKit

/-- What holds while the law goes on. -/
structure NoB (w w5 : World) (v : Ver) (p q : Value) (wx : World) : Prop where
  p : SetAt wx p allC w5.heap.size
  q : SetAt wx q [] w5.heap.size
  v : Row wx w.heap.size (verC v) 24
  t : Pw wx
  b : Below w.heap.size w wx
theorem NoB.next {w w5 w' w'' : World} {v : Ver} {p q : Value} (h : NoB w w5 v p q w') (hb : Below w5.heap.size w' w'') (h1 : w.heap.size < w5.heap.size) (h2 : 1 < w.heap.size) : NoB w w5 v p q w'' :=
  ⟨h.p.keep hb, h.q.keep hb, h.v.below hb h1, h.t.keep hb (Nat.lt_trans h2 h1), h.b.trans (hb.mono (Nat.le_of_lt h1))⟩
set_option maxRecDepth 20000 in
set_option maxHeartbeats 4000000 in
theorem law_nobody (v : Ver) (w : World) (hT : Pw w) : Calls Tryd.prog 6 #[verV v] w fun e w' => e = .returned (.bool true) ∧ Below w.heap.size w w' := by
  have hA : Row (boxV w v) w.heap.size (verC v) 24 := Row.new w (verC v) 24
  have hb1 : Below w.heap.size w (boxV w v) := (Below.refl _ _).alloc (Nat.le_refl _) _
  have HG : Hid (1 < w.heap.size) := hT.lt
  have hT1 : Pw (boxV w v) := hT.keep hb1 hT.lt
  obtain ⟨w1, hw1⟩ : ∃ x, x = boxV w v := ⟨_, rfl⟩
  have hw1' := hw1.symm
  rw [← hw1] at hA hb1 hT1
  have ha := all_new w1
  clear hw1 hT
  go_enter Tryd.func6, Tryd.ntmps6
  go_wp2_with fail
  refine ha.mono ?_
  rintro e w2 ⟨p, rfl, hp2, hb2⟩
  have hn := none_ok' w2
  clear ha
  go_wp2_with fail
  refine hn.mono ?_
  rintro e w3 ⟨q, rfl, hq3, hb3⟩
  clear hn
  have hp3 := hp2.keep hb3
  have hs3 : w2.heap.size ≤ w3.heap.size := hb3.size
  have hA3 : Row w3 w.heap.size (verC v) 24 := (hA.below hb2 hA.lt).below hb3 (Nat.lt_of_lt_of_le hA.lt hb2.size)
  have hT3 : Pw w3 := (hT1.keep hb2 hT1.lt).keep hb3 (Nat.lt_of_lt_of_le hT1.lt hb2.size)
  have hB3 : Below w.heap.size w w3 := (hb1.trans (hb2.mono hb1.size)).trans (hb3.mono (Nat.le_trans hb1.size hb2.size))
  have HS4 : Hid (NoB w ((w3.alloc (.cells #[.bool false, .slice none 0 0] 50)).alloc (.cells #[.pointer none, .pointer (some ⟨w3.heap.size, 0, none⟩)] 36)) v p q ((w3.alloc (.cells #[.bool false, .slice none 0 0] 50)).alloc (.cells #[.pointer none, .pointer (some ⟨w3.heap.size, 0, none⟩)] 36))) := by
    have hk : Below w3.heap.size w3 ((w3.alloc (.cells #[.bool false, .slice none 0 0] 50)).alloc (.cells #[.pointer none, .pointer (some ⟨w3.heap.size, 0, none⟩)] 36)) := ((Below.refl _ _).alloc (Nat.le_refl _) _).alloc (by simp) _
    exact ⟨(hp3.mono hs3).keep hk |>.mono hk.size, hq3.keep hk |>.mono hk.size, hA3.below hk hA3.lt, hT3.keep hk hT3.lt, hB3.trans (hk.mono hB3.size)⟩
  have HR4 : Hid (Row ((w3.alloc (.cells #[.bool false, .slice none 0 0] 50)).alloc (.cells #[.pointer none, .pointer (some ⟨w3.heap.size, 0, none⟩)] 36)) w3.heap.size #[.bool false, .slice none 0 0] 50) := (Row.new w3 _ _).alloc _
  have HR5 : Hid (Row ((w3.alloc (.cells #[.bool false, .slice none 0 0] 50)).alloc (.cells #[.pointer none, .pointer (some ⟨w3.heap.size, 0, none⟩)] 36)) (w3.heap.size + 1) #[.pointer none, .pointer (some ⟨w3.heap.size, 0, none⟩)] 36) := by
    have h := Row.new (w3.alloc (.cells #[.bool false, .slice none 0 0] 50)) #[.pointer none, .pointer (some ⟨w3.heap.size, 0, none⟩)] 36
    rw [World.size_alloc] at h
    exact h
  obtain ⟨g, vp, rfl, hpg⟩ := hp2.ex
  obtain ⟨g', vq, rfl, hqg⟩ := hq3.ex
  have hlt3 : w.heap.size < w3.heap.size := hA3.lt
  have HLt : Hid (w.heap.size < w3.heap.size) := hlt3
  clear hp2 hp3 hq3 hA hA3 hT1 hT3 hB3 hb1 hb2 hb3 hs3 hpg hqg hlt3
  go_wp2
  obtain ⟨w5, hw5⟩ : ∃ x, x = (w3.alloc (.cells #[.bool false, .slice none 0 0] 50)).alloc (.cells #[.pointer none, .pointer (some ⟨w3.heap.size, 0, none⟩)] 36) := ⟨_, rfl⟩
  have HL5 : Hid (w.heap.size < w5.heap.size ∧ w3.heap.size + 1 < w5.heap.size) := by
    have := HLt.out
    rw [hw5]
    constructor
    · simp only [World.size_alloc]; omega
    · simp only [World.size_alloc]; omega
  rw [← hw5] at HS4 HR4 HR5
  rw [← hw5]
  clear hw5
  go_loopw [19] (fun s19 wq => ∃ i : Nat, i ≤ 2 ∧ s19 = .int .i64 i ∧ Below w5.heap.size w5 wq) (fun s19 _ => 2 - (intOf s19).toNat)
  case atStart => exact ⟨0, by omega, rfl, Below.refl _ _⟩
  case round =>
    obtain ⟨i, hi, rfl, hBq⟩ := hrel
    have hst := HS4.out.next hBq HL5.out.1 HG.out
    have hro := HR4.out.below hBq (by have := HL5.out.2; omega)
    have hrp := HR5.out.below hBq HL5.out.2
    have c0 : wr.cell? ⟨w3.heap.size + 1, 0, none⟩ = some (.pointer none) := (hrp.cell 0).trans rfl
    have c1 : wr.cell? ⟨w3.heap.size + 1, 1, none⟩ = some (.pointer (some ⟨w3.heap.size, 0, none⟩)) := (hrp.cell 1).trans rfl
    have HBq : Hid (Below w5.heap.size w5 wr) := hBq
    have hi' : i = 0 ∨ i = 1 ∨ i = 2 := by omega
    rcases hi' with rfl | rfl | rfl
    · have hno : ∀ wx, Below w5.heap.size w5 wx → NoSet wx (.pointer none) wx.heap.size := fun wx hx => Or.inl rfl
      have HNo : Hid _ := hno
      have hrv := hst.v
      have HSt : Hid _ := hst
      clear hst hro hrp hi hBq hno
      go_wp2_with (first | refine wpList_load_row rfl 24 _ rfl w.heap.size rfl 24 (verC v) (0, 0) _ hrv Tryd.underlying24 rfl infoVs ?_ | fail)
      refine (has_no v (HNo.out wr HBq.out) HSt.out.t).mono ?_
      rintro e wa ⟨rfl, hba⟩
      have HBa : Hid (Below w5.heap.size w5 wa) := HBq.out.trans (hba.mono HBq.out.size)
      have HSa : Hid _ := HSt.out.next (hba.mono HBq.out.size) HL5.out.1 HG.out
      clear hba hrv c0 c1 HSt
      go_wp2_with fail
      refine (and_no1 _ (HNo.out wa HBa.out).made).mono ?_
      rintro e wn ⟨rfl, hwn⟩
      rw [hwn]
      clear hwn
      go_wp2_with fail
      refine (and_no2 HSa.out.p.made (HNo.out wa HBa.out).made).mono ?_
      rintro e wn ⟨rfl, hwn⟩
      rw [hwn]
      clear hwn
      go_wp2_with fail
      refine (or_no1 _ (HNo.out wa HBa.out).made).mono ?_
      rintro e wn ⟨rfl, hwn⟩
      rw [hwn]
      clear hwn
      go_wp2_with fail
      refine (or_no2 HSa.out.q.made (HNo.out wa HBa.out).made).mono ?_
      rintro e wn ⟨rfl, hwn⟩
      rw [hwn]
      clear hwn
      go_wp2_with fail
      refine (not_no (HNo.out wa HBa.out)).mono ?_
      rintro e wb ⟨rfl, hbb⟩
      have HBb : Hid (Below w5.heap.size w5 wb) := HBa.out.trans (hbb.mono HBa.out.size)
      have HSb : Hid _ := HSa.out.next (hbb.mono HBa.out.size) HL5.out.1 HG.out
      clear hbb HSa HBa
      go_wp2_with fail
      refine (same_no1 false (HNo.out wb HBb.out).made (isMade_nil wb)).mono ?_
      rintro e wn ⟨rfl, hwn⟩
      rw [hwn]
      clear hwn
      go_wp2_with fail
      refine (same_no1 true (HNo.out wb HBb.out).made HSb.out.q.made).mono ?_
      rintro e wn ⟨rfl, hwn⟩
      rw [hwn]
      clear hwn
      go_wp2_with fail
      refine (same_no2 HSb.out.q.made (HNo.out wb HBb.out).made).mono ?_
      rintro e wn ⟨rfl, hwn⟩
      rw [hwn]
      clear hwn
      go_wp2_with fail
      refine (empty_no (HNo.out wb HBb.out).made).mono ?_
      rintro e wn ⟨rfl, hwn⟩
      rw [hwn]
      clear hwn
      go_wp2_with fail
      refine (text_no (HNo.out wb HBb.out).made).mono ?_
      rintro e wn ⟨rfl, hwn⟩
      rw [hwn]
      clear hwn
      go_wp2
      go_roundw
      case rel => exact ⟨1, by omega, rfl, HBb.out⟩
      case measure => simp [intOf]
    · have hno : ∀ wx, Below w5.heap.size w5 wx → NoSet wx (.pointer (some ⟨w3.heap.size, 0, none⟩)) wx.heap.size := fun wx hx => Or.inr ⟨w3.heap.size, .slice none 0 0, rfl, by have := hx.size; have := HL5.out.2; omega, HR4.out.below hx (by have := HL5.out.2; omega)⟩
      have HNo : Hid _ := hno
      have hrv := hst.v
      have HSt : Hid _ := hst
      clear hst hro hrp hi hBq hno
      go_wp2_with (first | refine wpList_load_row rfl 24 _ rfl w.heap.size rfl 24 (verC v) (0, 0) _ hrv Tryd.underlying24 rfl infoVs ?_ | fail)
      refine (has_no v (HNo.out wr HBq.out) HSt.out.t).mono ?_
      rintro e wa ⟨rfl, hba⟩
      have HBa : Hid (Below w5.heap.size w5 wa) := HBq.out.trans (hba.mono HBq.out.size)
      have HSa : Hid _ := HSt.out.next (hba.mono HBq.out.size) HL5.out.1 HG.out
      clear hba hrv c0 c1 HSt
      go_wp2_with fail
      refine (and_no1 _ (HNo.out wa HBa.out).made).mono ?_
      rintro e wn ⟨rfl, hwn⟩
      rw [hwn]
      clear hwn
      go_wp2_with fail
      refine (and_no2 HSa.out.p.made (HNo.out wa HBa.out).made).mono ?_
      rintro e wn ⟨rfl, hwn⟩
      rw [hwn]
      clear hwn
      go_wp2_with fail
      refine (or_no1 _ (HNo.out wa HBa.out).made).mono ?_
      rintro e wn ⟨rfl, hwn⟩
      rw [hwn]
      clear hwn
      go_wp2_with fail
      refine (or_no2 HSa.out.q.made (HNo.out wa HBa.out).made).mono ?_
      rintro e wn ⟨rfl, hwn⟩
      rw [hwn]
      clear hwn
      go_wp2_with fail
      refine (not_no (HNo.out wa HBa.out)).mono ?_
      rintro e wb ⟨rfl, hbb⟩
      have HBb : Hid (Below w5.heap.size w5 wb) := HBa.out.trans (hbb.mono HBa.out.size)
      have HSb : Hid _ := HSa.out.next (hbb.mono HBa.out.size) HL5.out.1 HG.out
      clear hbb HSa HBa
      go_wp2_with fail
      refine (same_no1 false (HNo.out wb HBb.out).made (isMade_nil wb)).mono ?_
      rintro e wn ⟨rfl, hwn⟩
      rw [hwn]
      clear hwn
      go_wp2_with fail
      refine (same_no1 true (HNo.out wb HBb.out).made HSb.out.q.made).mono ?_
      rintro e wn ⟨rfl, hwn⟩
      rw [hwn]
      clear hwn
      go_wp2_with fail
      refine (same_no2 HSb.out.q.made (HNo.out wb HBb.out).made).mono ?_
      rintro e wn ⟨rfl, hwn⟩
      rw [hwn]
      clear hwn
      go_wp2_with fail
      refine (empty_no (HNo.out wb HBb.out).made).mono ?_
      rintro e wn ⟨rfl, hwn⟩
      rw [hwn]
      clear hwn
      go_wp2_with fail
      refine (text_no (HNo.out wb HBb.out).made).mono ?_
      rintro e wn ⟨rfl, hwn⟩
      rw [hwn]
      clear hwn
      go_wp2
      go_roundw
      case rel => exact ⟨2, by omega, rfl, HBb.out⟩
      case measure => simp [intOf]
    · have hrv := hst.v
      have hl2 : (2 : Nat) < 100000 := by omega
      have hE1 := empty_set hst.q (by simp)
      have hE2 := empty_set hst.p (by simp)
      have hH := has_ok v hst.q HBq.out.size (fun _ h => by cases h) (by simp) hst.t
      rw [show hasV [] v = false by unfold hasV; exact Bool.and_false _] at hH
      have HSt : Hid _ := hst
      clear hst hro hrp hi hBq c0 c1 hl2
      go_wp2_with fail
      refine hE1.mono ?_
      rintro e wn ⟨rfl, hwn⟩
      rw [hwn]
      clear hwn hE1
      go_wp2_with fail
      refine hE2.mono ?_
      rintro e wn ⟨rfl, hwn⟩
      rw [hwn]
      clear hwn hE2
      go_wp2_with (first | refine wpList_load_wanted (by rfl) 24 _ rfl w.heap.size rfl 24 (verC v) _ hrv Tryd.underlying24 rfl infoVs ?_ | fail)
      refine hH.mono ?_
      rintro e wn ⟨rfl, hbn⟩
      clear hH
      go_wp2
      go_ret
      exact ⟨rfl, HSt.out.b.trans (hbn.mono HSt.out.b.size)⟩
end Go.Proofs.YtecbagiionhpjaaDoor
