/- My own work: the law SpanSets. -/
import Derived.Test.YtecbagiionhpjaaDoorLS0
namespace Go.Proofs.YtecbagiionhpjaaDoor
open Go.RowKit

set_option maxRecDepth 40000 in
set_option maxHeartbeats 16000000 in
theorem law_sets (a b : ByteArray) (ha : a.size ≤ 140737488355328) (hb : b.size ≤ 140737488355328) (L : List Ver) (la : Option Addr) (lc : Nat) (w : World) (hL : VsIn w la L lc) (hll : L.length < 9223372036854775807) (hT : Pw w) : Calls Tryd.prog 7 #[.string a, .string b, .slice la L.length lc] w fun e w' => e = .returned (.bool true) ∧ Below w.heap.size w w' := by
  have h1 := rangeParse_ok a w ha
  have HP : Hid (∀ wx, Calls Tryd.prog 14 #[.string b] wx (PaPost (rangeS (vb b)) wx)) := fun wx => rangeParse_ok b wx hb
  have HT : Hid (Pw w) := hT
  obtain ⟨vg, vo, hv1, hv2⟩ := hL.ex
  have HV1 : Hid (0 < L.length → la = some ⟨vg, vo, none⟩) := fun h => (hv1 h).1
  have HV2 : Hid (∀ wx, Below w.heap.size w wx → ∀ i (h : i < L.length), wx.rangeAt vg (vo + i * 6) (encV1 L[i])) := fun wx hx i h => range_below (hv2 i h) hx (hv1 (by omega)).2
  have hlc := hL.le
  obtain ⟨m, hm⟩ : ∃ m, m = L.length := ⟨_, rfl⟩
  have HM : Hid (m = L.length) := hm
  have hmm : L.length = m := hm.symm
  rw [hmm]
  rw [hmm] at hlc hll
  clear ha hb hT hv1 hv2 hL hm hmm
  go_enter Tryd.func7, Tryd.ntmps7
  go_wp2_with fail
  refine h1.mono ?_
  rintro e w1 (⟨_, rfl, hb1⟩ | ⟨A, x, _, rfl, hx, hxl, hb1⟩)
  · have HB1 : Hid (Below w.heap.size w w1) := hb1
    clear h1 hb1
    go_wp2_with fail
    refine Calls.mono (HP.out w1) ?_
    rintro e w2 (⟨_, rfl, hb2⟩ | ⟨B, y, _, rfl, hy, hyl, hb2⟩)
    · have HB2 : Hid (Below w.heap.size w w2) := HB1.out.trans (hb2.mono HB1.out.size)
      clear HP hb2
      go_wp2
      go_ret
      exact ⟨rfl, HB2.out⟩
    · have HB2 : Hid (Below w.heap.size w w2) := HB1.out.trans (hb2.mono HB1.out.size)
      clear HP hb2 hy hyl
      go_wp2
      go_ret
      exact ⟨rfl, HB2.out⟩
  · have HB1 : Hid (Below w.heap.size w w1) := hb1
    have HX1 : Hid (Gd w1 x A 578) := ⟨hx, hxl⟩
    obtain ⟨gx, vx, rfl, _⟩ := hx.at'.ex
    clear h1 hb1 hx hxl
    go_wp2_with fail
    refine Calls.mono (HP.out w1) ?_
    rintro e w2 (⟨_, rfl, hb2⟩ | ⟨B, y, _, rfl, hy, hyl, hb2⟩)
    · have HB2 : Hid (Below w.heap.size w w2) := HB1.out.trans (hb2.mono HB1.out.size)
      clear HP hb2
      go_wp2
      go_ret
      exact ⟨rfl, HB2.out⟩
    · have HB2 : Hid (Below w.heap.size w w2) := HB1.out.trans (hb2.mono HB1.out.size)
      have HX2 : Hid (Gd w2 (.pointer (some ⟨gx, 0, none⟩)) A 578) := Gd.next HX1.out hb2
      have HY2 : Hid (Gd w2 y B 578) := ⟨hy, hyl⟩
      obtain ⟨gy, vy, rfl, _⟩ := hy.at'.ex
      have HOA : Hid (SetOk A) := (Gd.g HX2.out).ok
      have HOB : Hid (SetOk B) := (Gd.g HY2.out).ok
      clear HP hb2 hy hyl HX1 HB1
      go_wp2_with fail
      refine Calls.mono (Gd.and HX2.out HY2.out (by omega) (by omega)) ?_
      rintro e w3 ⟨pb, rfl, hg3, hb3⟩
      have HX3 : Hid (Gd w3 (.pointer (some ⟨gx, 0, none⟩)) A 578) := Gd.next HX2.out hb3
      have HY3 : Hid (Gd w3 (.pointer (some ⟨gy, 0, none⟩)) B 578) := Gd.next HY2.out hb3
      have HB3 : Hid (Below w.heap.size w w3) := HB2.out.trans (hb3.mono HB2.out.size)
      have HBo3 : Hid (Gd w3 pb (andS A B) 1156) := hg3
      obtain ⟨gb, vb1, rfl, _⟩ := hg3.g.at'.ex
      clear hg3 hb3 HB2 HX2 HY2
      go_wp2_with fail
      refine Calls.mono (Gd.or HX3.out HY3.out (by omega) (by omega)) ?_
      rintro e w4 ⟨pa, rfl, hg4, hb4⟩
      have HX4 : Hid (Gd w4 (.pointer (some ⟨gx, 0, none⟩)) A 578) := Gd.next HX3.out hb4
      have HY4 : Hid (Gd w4 (.pointer (some ⟨gy, 0, none⟩)) B 578) := Gd.next HY3.out hb4
      have HBo4 : Hid (Gd w4 (.pointer (some ⟨gb, 0, none⟩)) (andS A B) 1156) := Gd.next HBo3.out hb4
      have HB4 : Hid (Below w.heap.size w w4) := HB3.out.trans (hb4.mono HB3.out.size)
      have HAn4 : Hid (Gd w4 pa (orS A B) 1156) := hg4
      obtain ⟨ga, va1, rfl, _⟩ := hg4.g.at'.ex
      clear hg4 hb4 HB3 HX3 HY3 HBo3
      go_wp2_with fail
      refine Calls.mono (Gd.not HX4.out (by omega)) ?_
      rintro e w5 ⟨pn, rfl, hg5, hb5⟩
      obtain ⟨gn, vn1, rfl, _⟩ := hg5.g.at'.ex
      have HB5 : Hid (Below w.heap.size w w5) := HB4.out.trans (hb5.mono HB4.out.size)
      have HS5 : Hid (Ss w A B (.pointer (some ⟨gx, 0, none⟩)) (.pointer (some ⟨gy, 0, none⟩)) (.pointer (some ⟨gb, 0, none⟩)) (.pointer (some ⟨ga, 0, none⟩)) (.pointer (some ⟨gn, 0, none⟩)) w5) := ⟨Gd.next HX4.out hb5, Gd.next HY4.out hb5, Gd.next HBo4.out hb5, Gd.next HAn4.out hb5, hg5, Pw.keep HT.out HB5.out (Pw.lt HT.out), HB5.out⟩
      clear hg5 hb5 HB4 HX4 HY4 HBo4 HAn4
      go_wp2
      go_loopw [14] (fun s14 wq => ∃ i : Nat, i ≤ m ∧ i ≤ 200 ∧ s14 = .int .i64 i ∧ Ss w A B (.pointer (some ⟨gx, 0, none⟩)) (.pointer (some ⟨gy, 0, none⟩)) (.pointer (some ⟨gb, 0, none⟩)) (.pointer (some ⟨ga, 0, none⟩)) (.pointer (some ⟨gn, 0, none⟩)) wq) (fun s14 _ => m - (intOf s14).toNat)
      case atStart => exact ⟨0, Nat.zero_le _, Nat.zero_le _, rfl, HS5.out⟩
      case round =>
        obtain ⟨i, hi, hi2, rfl, hS⟩ := hrel
        have HS : Hid _ := hS
        clear HS5 hS
        by_cases hin : i < m
        · have hin' : (i : Int) < (m : Int) := by omega
          by_cases h200 : i < 200
          · have h200' : (i : Int) < 200 := by omega
            have hiL : i < L.length := by have := HM.out; omega
            obtain rfl := HV1.out (by omega)
            have hrg := HV2.out wr HS.out.old i hiL
            obtain ⟨v, hv⟩ : ∃ v, v = L[i] := ⟨_, rfl⟩
            rw [← hv] at hrg
            clear hv
            have HSa : Hid (Ss w A B (.pointer (some ⟨gx, 0, none⟩)) (.pointer (some ⟨gy, 0, none⟩)) (.pointer (some ⟨gb, 0, none⟩)) (.pointer (some ⟨ga, 0, none⟩)) (.pointer (some ⟨gn, 0, none⟩)) (wr.alloc (.cells (verC v) 24))) := Ss.next HS.out ((Below.refl _ _).alloc (Nat.le_refl _) _)
            have hra : Row (wr.alloc (.cells (verC v) 24)) wr.heap.size (verC v) 24 := Row.new _ _ _
            obtain ⟨p, hp⟩ : ∃ p, hasV A v = p := ⟨_, rfl⟩
            obtain ⟨q, hq⟩ : ∃ q, hasV B v = q := ⟨_, rfl⟩
            obtain ⟨r, hr⟩ : ∃ r, mayV v = r := ⟨_, rfl⟩
            have HH1 : Hid (hasV (andS A B) v = (p && q)) := by show _ = _; rw [has_and HOA.out HOB.out, hp, hq]
            have HH2 : Hid (hasV (orS A B) v = (p || q)) := by show _ = _; rw [has_or HOA.out HOB.out, hp, hq]
            have HH3 : Hid (hasV (notS A) v = (!p && r)) := by show _ = _; rw [has_not HOA.out, hp, hr]
            have HHp : Hid (hasV A v = p) := hp
            have HHq : Hid (hasV B v = q) := hq
            have HHr : Hid (mayV v = r) := hr
            clear hp hq hr HS
            cases p with
            | true => cases q with
              | true => cases r with
                | true =>
                  go_wp2_with (first | refine wpList_load_mid rfl 24 _ rfl vg (vo + i * 6) rfl _ _ hrg Tryd.underlying24 rfl infoVs ?_ | refine wpList_store_new rfl 24 _ _ rfl wr zeroC (verC v) 24 rfl wr.heap.size rfl rfl rfl infoVs rfl (verC_one _) ?_)
                  obtain ⟨wA, hwA⟩ : ∃ y, y = wr.alloc (.cells (verC v) 24) := ⟨_, rfl⟩
                  rw [← hwA] at HSa hra
                  rw [← hwA]
                  obtain ⟨k, hk⟩ : ∃ k, k = wr.heap.size := ⟨_, rfl⟩
                  rw [← hk] at hra
                  rw [← hk]
                  clear hwA hk hrg
                  refine wp_region_quiet (C := fun wx => (Ss w A B (.pointer (some ⟨gx, 0, none⟩)) (.pointer (some ⟨gy, 0, none⟩)) (.pointer (some ⟨gb, 0, none⟩)) (.pointer (some ⟨ga, 0, none⟩)) (.pointer (some ⟨gn, 0, none⟩)) wx ∧ Row wx k (verC v) 24)) (by kernel_rfl) (by kernel_rfl) ⟨Ss.next HSa.out ((Below.refl _ _).drew), hra⟩ ?_
                  simp only []
                  refine q_value ?_ (by rfl) (fun w hw => ?_) ?_
                  rotate_left
                  · go_simp
                    with_reducible rfl
                  simp only [Act.put, List.setIfInBounds_toArray, List.set_cons_zero, List.set_cons_succ]
                  refine q_load 24 _ rfl (by rfl) k (verC v) 24 _ rfl (fun w h => h.2) Tryd.underlying24 rfl infoVs ?_
                  simp only [Act.put, List.setIfInBounds_toArray, List.set_cons_zero, List.set_cons_succ]
                  refine q_call (.bool true) (by rfl) 17 #[.pointer (some ⟨gx, 0, none⟩), verV v] (fun w h => by go_simp) (fun w h => (Gd.has h.1.x (by omega) h.1.t v true HHp.out).mono fun e w' ⟨he, hb⟩ => ⟨he, h.1.next hb, h.2.below hb h.2.lt⟩) ?_
                  simp only [Act.put, List.setIfInBounds_toArray, List.set_cons_zero, List.set_cons_succ]
                  refine q_value ?_ (by rfl) (fun w hw => ?_) ?_
                  rotate_left
                  · go_simp
                    with_reducible rfl
                  simp only [Act.put, List.setIfInBounds_toArray, List.set_cons_zero, List.set_cons_succ]
                  refine q_load 24 _ rfl (by rfl) k (verC v) 24 _ rfl (fun w h => h.2) Tryd.underlying24 rfl infoVs ?_
                  simp only [Act.put, List.setIfInBounds_toArray, List.set_cons_zero, List.set_cons_succ]
                  refine q_call (.bool true) (by rfl) 17 #[.pointer (some ⟨gy, 0, none⟩), verV v] (fun w h => by go_simp) (fun w h => (Gd.has h.1.y (by omega) h.1.t v true HHq.out).mono fun e w' ⟨he, hb⟩ => ⟨he, h.1.next hb, h.2.below hb h.2.lt⟩) ?_
                  simp only [Act.put, List.setIfInBounds_toArray, List.set_cons_zero, List.set_cons_succ]
                  refine q_value ?_ (by rfl) (fun w hw => ?_) ?_
                  rotate_left
                  · go_simp
                    with_reducible rfl
                  simp only [Act.put, List.setIfInBounds_toArray, List.set_cons_zero, List.set_cons_succ]
                  refine q_value ?_ (by rfl) (fun w hw => ?_) ?_
                  rotate_left
                  · go_simp
                    with_reducible rfl
                  simp only [Act.put, List.setIfInBounds_toArray, List.set_cons_zero, List.set_cons_succ]
                  refine wpQuiet_nil ?_
                  intro wB hB
                  simp only [Exit.then]
                  have HB : Hid _ := hB
                  have hrB := hB.2
                  clear hB HSa hra
                  have htx := text_ok v wB HB.out.1.t
                  rw [textE_yes HHr.out] at htx
                  go_wp2_with (first | refine wpList_load_row rfl 24 _ rfl k rfl 24 (verC v) (0, 0) _ hrB Tryd.underlying24 rfl infoVs ?_ | fail)
                  refine htx.mono ?_
                  clear htx
                  rintro e wC ⟨rfl, hb⟩
                  have HC : Hid (Ss w A B (.pointer (some ⟨gx, 0, none⟩)) (.pointer (some ⟨gy, 0, none⟩)) (.pointer (some ⟨gb, 0, none⟩)) (.pointer (some ⟨ga, 0, none⟩)) (.pointer (some ⟨gn, 0, none⟩)) wC ∧ Row wC k (verC v) 24) := ⟨Ss.next HB.out.1 hb, Row.below HB.out.2 hb (Row.lt HB.out.2)⟩
                  have hrC := HC.out.2
                  clear hb HB hrB
                  have hh := Gd.has HC.out.1.b (by omega) HC.out.1.t v _ HH1.out
                  go_wp2_with (first | refine wpList_load_row rfl 24 _ rfl k rfl 24 (verC v) (0, 0) _ hrC Tryd.underlying24 rfl infoVs ?_ | fail)
                  refine hh.mono ?_
                  clear hh
                  rintro e wD ⟨rfl, hb⟩
                  have HD : Hid (Ss w A B (.pointer (some ⟨gx, 0, none⟩)) (.pointer (some ⟨gy, 0, none⟩)) (.pointer (some ⟨gb, 0, none⟩)) (.pointer (some ⟨ga, 0, none⟩)) (.pointer (some ⟨gn, 0, none⟩)) wD ∧ Row wD k (verC v) 24) := ⟨Ss.next HC.out.1 hb, Row.below HC.out.2 hb (Row.lt HC.out.2)⟩
                  have hrD := HD.out.2
                  clear hb HC hrC
                  have hh := Gd.has HD.out.1.a (by omega) HD.out.1.t v _ HH2.out
                  go_wp2_with (first | refine wpList_load_wanted (by rfl) 24 _ rfl k rfl 24 (verC v) _ hrD Tryd.underlying24 rfl infoVs ?_ | fail)
                  refine hh.mono ?_
                  clear hh
                  rintro e wE ⟨rfl, hb⟩
                  have HE : Hid (Ss w A B (.pointer (some ⟨gx, 0, none⟩)) (.pointer (some ⟨gy, 0, none⟩)) (.pointer (some ⟨gb, 0, none⟩)) (.pointer (some ⟨ga, 0, none⟩)) (.pointer (some ⟨gn, 0, none⟩)) wE ∧ Row wE k (verC v) 24) := ⟨Ss.next HD.out.1 hb, Row.below HD.out.2 hb (Row.lt HD.out.2)⟩
                  have hrE := HE.out.2
                  clear hb HD hrD
                  have hh := Gd.has HE.out.1.n (by omega) HE.out.1.t v _ HH3.out
                  go_wp2_with (first | refine wpList_load_wanted (by rfl) 24 _ rfl k rfl 24 (verC v) _ hrE Tryd.underlying24 rfl infoVs ?_ | fail)
                  refine hh.mono ?_
                  clear hh
                  rintro e wF ⟨rfl, hb⟩
                  have HF : Hid (Ss w A B (.pointer (some ⟨gx, 0, none⟩)) (.pointer (some ⟨gy, 0, none⟩)) (.pointer (some ⟨gb, 0, none⟩)) (.pointer (some ⟨ga, 0, none⟩)) (.pointer (some ⟨gn, 0, none⟩)) wF ∧ Row wF k (verC v) 24) := ⟨Ss.next HE.out.1 hb, Row.below HE.out.2 hb (Row.lt HE.out.2)⟩
                  have hrF := HF.out.2
                  clear hb HE hrE
                  go_wp2
                  go_roundw
                  case rel => exact ⟨i + 1, by omega, by omega, by go_num, HF.out.1⟩
                  case measure => simp [intOf]; omega
                | false =>
                  go_wp2_with (first | refine wpList_load_mid rfl 24 _ rfl vg (vo + i * 6) rfl _ _ hrg Tryd.underlying24 rfl infoVs ?_ | refine wpList_store_new rfl 24 _ _ rfl wr zeroC (verC v) 24 rfl wr.heap.size rfl rfl rfl infoVs rfl (verC_one _) ?_)
                  obtain ⟨wA, hwA⟩ : ∃ y, y = wr.alloc (.cells (verC v) 24) := ⟨_, rfl⟩
                  rw [← hwA] at HSa hra
                  rw [← hwA]
                  obtain ⟨k, hk⟩ : ∃ k, k = wr.heap.size := ⟨_, rfl⟩
                  rw [← hk] at hra
                  rw [← hk]
                  clear hwA hk hrg
                  refine wp_region_quiet (C := fun wx => (Ss w A B (.pointer (some ⟨gx, 0, none⟩)) (.pointer (some ⟨gy, 0, none⟩)) (.pointer (some ⟨gb, 0, none⟩)) (.pointer (some ⟨ga, 0, none⟩)) (.pointer (some ⟨gn, 0, none⟩)) wx ∧ Row wx k (verC v) 24)) (by kernel_rfl) (by kernel_rfl) ⟨Ss.next HSa.out ((Below.refl _ _).drew), hra⟩ ?_
                  simp only []
                  refine q_value ?_ (by rfl) (fun w hw => ?_) ?_
                  rotate_left
                  · go_simp
                    with_reducible rfl
                  simp only [Act.put, List.setIfInBounds_toArray, List.set_cons_zero, List.set_cons_succ]
                  refine q_load 24 _ rfl (by rfl) k (verC v) 24 _ rfl (fun w h => h.2) Tryd.underlying24 rfl infoVs ?_
                  simp only [Act.put, List.setIfInBounds_toArray, List.set_cons_zero, List.set_cons_succ]
                  refine q_call (.bool true) (by rfl) 17 #[.pointer (some ⟨gx, 0, none⟩), verV v] (fun w h => by go_simp) (fun w h => (Gd.has h.1.x (by omega) h.1.t v true HHp.out).mono fun e w' ⟨he, hb⟩ => ⟨he, h.1.next hb, h.2.below hb h.2.lt⟩) ?_
                  simp only [Act.put, List.setIfInBounds_toArray, List.set_cons_zero, List.set_cons_succ]
                  refine q_value ?_ (by rfl) (fun w hw => ?_) ?_
                  rotate_left
                  · go_simp
                    with_reducible rfl
                  simp only [Act.put, List.setIfInBounds_toArray, List.set_cons_zero, List.set_cons_succ]
                  refine q_load 24 _ rfl (by rfl) k (verC v) 24 _ rfl (fun w h => h.2) Tryd.underlying24 rfl infoVs ?_
                  simp only [Act.put, List.setIfInBounds_toArray, List.set_cons_zero, List.set_cons_succ]
                  refine q_call (.bool true) (by rfl) 17 #[.pointer (some ⟨gy, 0, none⟩), verV v] (fun w h => by go_simp) (fun w h => (Gd.has h.1.y (by omega) h.1.t v true HHq.out).mono fun e w' ⟨he, hb⟩ => ⟨he, h.1.next hb, h.2.below hb h.2.lt⟩) ?_
                  simp only [Act.put, List.setIfInBounds_toArray, List.set_cons_zero, List.set_cons_succ]
                  refine q_value ?_ (by rfl) (fun w hw => ?_) ?_
                  rotate_left
                  · go_simp
                    with_reducible rfl
                  simp only [Act.put, List.setIfInBounds_toArray, List.set_cons_zero, List.set_cons_succ]
                  refine q_value ?_ (by rfl) (fun w hw => ?_) ?_
                  rotate_left
                  · go_simp
                    with_reducible rfl
                  simp only [Act.put, List.setIfInBounds_toArray, List.set_cons_zero, List.set_cons_succ]
                  refine wpQuiet_nil ?_
                  intro wB hB
                  simp only [Exit.then]
                  have HB : Hid _ := hB
                  have hrB := hB.2
                  clear hB HSa hra
                  have htx := text_ok v wB HB.out.1.t
                  rw [textE_no HHr.out] at htx
                  go_wp2_with (first | refine wpList_load_row rfl 24 _ rfl k rfl 24 (verC v) (0, 0) _ hrB Tryd.underlying24 rfl infoVs ?_ | fail)
                  refine htx.mono ?_
                  clear htx
                  rintro e wC ⟨rfl, hb⟩
                  have HC : Hid (Ss w A B (.pointer (some ⟨gx, 0, none⟩)) (.pointer (some ⟨gy, 0, none⟩)) (.pointer (some ⟨gb, 0, none⟩)) (.pointer (some ⟨ga, 0, none⟩)) (.pointer (some ⟨gn, 0, none⟩)) wC ∧ Row wC k (verC v) 24) := ⟨Ss.next HB.out.1 hb, Row.below HB.out.2 hb (Row.lt HB.out.2)⟩
                  have hrC := HC.out.2
                  clear hb HB hrB
                  have hh := Gd.has HC.out.1.b (by omega) HC.out.1.t v _ HH1.out
                  go_wp2_with (first | refine wpList_load_row rfl 24 _ rfl k rfl 24 (verC v) (0, 0) _ hrC Tryd.underlying24 rfl infoVs ?_ | fail)
                  refine hh.mono ?_
                  clear hh
                  rintro e wD ⟨rfl, hb⟩
                  have HD : Hid (Ss w A B (.pointer (some ⟨gx, 0, none⟩)) (.pointer (some ⟨gy, 0, none⟩)) (.pointer (some ⟨gb, 0, none⟩)) (.pointer (some ⟨ga, 0, none⟩)) (.pointer (some ⟨gn, 0, none⟩)) wD ∧ Row wD k (verC v) 24) := ⟨Ss.next HC.out.1 hb, Row.below HC.out.2 hb (Row.lt HC.out.2)⟩
                  have hrD := HD.out.2
                  clear hb HC hrC
                  have hh := Gd.has HD.out.1.a (by omega) HD.out.1.t v _ HH2.out
                  go_wp2_with (first | refine wpList_load_wanted (by rfl) 24 _ rfl k rfl 24 (verC v) _ hrD Tryd.underlying24 rfl infoVs ?_ | fail)
                  refine hh.mono ?_
                  clear hh
                  rintro e wE ⟨rfl, hb⟩
                  have HE : Hid (Ss w A B (.pointer (some ⟨gx, 0, none⟩)) (.pointer (some ⟨gy, 0, none⟩)) (.pointer (some ⟨gb, 0, none⟩)) (.pointer (some ⟨ga, 0, none⟩)) (.pointer (some ⟨gn, 0, none⟩)) wE ∧ Row wE k (verC v) 24) := ⟨Ss.next HD.out.1 hb, Row.below HD.out.2 hb (Row.lt HD.out.2)⟩
                  have hrE := HE.out.2
                  clear hb HD hrD
                  have hh := Gd.has HE.out.1.n (by omega) HE.out.1.t v _ HH3.out
                  go_wp2_with (first | refine wpList_load_wanted (by rfl) 24 _ rfl k rfl 24 (verC v) _ hrE Tryd.underlying24 rfl infoVs ?_ | fail)
                  refine hh.mono ?_
                  clear hh
                  rintro e wF ⟨rfl, hb⟩
                  have HF : Hid (Ss w A B (.pointer (some ⟨gx, 0, none⟩)) (.pointer (some ⟨gy, 0, none⟩)) (.pointer (some ⟨gb, 0, none⟩)) (.pointer (some ⟨ga, 0, none⟩)) (.pointer (some ⟨gn, 0, none⟩)) wF ∧ Row wF k (verC v) 24) := ⟨Ss.next HE.out.1 hb, Row.below HE.out.2 hb (Row.lt HE.out.2)⟩
                  have hrF := HF.out.2
                  clear hb HE hrE
                  go_wp2
                  go_roundw
                  case rel => exact ⟨i + 1, by omega, by omega, by go_num, HF.out.1⟩
                  case measure => simp [intOf]; omega
              | false => cases r with
                | true =>
                  go_wp2_with (first | refine wpList_load_mid rfl 24 _ rfl vg (vo + i * 6) rfl _ _ hrg Tryd.underlying24 rfl infoVs ?_ | refine wpList_store_new rfl 24 _ _ rfl wr zeroC (verC v) 24 rfl wr.heap.size rfl rfl rfl infoVs rfl (verC_one _) ?_)
                  obtain ⟨wA, hwA⟩ : ∃ y, y = wr.alloc (.cells (verC v) 24) := ⟨_, rfl⟩
                  rw [← hwA] at HSa hra
                  rw [← hwA]
                  obtain ⟨k, hk⟩ : ∃ k, k = wr.heap.size := ⟨_, rfl⟩
                  rw [← hk] at hra
                  rw [← hk]
                  clear hwA hk hrg
                  refine wp_region_quiet (C := fun wx => (Ss w A B (.pointer (some ⟨gx, 0, none⟩)) (.pointer (some ⟨gy, 0, none⟩)) (.pointer (some ⟨gb, 0, none⟩)) (.pointer (some ⟨ga, 0, none⟩)) (.pointer (some ⟨gn, 0, none⟩)) wx ∧ Row wx k (verC v) 24)) (by kernel_rfl) (by kernel_rfl) ⟨Ss.next HSa.out ((Below.refl _ _).drew), hra⟩ ?_
                  simp only []
                  refine q_value ?_ (by rfl) (fun w hw => ?_) ?_
                  rotate_left
                  · go_simp
                    with_reducible rfl
                  simp only [Act.put, List.setIfInBounds_toArray, List.set_cons_zero, List.set_cons_succ]
                  refine q_load 24 _ rfl (by rfl) k (verC v) 24 _ rfl (fun w h => h.2) Tryd.underlying24 rfl infoVs ?_
                  simp only [Act.put, List.setIfInBounds_toArray, List.set_cons_zero, List.set_cons_succ]
                  refine q_call (.bool true) (by rfl) 17 #[.pointer (some ⟨gx, 0, none⟩), verV v] (fun w h => by go_simp) (fun w h => (Gd.has h.1.x (by omega) h.1.t v true HHp.out).mono fun e w' ⟨he, hb⟩ => ⟨he, h.1.next hb, h.2.below hb h.2.lt⟩) ?_
                  simp only [Act.put, List.setIfInBounds_toArray, List.set_cons_zero, List.set_cons_succ]
                  refine q_value ?_ (by rfl) (fun w hw => ?_) ?_
                  rotate_left
                  · go_simp
                    with_reducible rfl
                  simp only [Act.put, List.setIfInBounds_toArray, List.set_cons_zero, List.set_cons_succ]
                  refine q_load 24 _ rfl (by rfl) k (verC v) 24 _ rfl (fun w h => h.2) Tryd.underlying24 rfl infoVs ?_
                  simp only [Act.put, List.setIfInBounds_toArray, List.set_cons_zero, List.set_cons_succ]
                  refine q_call (.bool false) (by rfl) 17 #[.pointer (some ⟨gy, 0, none⟩), verV v] (fun w h => by go_simp) (fun w h => (Gd.has h.1.y (by omega) h.1.t v false HHq.out).mono fun e w' ⟨he, hb⟩ => ⟨he, h.1.next hb, h.2.below hb h.2.lt⟩) ?_
                  simp only [Act.put, List.setIfInBounds_toArray, List.set_cons_zero, List.set_cons_succ]
                  refine q_value ?_ (by rfl) (fun w hw => ?_) ?_
                  rotate_left
                  · go_simp
                    with_reducible rfl
                  simp only [Act.put, List.setIfInBounds_toArray, List.set_cons_zero, List.set_cons_succ]
                  refine q_value ?_ (by rfl) (fun w hw => ?_) ?_
                  rotate_left
                  · go_simp
                    with_reducible rfl
                  simp only [Act.put, List.setIfInBounds_toArray, List.set_cons_zero, List.set_cons_succ]
                  refine wpQuiet_nil ?_
                  intro wB hB
                  simp only [Exit.then]
                  have HB : Hid _ := hB
                  have hrB := hB.2
                  clear hB HSa hra
                  have htx := text_ok v wB HB.out.1.t
                  rw [textE_yes HHr.out] at htx
                  go_wp2_with (first | refine wpList_load_row rfl 24 _ rfl k rfl 24 (verC v) (0, 0) _ hrB Tryd.underlying24 rfl infoVs ?_ | fail)
                  refine htx.mono ?_
                  clear htx
                  rintro e wC ⟨rfl, hb⟩
                  have HC : Hid (Ss w A B (.pointer (some ⟨gx, 0, none⟩)) (.pointer (some ⟨gy, 0, none⟩)) (.pointer (some ⟨gb, 0, none⟩)) (.pointer (some ⟨ga, 0, none⟩)) (.pointer (some ⟨gn, 0, none⟩)) wC ∧ Row wC k (verC v) 24) := ⟨Ss.next HB.out.1 hb, Row.below HB.out.2 hb (Row.lt HB.out.2)⟩
                  have hrC := HC.out.2
                  clear hb HB hrB
                  have hh := Gd.has HC.out.1.b (by omega) HC.out.1.t v _ HH1.out
                  go_wp2_with (first | refine wpList_load_row rfl 24 _ rfl k rfl 24 (verC v) (0, 0) _ hrC Tryd.underlying24 rfl infoVs ?_ | fail)
                  refine hh.mono ?_
                  clear hh
                  rintro e wD ⟨rfl, hb⟩
                  have HD : Hid (Ss w A B (.pointer (some ⟨gx, 0, none⟩)) (.pointer (some ⟨gy, 0, none⟩)) (.pointer (some ⟨gb, 0, none⟩)) (.pointer (some ⟨ga, 0, none⟩)) (.pointer (some ⟨gn, 0, none⟩)) wD ∧ Row wD k (verC v) 24) := ⟨Ss.next HC.out.1 hb, Row.below HC.out.2 hb (Row.lt HC.out.2)⟩
                  have hrD := HD.out.2
                  clear hb HC hrC
                  have hh := Gd.has HD.out.1.a (by omega) HD.out.1.t v _ HH2.out
                  go_wp2_with (first | refine wpList_load_wanted (by rfl) 24 _ rfl k rfl 24 (verC v) _ hrD Tryd.underlying24 rfl infoVs ?_ | fail)
                  refine hh.mono ?_
                  clear hh
                  rintro e wE ⟨rfl, hb⟩
                  have HE : Hid (Ss w A B (.pointer (some ⟨gx, 0, none⟩)) (.pointer (some ⟨gy, 0, none⟩)) (.pointer (some ⟨gb, 0, none⟩)) (.pointer (some ⟨ga, 0, none⟩)) (.pointer (some ⟨gn, 0, none⟩)) wE ∧ Row wE k (verC v) 24) := ⟨Ss.next HD.out.1 hb, Row.below HD.out.2 hb (Row.lt HD.out.2)⟩
                  have hrE := HE.out.2
                  clear hb HD hrD
                  have hh := Gd.has HE.out.1.n (by omega) HE.out.1.t v _ HH3.out
                  go_wp2_with (first | refine wpList_load_wanted (by rfl) 24 _ rfl k rfl 24 (verC v) _ hrE Tryd.underlying24 rfl infoVs ?_ | fail)
                  refine hh.mono ?_
                  clear hh
                  rintro e wF ⟨rfl, hb⟩
                  have HF : Hid (Ss w A B (.pointer (some ⟨gx, 0, none⟩)) (.pointer (some ⟨gy, 0, none⟩)) (.pointer (some ⟨gb, 0, none⟩)) (.pointer (some ⟨ga, 0, none⟩)) (.pointer (some ⟨gn, 0, none⟩)) wF ∧ Row wF k (verC v) 24) := ⟨Ss.next HE.out.1 hb, Row.below HE.out.2 hb (Row.lt HE.out.2)⟩
                  have hrF := HF.out.2
                  clear hb HE hrE
                  go_wp2
                  go_roundw
                  case rel => exact ⟨i + 1, by omega, by omega, by go_num, HF.out.1⟩
                  case measure => simp [intOf]; omega
                | false =>
                  go_wp2_with (first | refine wpList_load_mid rfl 24 _ rfl vg (vo + i * 6) rfl _ _ hrg Tryd.underlying24 rfl infoVs ?_ | refine wpList_store_new rfl 24 _ _ rfl wr zeroC (verC v) 24 rfl wr.heap.size rfl rfl rfl infoVs rfl (verC_one _) ?_)
                  obtain ⟨wA, hwA⟩ : ∃ y, y = wr.alloc (.cells (verC v) 24) := ⟨_, rfl⟩
                  rw [← hwA] at HSa hra
                  rw [← hwA]
                  obtain ⟨k, hk⟩ : ∃ k, k = wr.heap.size := ⟨_, rfl⟩
                  rw [← hk] at hra
                  rw [← hk]
                  clear hwA hk hrg
                  refine wp_region_quiet (C := fun wx => (Ss w A B (.pointer (some ⟨gx, 0, none⟩)) (.pointer (some ⟨gy, 0, none⟩)) (.pointer (some ⟨gb, 0, none⟩)) (.pointer (some ⟨ga, 0, none⟩)) (.pointer (some ⟨gn, 0, none⟩)) wx ∧ Row wx k (verC v) 24)) (by kernel_rfl) (by kernel_rfl) ⟨Ss.next HSa.out ((Below.refl _ _).drew), hra⟩ ?_
                  simp only []
                  refine q_value ?_ (by rfl) (fun w hw => ?_) ?_
                  rotate_left
                  · go_simp
                    with_reducible rfl
                  simp only [Act.put, List.setIfInBounds_toArray, List.set_cons_zero, List.set_cons_succ]
                  refine q_load 24 _ rfl (by rfl) k (verC v) 24 _ rfl (fun w h => h.2) Tryd.underlying24 rfl infoVs ?_
                  simp only [Act.put, List.setIfInBounds_toArray, List.set_cons_zero, List.set_cons_succ]
                  refine q_call (.bool true) (by rfl) 17 #[.pointer (some ⟨gx, 0, none⟩), verV v] (fun w h => by go_simp) (fun w h => (Gd.has h.1.x (by omega) h.1.t v true HHp.out).mono fun e w' ⟨he, hb⟩ => ⟨he, h.1.next hb, h.2.below hb h.2.lt⟩) ?_
                  simp only [Act.put, List.setIfInBounds_toArray, List.set_cons_zero, List.set_cons_succ]
                  refine q_value ?_ (by rfl) (fun w hw => ?_) ?_
                  rotate_left
                  · go_simp
                    with_reducible rfl
                  simp only [Act.put, List.setIfInBounds_toArray, List.set_cons_zero, List.set_cons_succ]
                  refine q_load 24 _ rfl (by rfl) k (verC v) 24 _ rfl (fun w h => h.2) Tryd.underlying24 rfl infoVs ?_
                  simp only [Act.put, List.setIfInBounds_toArray, List.set_cons_zero, List.set_cons_succ]
                  refine q_call (.bool false) (by rfl) 17 #[.pointer (some ⟨gy, 0, none⟩), verV v] (fun w h => by go_simp) (fun w h => (Gd.has h.1.y (by omega) h.1.t v false HHq.out).mono fun e w' ⟨he, hb⟩ => ⟨he, h.1.next hb, h.2.below hb h.2.lt⟩) ?_
                  simp only [Act.put, List.setIfInBounds_toArray, List.set_cons_zero, List.set_cons_succ]
                  refine q_value ?_ (by rfl) (fun w hw => ?_) ?_
                  rotate_left
                  · go_simp
                    with_reducible rfl
                  simp only [Act.put, List.setIfInBounds_toArray, List.set_cons_zero, List.set_cons_succ]
                  refine q_value ?_ (by rfl) (fun w hw => ?_) ?_
                  rotate_left
                  · go_simp
                    with_reducible rfl
                  simp only [Act.put, List.setIfInBounds_toArray, List.set_cons_zero, List.set_cons_succ]
                  refine wpQuiet_nil ?_
                  intro wB hB
                  simp only [Exit.then]
                  have HB : Hid _ := hB
                  have hrB := hB.2
                  clear hB HSa hra
                  have htx := text_ok v wB HB.out.1.t
                  rw [textE_no HHr.out] at htx
                  go_wp2_with (first | refine wpList_load_row rfl 24 _ rfl k rfl 24 (verC v) (0, 0) _ hrB Tryd.underlying24 rfl infoVs ?_ | fail)
                  refine htx.mono ?_
                  clear htx
                  rintro e wC ⟨rfl, hb⟩
                  have HC : Hid (Ss w A B (.pointer (some ⟨gx, 0, none⟩)) (.pointer (some ⟨gy, 0, none⟩)) (.pointer (some ⟨gb, 0, none⟩)) (.pointer (some ⟨ga, 0, none⟩)) (.pointer (some ⟨gn, 0, none⟩)) wC ∧ Row wC k (verC v) 24) := ⟨Ss.next HB.out.1 hb, Row.below HB.out.2 hb (Row.lt HB.out.2)⟩
                  have hrC := HC.out.2
                  clear hb HB hrB
                  have hh := Gd.has HC.out.1.b (by omega) HC.out.1.t v _ HH1.out
                  go_wp2_with (first | refine wpList_load_row rfl 24 _ rfl k rfl 24 (verC v) (0, 0) _ hrC Tryd.underlying24 rfl infoVs ?_ | fail)
                  refine hh.mono ?_
                  clear hh
                  rintro e wD ⟨rfl, hb⟩
                  have HD : Hid (Ss w A B (.pointer (some ⟨gx, 0, none⟩)) (.pointer (some ⟨gy, 0, none⟩)) (.pointer (some ⟨gb, 0, none⟩)) (.pointer (some ⟨ga, 0, none⟩)) (.pointer (some ⟨gn, 0, none⟩)) wD ∧ Row wD k (verC v) 24) := ⟨Ss.next HC.out.1 hb, Row.below HC.out.2 hb (Row.lt HC.out.2)⟩
                  have hrD := HD.out.2
                  clear hb HC hrC
                  have hh := Gd.has HD.out.1.a (by omega) HD.out.1.t v _ HH2.out
                  go_wp2_with (first | refine wpList_load_wanted (by rfl) 24 _ rfl k rfl 24 (verC v) _ hrD Tryd.underlying24 rfl infoVs ?_ | fail)
                  refine hh.mono ?_
                  clear hh
                  rintro e wE ⟨rfl, hb⟩
                  have HE : Hid (Ss w A B (.pointer (some ⟨gx, 0, none⟩)) (.pointer (some ⟨gy, 0, none⟩)) (.pointer (some ⟨gb, 0, none⟩)) (.pointer (some ⟨ga, 0, none⟩)) (.pointer (some ⟨gn, 0, none⟩)) wE ∧ Row wE k (verC v) 24) := ⟨Ss.next HD.out.1 hb, Row.below HD.out.2 hb (Row.lt HD.out.2)⟩
                  have hrE := HE.out.2
                  clear hb HD hrD
                  have hh := Gd.has HE.out.1.n (by omega) HE.out.1.t v _ HH3.out
                  go_wp2_with (first | refine wpList_load_wanted (by rfl) 24 _ rfl k rfl 24 (verC v) _ hrE Tryd.underlying24 rfl infoVs ?_ | fail)
                  refine hh.mono ?_
                  clear hh
                  rintro e wF ⟨rfl, hb⟩
                  have HF : Hid (Ss w A B (.pointer (some ⟨gx, 0, none⟩)) (.pointer (some ⟨gy, 0, none⟩)) (.pointer (some ⟨gb, 0, none⟩)) (.pointer (some ⟨ga, 0, none⟩)) (.pointer (some ⟨gn, 0, none⟩)) wF ∧ Row wF k (verC v) 24) := ⟨Ss.next HE.out.1 hb, Row.below HE.out.2 hb (Row.lt HE.out.2)⟩
                  have hrF := HF.out.2
                  clear hb HE hrE
                  go_wp2
                  go_roundw
                  case rel => exact ⟨i + 1, by omega, by omega, by go_num, HF.out.1⟩
                  case measure => simp [intOf]; omega
            | false => cases q with
              | true => cases r with
                | true =>
                  go_wp2_with (first | refine wpList_load_mid rfl 24 _ rfl vg (vo + i * 6) rfl _ _ hrg Tryd.underlying24 rfl infoVs ?_ | refine wpList_store_new rfl 24 _ _ rfl wr zeroC (verC v) 24 rfl wr.heap.size rfl rfl rfl infoVs rfl (verC_one _) ?_)
                  obtain ⟨wA, hwA⟩ : ∃ y, y = wr.alloc (.cells (verC v) 24) := ⟨_, rfl⟩
                  rw [← hwA] at HSa hra
                  rw [← hwA]
                  obtain ⟨k, hk⟩ : ∃ k, k = wr.heap.size := ⟨_, rfl⟩
                  rw [← hk] at hra
                  rw [← hk]
                  clear hwA hk hrg
                  refine wp_region_quiet (C := fun wx => (Ss w A B (.pointer (some ⟨gx, 0, none⟩)) (.pointer (some ⟨gy, 0, none⟩)) (.pointer (some ⟨gb, 0, none⟩)) (.pointer (some ⟨ga, 0, none⟩)) (.pointer (some ⟨gn, 0, none⟩)) wx ∧ Row wx k (verC v) 24)) (by kernel_rfl) (by kernel_rfl) ⟨Ss.next HSa.out ((Below.refl _ _).drew), hra⟩ ?_
                  simp only []
                  refine q_value ?_ (by rfl) (fun w hw => ?_) ?_
                  rotate_left
                  · go_simp
                    with_reducible rfl
                  simp only [Act.put, List.setIfInBounds_toArray, List.set_cons_zero, List.set_cons_succ]
                  refine q_load 24 _ rfl (by rfl) k (verC v) 24 _ rfl (fun w h => h.2) Tryd.underlying24 rfl infoVs ?_
                  simp only [Act.put, List.setIfInBounds_toArray, List.set_cons_zero, List.set_cons_succ]
                  refine q_call (.bool false) (by rfl) 17 #[.pointer (some ⟨gx, 0, none⟩), verV v] (fun w h => by go_simp) (fun w h => (Gd.has h.1.x (by omega) h.1.t v false HHp.out).mono fun e w' ⟨he, hb⟩ => ⟨he, h.1.next hb, h.2.below hb h.2.lt⟩) ?_
                  simp only [Act.put, List.setIfInBounds_toArray, List.set_cons_zero, List.set_cons_succ]
                  refine q_value ?_ (by rfl) (fun w hw => ?_) ?_
                  rotate_left
                  · go_simp
                    with_reducible rfl
                  simp only [Act.put, List.setIfInBounds_toArray, List.set_cons_zero, List.set_cons_succ]
                  refine q_load 24 _ rfl (by rfl) k (verC v) 24 _ rfl (fun w h => h.2) Tryd.underlying24 rfl infoVs ?_
                  simp only [Act.put, List.setIfInBounds_toArray, List.set_cons_zero, List.set_cons_succ]
                  refine q_call (.bool true) (by rfl) 17 #[.pointer (some ⟨gy, 0, none⟩), verV v] (fun w h => by go_simp) (fun w h => (Gd.has h.1.y (by omega) h.1.t v true HHq.out).mono fun e w' ⟨he, hb⟩ => ⟨he, h.1.next hb, h.2.below hb h.2.lt⟩) ?_
                  simp only [Act.put, List.setIfInBounds_toArray, List.set_cons_zero, List.set_cons_succ]
                  refine q_value ?_ (by rfl) (fun w hw => ?_) ?_
                  rotate_left
                  · go_simp
                    with_reducible rfl
                  simp only [Act.put, List.setIfInBounds_toArray, List.set_cons_zero, List.set_cons_succ]
                  refine q_value ?_ (by rfl) (fun w hw => ?_) ?_
                  rotate_left
                  · go_simp
                    with_reducible rfl
                  simp only [Act.put, List.setIfInBounds_toArray, List.set_cons_zero, List.set_cons_succ]
                  refine wpQuiet_nil ?_
                  intro wB hB
                  simp only [Exit.then]
                  have HB : Hid _ := hB
                  have hrB := hB.2
                  clear hB HSa hra
                  have htx := text_ok v wB HB.out.1.t
                  rw [textE_yes HHr.out] at htx
                  go_wp2_with (first | refine wpList_load_row rfl 24 _ rfl k rfl 24 (verC v) (0, 0) _ hrB Tryd.underlying24 rfl infoVs ?_ | fail)
                  refine htx.mono ?_
                  clear htx
                  rintro e wC ⟨rfl, hb⟩
                  have HC : Hid (Ss w A B (.pointer (some ⟨gx, 0, none⟩)) (.pointer (some ⟨gy, 0, none⟩)) (.pointer (some ⟨gb, 0, none⟩)) (.pointer (some ⟨ga, 0, none⟩)) (.pointer (some ⟨gn, 0, none⟩)) wC ∧ Row wC k (verC v) 24) := ⟨Ss.next HB.out.1 hb, Row.below HB.out.2 hb (Row.lt HB.out.2)⟩
                  have hrC := HC.out.2
                  clear hb HB hrB
                  have hh := Gd.has HC.out.1.b (by omega) HC.out.1.t v _ HH1.out
                  go_wp2_with (first | refine wpList_load_row rfl 24 _ rfl k rfl 24 (verC v) (0, 0) _ hrC Tryd.underlying24 rfl infoVs ?_ | fail)
                  refine hh.mono ?_
                  clear hh
                  rintro e wD ⟨rfl, hb⟩
                  have HD : Hid (Ss w A B (.pointer (some ⟨gx, 0, none⟩)) (.pointer (some ⟨gy, 0, none⟩)) (.pointer (some ⟨gb, 0, none⟩)) (.pointer (some ⟨ga, 0, none⟩)) (.pointer (some ⟨gn, 0, none⟩)) wD ∧ Row wD k (verC v) 24) := ⟨Ss.next HC.out.1 hb, Row.below HC.out.2 hb (Row.lt HC.out.2)⟩
                  have hrD := HD.out.2
                  clear hb HC hrC
                  have hh := Gd.has HD.out.1.a (by omega) HD.out.1.t v _ HH2.out
                  go_wp2_with (first | refine wpList_load_wanted (by rfl) 24 _ rfl k rfl 24 (verC v) _ hrD Tryd.underlying24 rfl infoVs ?_ | fail)
                  refine hh.mono ?_
                  clear hh
                  rintro e wE ⟨rfl, hb⟩
                  have HE : Hid (Ss w A B (.pointer (some ⟨gx, 0, none⟩)) (.pointer (some ⟨gy, 0, none⟩)) (.pointer (some ⟨gb, 0, none⟩)) (.pointer (some ⟨ga, 0, none⟩)) (.pointer (some ⟨gn, 0, none⟩)) wE ∧ Row wE k (verC v) 24) := ⟨Ss.next HD.out.1 hb, Row.below HD.out.2 hb (Row.lt HD.out.2)⟩
                  have hrE := HE.out.2
                  clear hb HD hrD
                  have hh := Gd.has HE.out.1.n (by omega) HE.out.1.t v _ HH3.out
                  go_wp2_with (first | refine wpList_load_wanted (by rfl) 24 _ rfl k rfl 24 (verC v) _ hrE Tryd.underlying24 rfl infoVs ?_ | fail)
                  refine hh.mono ?_
                  clear hh
                  rintro e wF ⟨rfl, hb⟩
                  have HF : Hid (Ss w A B (.pointer (some ⟨gx, 0, none⟩)) (.pointer (some ⟨gy, 0, none⟩)) (.pointer (some ⟨gb, 0, none⟩)) (.pointer (some ⟨ga, 0, none⟩)) (.pointer (some ⟨gn, 0, none⟩)) wF ∧ Row wF k (verC v) 24) := ⟨Ss.next HE.out.1 hb, Row.below HE.out.2 hb (Row.lt HE.out.2)⟩
                  have hrF := HF.out.2
                  clear hb HE hrE
                  go_wp2
                  go_roundw
                  case rel => exact ⟨i + 1, by omega, by omega, by go_num, HF.out.1⟩
                  case measure => simp [intOf]; omega
                | false =>
                  go_wp2_with (first | refine wpList_load_mid rfl 24 _ rfl vg (vo + i * 6) rfl _ _ hrg Tryd.underlying24 rfl infoVs ?_ | refine wpList_store_new rfl 24 _ _ rfl wr zeroC (verC v) 24 rfl wr.heap.size rfl rfl rfl infoVs rfl (verC_one _) ?_)
                  obtain ⟨wA, hwA⟩ : ∃ y, y = wr.alloc (.cells (verC v) 24) := ⟨_, rfl⟩
                  rw [← hwA] at HSa hra
                  rw [← hwA]
                  obtain ⟨k, hk⟩ : ∃ k, k = wr.heap.size := ⟨_, rfl⟩
                  rw [← hk] at hra
                  rw [← hk]
                  clear hwA hk hrg
                  refine wp_region_quiet (C := fun wx => (Ss w A B (.pointer (some ⟨gx, 0, none⟩)) (.pointer (some ⟨gy, 0, none⟩)) (.pointer (some ⟨gb, 0, none⟩)) (.pointer (some ⟨ga, 0, none⟩)) (.pointer (some ⟨gn, 0, none⟩)) wx ∧ Row wx k (verC v) 24)) (by kernel_rfl) (by kernel_rfl) ⟨Ss.next HSa.out ((Below.refl _ _).drew), hra⟩ ?_
                  simp only []
                  refine q_value ?_ (by rfl) (fun w hw => ?_) ?_
                  rotate_left
                  · go_simp
                    with_reducible rfl
                  simp only [Act.put, List.setIfInBounds_toArray, List.set_cons_zero, List.set_cons_succ]
                  refine q_load 24 _ rfl (by rfl) k (verC v) 24 _ rfl (fun w h => h.2) Tryd.underlying24 rfl infoVs ?_
                  simp only [Act.put, List.setIfInBounds_toArray, List.set_cons_zero, List.set_cons_succ]
                  refine q_call (.bool false) (by rfl) 17 #[.pointer (some ⟨gx, 0, none⟩), verV v] (fun w h => by go_simp) (fun w h => (Gd.has h.1.x (by omega) h.1.t v false HHp.out).mono fun e w' ⟨he, hb⟩ => ⟨he, h.1.next hb, h.2.below hb h.2.lt⟩) ?_
                  simp only [Act.put, List.setIfInBounds_toArray, List.set_cons_zero, List.set_cons_succ]
                  refine q_value ?_ (by rfl) (fun w hw => ?_) ?_
                  rotate_left
                  · go_simp
                    with_reducible rfl
                  simp only [Act.put, List.setIfInBounds_toArray, List.set_cons_zero, List.set_cons_succ]
                  refine q_load 24 _ rfl (by rfl) k (verC v) 24 _ rfl (fun w h => h.2) Tryd.underlying24 rfl infoVs ?_
                  simp only [Act.put, List.setIfInBounds_toArray, List.set_cons_zero, List.set_cons_succ]
                  refine q_call (.bool true) (by rfl) 17 #[.pointer (some ⟨gy, 0, none⟩), verV v] (fun w h => by go_simp) (fun w h => (Gd.has h.1.y (by omega) h.1.t v true HHq.out).mono fun e w' ⟨he, hb⟩ => ⟨he, h.1.next hb, h.2.below hb h.2.lt⟩) ?_
                  simp only [Act.put, List.setIfInBounds_toArray, List.set_cons_zero, List.set_cons_succ]
                  refine q_value ?_ (by rfl) (fun w hw => ?_) ?_
                  rotate_left
                  · go_simp
                    with_reducible rfl
                  simp only [Act.put, List.setIfInBounds_toArray, List.set_cons_zero, List.set_cons_succ]
                  refine q_value ?_ (by rfl) (fun w hw => ?_) ?_
                  rotate_left
                  · go_simp
                    with_reducible rfl
                  simp only [Act.put, List.setIfInBounds_toArray, List.set_cons_zero, List.set_cons_succ]
                  refine wpQuiet_nil ?_
                  intro wB hB
                  simp only [Exit.then]
                  have HB : Hid _ := hB
                  have hrB := hB.2
                  clear hB HSa hra
                  have htx := text_ok v wB HB.out.1.t
                  rw [textE_no HHr.out] at htx
                  go_wp2_with (first | refine wpList_load_row rfl 24 _ rfl k rfl 24 (verC v) (0, 0) _ hrB Tryd.underlying24 rfl infoVs ?_ | fail)
                  refine htx.mono ?_
                  clear htx
                  rintro e wC ⟨rfl, hb⟩
                  have HC : Hid (Ss w A B (.pointer (some ⟨gx, 0, none⟩)) (.pointer (some ⟨gy, 0, none⟩)) (.pointer (some ⟨gb, 0, none⟩)) (.pointer (some ⟨ga, 0, none⟩)) (.pointer (some ⟨gn, 0, none⟩)) wC ∧ Row wC k (verC v) 24) := ⟨Ss.next HB.out.1 hb, Row.below HB.out.2 hb (Row.lt HB.out.2)⟩
                  have hrC := HC.out.2
                  clear hb HB hrB
                  have hh := Gd.has HC.out.1.b (by omega) HC.out.1.t v _ HH1.out
                  go_wp2_with (first | refine wpList_load_row rfl 24 _ rfl k rfl 24 (verC v) (0, 0) _ hrC Tryd.underlying24 rfl infoVs ?_ | fail)
                  refine hh.mono ?_
                  clear hh
                  rintro e wD ⟨rfl, hb⟩
                  have HD : Hid (Ss w A B (.pointer (some ⟨gx, 0, none⟩)) (.pointer (some ⟨gy, 0, none⟩)) (.pointer (some ⟨gb, 0, none⟩)) (.pointer (some ⟨ga, 0, none⟩)) (.pointer (some ⟨gn, 0, none⟩)) wD ∧ Row wD k (verC v) 24) := ⟨Ss.next HC.out.1 hb, Row.below HC.out.2 hb (Row.lt HC.out.2)⟩
                  have hrD := HD.out.2
                  clear hb HC hrC
                  have hh := Gd.has HD.out.1.a (by omega) HD.out.1.t v _ HH2.out
                  go_wp2_with (first | refine wpList_load_wanted (by rfl) 24 _ rfl k rfl 24 (verC v) _ hrD Tryd.underlying24 rfl infoVs ?_ | fail)
                  refine hh.mono ?_
                  clear hh
                  rintro e wE ⟨rfl, hb⟩
                  have HE : Hid (Ss w A B (.pointer (some ⟨gx, 0, none⟩)) (.pointer (some ⟨gy, 0, none⟩)) (.pointer (some ⟨gb, 0, none⟩)) (.pointer (some ⟨ga, 0, none⟩)) (.pointer (some ⟨gn, 0, none⟩)) wE ∧ Row wE k (verC v) 24) := ⟨Ss.next HD.out.1 hb, Row.below HD.out.2 hb (Row.lt HD.out.2)⟩
                  have hrE := HE.out.2
                  clear hb HD hrD
                  have hh := Gd.has HE.out.1.n (by omega) HE.out.1.t v _ HH3.out
                  go_wp2_with (first | refine wpList_load_wanted (by rfl) 24 _ rfl k rfl 24 (verC v) _ hrE Tryd.underlying24 rfl infoVs ?_ | fail)
                  refine hh.mono ?_
                  clear hh
                  rintro e wF ⟨rfl, hb⟩
                  have HF : Hid (Ss w A B (.pointer (some ⟨gx, 0, none⟩)) (.pointer (some ⟨gy, 0, none⟩)) (.pointer (some ⟨gb, 0, none⟩)) (.pointer (some ⟨ga, 0, none⟩)) (.pointer (some ⟨gn, 0, none⟩)) wF ∧ Row wF k (verC v) 24) := ⟨Ss.next HE.out.1 hb, Row.below HE.out.2 hb (Row.lt HE.out.2)⟩
                  have hrF := HF.out.2
                  clear hb HE hrE
                  go_wp2
                  go_roundw
                  case rel => exact ⟨i + 1, by omega, by omega, by go_num, HF.out.1⟩
                  case measure => simp [intOf]; omega
              | false => cases r with
                | true =>
                  go_wp2_with (first | refine wpList_load_mid rfl 24 _ rfl vg (vo + i * 6) rfl _ _ hrg Tryd.underlying24 rfl infoVs ?_ | refine wpList_store_new rfl 24 _ _ rfl wr zeroC (verC v) 24 rfl wr.heap.size rfl rfl rfl infoVs rfl (verC_one _) ?_)
                  obtain ⟨wA, hwA⟩ : ∃ y, y = wr.alloc (.cells (verC v) 24) := ⟨_, rfl⟩
                  rw [← hwA] at HSa hra
                  rw [← hwA]
                  obtain ⟨k, hk⟩ : ∃ k, k = wr.heap.size := ⟨_, rfl⟩
                  rw [← hk] at hra
                  rw [← hk]
                  clear hwA hk hrg
                  refine wp_region_quiet (C := fun wx => (Ss w A B (.pointer (some ⟨gx, 0, none⟩)) (.pointer (some ⟨gy, 0, none⟩)) (.pointer (some ⟨gb, 0, none⟩)) (.pointer (some ⟨ga, 0, none⟩)) (.pointer (some ⟨gn, 0, none⟩)) wx ∧ Row wx k (verC v) 24)) (by kernel_rfl) (by kernel_rfl) ⟨Ss.next HSa.out ((Below.refl _ _).drew), hra⟩ ?_
                  simp only []
                  refine q_value ?_ (by rfl) (fun w hw => ?_) ?_
                  rotate_left
                  · go_simp
                    with_reducible rfl
                  simp only [Act.put, List.setIfInBounds_toArray, List.set_cons_zero, List.set_cons_succ]
                  refine q_load 24 _ rfl (by rfl) k (verC v) 24 _ rfl (fun w h => h.2) Tryd.underlying24 rfl infoVs ?_
                  simp only [Act.put, List.setIfInBounds_toArray, List.set_cons_zero, List.set_cons_succ]
                  refine q_call (.bool false) (by rfl) 17 #[.pointer (some ⟨gx, 0, none⟩), verV v] (fun w h => by go_simp) (fun w h => (Gd.has h.1.x (by omega) h.1.t v false HHp.out).mono fun e w' ⟨he, hb⟩ => ⟨he, h.1.next hb, h.2.below hb h.2.lt⟩) ?_
                  simp only [Act.put, List.setIfInBounds_toArray, List.set_cons_zero, List.set_cons_succ]
                  refine q_value ?_ (by rfl) (fun w hw => ?_) ?_
                  rotate_left
                  · go_simp
                    with_reducible rfl
                  simp only [Act.put, List.setIfInBounds_toArray, List.set_cons_zero, List.set_cons_succ]
                  refine q_load 24 _ rfl (by rfl) k (verC v) 24 _ rfl (fun w h => h.2) Tryd.underlying24 rfl infoVs ?_
                  simp only [Act.put, List.setIfInBounds_toArray, List.set_cons_zero, List.set_cons_succ]
                  refine q_call (.bool false) (by rfl) 17 #[.pointer (some ⟨gy, 0, none⟩), verV v] (fun w h => by go_simp) (fun w h => (Gd.has h.1.y (by omega) h.1.t v false HHq.out).mono fun e w' ⟨he, hb⟩ => ⟨he, h.1.next hb, h.2.below hb h.2.lt⟩) ?_
                  simp only [Act.put, List.setIfInBounds_toArray, List.set_cons_zero, List.set_cons_succ]
                  refine q_value ?_ (by rfl) (fun w hw => ?_) ?_
                  rotate_left
                  · go_simp
                    with_reducible rfl
                  simp only [Act.put, List.setIfInBounds_toArray, List.set_cons_zero, List.set_cons_succ]
                  refine q_value ?_ (by rfl) (fun w hw => ?_) ?_
                  rotate_left
                  · go_simp
                    with_reducible rfl
                  simp only [Act.put, List.setIfInBounds_toArray, List.set_cons_zero, List.set_cons_succ]
                  refine wpQuiet_nil ?_
                  intro wB hB
                  simp only [Exit.then]
                  have HB : Hid _ := hB
                  have hrB := hB.2
                  clear hB HSa hra
                  have htx := text_ok v wB HB.out.1.t
                  rw [textE_yes HHr.out] at htx
                  go_wp2_with (first | refine wpList_load_row rfl 24 _ rfl k rfl 24 (verC v) (0, 0) _ hrB Tryd.underlying24 rfl infoVs ?_ | fail)
                  refine htx.mono ?_
                  clear htx
                  rintro e wC ⟨rfl, hb⟩
                  have HC : Hid (Ss w A B (.pointer (some ⟨gx, 0, none⟩)) (.pointer (some ⟨gy, 0, none⟩)) (.pointer (some ⟨gb, 0, none⟩)) (.pointer (some ⟨ga, 0, none⟩)) (.pointer (some ⟨gn, 0, none⟩)) wC ∧ Row wC k (verC v) 24) := ⟨Ss.next HB.out.1 hb, Row.below HB.out.2 hb (Row.lt HB.out.2)⟩
                  have hrC := HC.out.2
                  clear hb HB hrB
                  have hh := Gd.has HC.out.1.b (by omega) HC.out.1.t v _ HH1.out
                  go_wp2_with (first | refine wpList_load_row rfl 24 _ rfl k rfl 24 (verC v) (0, 0) _ hrC Tryd.underlying24 rfl infoVs ?_ | fail)
                  refine hh.mono ?_
                  clear hh
                  rintro e wD ⟨rfl, hb⟩
                  have HD : Hid (Ss w A B (.pointer (some ⟨gx, 0, none⟩)) (.pointer (some ⟨gy, 0, none⟩)) (.pointer (some ⟨gb, 0, none⟩)) (.pointer (some ⟨ga, 0, none⟩)) (.pointer (some ⟨gn, 0, none⟩)) wD ∧ Row wD k (verC v) 24) := ⟨Ss.next HC.out.1 hb, Row.below HC.out.2 hb (Row.lt HC.out.2)⟩
                  have hrD := HD.out.2
                  clear hb HC hrC
                  have hh := Gd.has HD.out.1.a (by omega) HD.out.1.t v _ HH2.out
                  go_wp2_with (first | refine wpList_load_wanted (by rfl) 24 _ rfl k rfl 24 (verC v) _ hrD Tryd.underlying24 rfl infoVs ?_ | fail)
                  refine hh.mono ?_
                  clear hh
                  rintro e wE ⟨rfl, hb⟩
                  have HE : Hid (Ss w A B (.pointer (some ⟨gx, 0, none⟩)) (.pointer (some ⟨gy, 0, none⟩)) (.pointer (some ⟨gb, 0, none⟩)) (.pointer (some ⟨ga, 0, none⟩)) (.pointer (some ⟨gn, 0, none⟩)) wE ∧ Row wE k (verC v) 24) := ⟨Ss.next HD.out.1 hb, Row.below HD.out.2 hb (Row.lt HD.out.2)⟩
                  have hrE := HE.out.2
                  clear hb HD hrD
                  have hh := Gd.has HE.out.1.n (by omega) HE.out.1.t v _ HH3.out
                  go_wp2_with (first | refine wpList_load_wanted (by rfl) 24 _ rfl k rfl 24 (verC v) _ hrE Tryd.underlying24 rfl infoVs ?_ | fail)
                  refine hh.mono ?_
                  clear hh
                  rintro e wF ⟨rfl, hb⟩
                  have HF : Hid (Ss w A B (.pointer (some ⟨gx, 0, none⟩)) (.pointer (some ⟨gy, 0, none⟩)) (.pointer (some ⟨gb, 0, none⟩)) (.pointer (some ⟨ga, 0, none⟩)) (.pointer (some ⟨gn, 0, none⟩)) wF ∧ Row wF k (verC v) 24) := ⟨Ss.next HE.out.1 hb, Row.below HE.out.2 hb (Row.lt HE.out.2)⟩
                  have hrF := HF.out.2
                  clear hb HE hrE
                  go_wp2
                  go_roundw
                  case rel => exact ⟨i + 1, by omega, by omega, by go_num, HF.out.1⟩
                  case measure => simp [intOf]; omega
                | false =>
                  go_wp2_with (first | refine wpList_load_mid rfl 24 _ rfl vg (vo + i * 6) rfl _ _ hrg Tryd.underlying24 rfl infoVs ?_ | refine wpList_store_new rfl 24 _ _ rfl wr zeroC (verC v) 24 rfl wr.heap.size rfl rfl rfl infoVs rfl (verC_one _) ?_)
                  obtain ⟨wA, hwA⟩ : ∃ y, y = wr.alloc (.cells (verC v) 24) := ⟨_, rfl⟩
                  rw [← hwA] at HSa hra
                  rw [← hwA]
                  obtain ⟨k, hk⟩ : ∃ k, k = wr.heap.size := ⟨_, rfl⟩
                  rw [← hk] at hra
                  rw [← hk]
                  clear hwA hk hrg
                  refine wp_region_quiet (C := fun wx => (Ss w A B (.pointer (some ⟨gx, 0, none⟩)) (.pointer (some ⟨gy, 0, none⟩)) (.pointer (some ⟨gb, 0, none⟩)) (.pointer (some ⟨ga, 0, none⟩)) (.pointer (some ⟨gn, 0, none⟩)) wx ∧ Row wx k (verC v) 24)) (by kernel_rfl) (by kernel_rfl) ⟨Ss.next HSa.out ((Below.refl _ _).drew), hra⟩ ?_
                  simp only []
                  refine q_value ?_ (by rfl) (fun w hw => ?_) ?_
                  rotate_left
                  · go_simp
                    with_reducible rfl
                  simp only [Act.put, List.setIfInBounds_toArray, List.set_cons_zero, List.set_cons_succ]
                  refine q_load 24 _ rfl (by rfl) k (verC v) 24 _ rfl (fun w h => h.2) Tryd.underlying24 rfl infoVs ?_
                  simp only [Act.put, List.setIfInBounds_toArray, List.set_cons_zero, List.set_cons_succ]
                  refine q_call (.bool false) (by rfl) 17 #[.pointer (some ⟨gx, 0, none⟩), verV v] (fun w h => by go_simp) (fun w h => (Gd.has h.1.x (by omega) h.1.t v false HHp.out).mono fun e w' ⟨he, hb⟩ => ⟨he, h.1.next hb, h.2.below hb h.2.lt⟩) ?_
                  simp only [Act.put, List.setIfInBounds_toArray, List.set_cons_zero, List.set_cons_succ]
                  refine q_value ?_ (by rfl) (fun w hw => ?_) ?_
                  rotate_left
                  · go_simp
                    with_reducible rfl
                  simp only [Act.put, List.setIfInBounds_toArray, List.set_cons_zero, List.set_cons_succ]
                  refine q_load 24 _ rfl (by rfl) k (verC v) 24 _ rfl (fun w h => h.2) Tryd.underlying24 rfl infoVs ?_
                  simp only [Act.put, List.setIfInBounds_toArray, List.set_cons_zero, List.set_cons_succ]
                  refine q_call (.bool false) (by rfl) 17 #[.pointer (some ⟨gy, 0, none⟩), verV v] (fun w h => by go_simp) (fun w h => (Gd.has h.1.y (by omega) h.1.t v false HHq.out).mono fun e w' ⟨he, hb⟩ => ⟨he, h.1.next hb, h.2.below hb h.2.lt⟩) ?_
                  simp only [Act.put, List.setIfInBounds_toArray, List.set_cons_zero, List.set_cons_succ]
                  refine q_value ?_ (by rfl) (fun w hw => ?_) ?_
                  rotate_left
                  · go_simp
                    with_reducible rfl
                  simp only [Act.put, List.setIfInBounds_toArray, List.set_cons_zero, List.set_cons_succ]
                  refine q_value ?_ (by rfl) (fun w hw => ?_) ?_
                  rotate_left
                  · go_simp
                    with_reducible rfl
                  simp only [Act.put, List.setIfInBounds_toArray, List.set_cons_zero, List.set_cons_succ]
                  refine wpQuiet_nil ?_
                  intro wB hB
                  simp only [Exit.then]
                  have HB : Hid _ := hB
                  have hrB := hB.2
                  clear hB HSa hra
                  have htx := text_ok v wB HB.out.1.t
                  rw [textE_no HHr.out] at htx
                  go_wp2_with (first | refine wpList_load_row rfl 24 _ rfl k rfl 24 (verC v) (0, 0) _ hrB Tryd.underlying24 rfl infoVs ?_ | fail)
                  refine htx.mono ?_
                  clear htx
                  rintro e wC ⟨rfl, hb⟩
                  have HC : Hid (Ss w A B (.pointer (some ⟨gx, 0, none⟩)) (.pointer (some ⟨gy, 0, none⟩)) (.pointer (some ⟨gb, 0, none⟩)) (.pointer (some ⟨ga, 0, none⟩)) (.pointer (some ⟨gn, 0, none⟩)) wC ∧ Row wC k (verC v) 24) := ⟨Ss.next HB.out.1 hb, Row.below HB.out.2 hb (Row.lt HB.out.2)⟩
                  have hrC := HC.out.2
                  clear hb HB hrB
                  have hh := Gd.has HC.out.1.b (by omega) HC.out.1.t v _ HH1.out
                  go_wp2_with (first | refine wpList_load_row rfl 24 _ rfl k rfl 24 (verC v) (0, 0) _ hrC Tryd.underlying24 rfl infoVs ?_ | fail)
                  refine hh.mono ?_
                  clear hh
                  rintro e wD ⟨rfl, hb⟩
                  have HD : Hid (Ss w A B (.pointer (some ⟨gx, 0, none⟩)) (.pointer (some ⟨gy, 0, none⟩)) (.pointer (some ⟨gb, 0, none⟩)) (.pointer (some ⟨ga, 0, none⟩)) (.pointer (some ⟨gn, 0, none⟩)) wD ∧ Row wD k (verC v) 24) := ⟨Ss.next HC.out.1 hb, Row.below HC.out.2 hb (Row.lt HC.out.2)⟩
                  have hrD := HD.out.2
                  clear hb HC hrC
                  have hh := Gd.has HD.out.1.a (by omega) HD.out.1.t v _ HH2.out
                  go_wp2_with (first | refine wpList_load_wanted (by rfl) 24 _ rfl k rfl 24 (verC v) _ hrD Tryd.underlying24 rfl infoVs ?_ | fail)
                  refine hh.mono ?_
                  clear hh
                  rintro e wE ⟨rfl, hb⟩
                  have HE : Hid (Ss w A B (.pointer (some ⟨gx, 0, none⟩)) (.pointer (some ⟨gy, 0, none⟩)) (.pointer (some ⟨gb, 0, none⟩)) (.pointer (some ⟨ga, 0, none⟩)) (.pointer (some ⟨gn, 0, none⟩)) wE ∧ Row wE k (verC v) 24) := ⟨Ss.next HD.out.1 hb, Row.below HD.out.2 hb (Row.lt HD.out.2)⟩
                  have hrE := HE.out.2
                  clear hb HD hrD
                  have hh := Gd.has HE.out.1.n (by omega) HE.out.1.t v _ HH3.out
                  go_wp2_with (first | refine wpList_load_wanted (by rfl) 24 _ rfl k rfl 24 (verC v) _ hrE Tryd.underlying24 rfl infoVs ?_ | fail)
                  refine hh.mono ?_
                  clear hh
                  rintro e wF ⟨rfl, hb⟩
                  have HF : Hid (Ss w A B (.pointer (some ⟨gx, 0, none⟩)) (.pointer (some ⟨gy, 0, none⟩)) (.pointer (some ⟨gb, 0, none⟩)) (.pointer (some ⟨ga, 0, none⟩)) (.pointer (some ⟨gn, 0, none⟩)) wF ∧ Row wF k (verC v) 24) := ⟨Ss.next HE.out.1 hb, Row.below HE.out.2 hb (Row.lt HE.out.2)⟩
                  have hrF := HF.out.2
                  clear hb HE hrE
                  go_wp2
                  go_roundw
                  case rel => exact ⟨i + 1, by omega, by omega, by go_num, HF.out.1⟩
                  case measure => simp [intOf]; omega
          · have h200' : ¬ (i : Int) < 200 := by omega
            go_wp2
            go_ret
            exact ⟨rfl, HS.out.old⟩
        · have hin' : ¬ (i : Int) < (m : Int) := by omega
          go_wp2
          go_ret
          exact ⟨rfl, HS.out.old⟩
end Go.Proofs.YtecbagiionhpjaaDoor
