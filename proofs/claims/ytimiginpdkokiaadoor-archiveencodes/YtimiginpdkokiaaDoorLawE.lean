/- My own work: the walk of the law ArchiveEncodes. -/
import Derived.Test.YtimiginpdkokiaaDoorHashA
import Derived.Test.YtimiginpdkokiaaDoorRoom
namespace Go.Proofs.YtimiginpdkokiaaDoor
open Go.RowKit

theorem hashV_arr (n : Nd) : ∃ f, hashV n = S2.arr f 32 := by
  unfold hashV
  split
  · exact ⟨_, rfl⟩
  · exact ⟨_, S2.zeros32_arr⟩
/-- What Encode tells, as a value and its text. -/
theorem encPost_text {n : Nd} {w w' : World} {e : Ending} (h : EncPost n w e w') : ∃ v T, e = .returned (.tuple #[v, .int .i64 (rightE n)]) ∧ Below w.heap.size w w' ∧ (∀ wx, Below w'.heap.size w' wx → (convert 22 9 v).run Tryd.prog wx = .ok (.string T) wx) ∧ T = (if rightE n = 0 then ⟨(encA n).toArray⟩ else ⟨#[]⟩) := by
  obtain ⟨hb, ⟨hne, rfl⟩ | ⟨hz, v, rfl, hv⟩⟩ := h
  · exact ⟨_, ⟨#[]⟩, rfl, hb, fun wx _ => run_convert_bytes_nil (P := Tryd.prog) wx 22 5 Tryd.underlying22 Tryd.underlying5 0 0 9 Tryd.underlying9, by rw [if_neg hne]⟩
  · exact ⟨v, ⟨(encA n).toArray⟩, by rw [hz], hb, fun wx hx => conv_buf wx _ v _ (hv.keep hx), by rw [if_pos hz]⟩
set_option maxRecDepth 20000 in
set_option maxHeartbeats 4000000 in
theorem law_encodes (n : Nd) (w : World) (C : Array Value) (h : NodeAt w n C) (hF : S2.FTab w) (hK : S2.KTab w) : Calls Tryd.prog 3 #[.agg C] w fun e w' => e = .returned (.bool true) ∧ Below w.heap.size w w' := by
  have hb0 : Below w.heap.size w (w.alloc (.cells C 26)) := (Below.refl _ _).alloc (Nat.le_refl _) _
  have HR : Hid (Row (w.alloc (.cells C 26)) w.heap.size C 26) := Row.new w C 26
  have hsi : (Tryd.prog.info? 26).map (·.size) = some C.size := by rw [infoN, h.size]
  have hpos : 1 < w.heap.size := hK.pos
  have HN : Hid (∀ wx, Below w.heap.size w wx → NodeAt wx n C) := fun wx hb => h.keep hb
  have HF : Hid (∀ wx, Below w.heap.size w wx → S2.FTab wx) := fun wx hb => hF.below hb (by omega)
  have HKT : Hid (∀ wx, Below w.heap.size w wx → S2.KTab wx) := fun wx hb => hK.below hb hpos
  have HB0 : Hid (Below w.heap.size w (w.alloc (.cells C 26))) := hb0
  have HLG : Hid (Calls Tryd.prog 7 #[.agg C, .int .i64 0] (w.alloc (.cells C 26)) fun e w' => e = .returned (.bool (largeB n)) ∧ Below (w.alloc (.cells C 26)).heap.size (w.alloc (.cells C 26)) w') := large_ok n _ C (h.keep hb0)
  have HLC : Hid (largeB n = false → n.count ≤ 16000) := fun h => by have := large_count h; omega
  obtain ⟨f, hf⟩ := hashV_arr n
  have e1 : ∀ w : World, (Op.equalIn 10000 34 (.agg (hashV n)) (.agg (hashV n))).run Tryd.prog w = .ok true w := fun w => by rw [hf, S2.eq_arr f f 34 Tryd.underlying34 w, S2.same_refl]
  have o1 : Hid ((hashV n).all (·.oneCell') = true) := by rw [hf]; exact S2.arr_one f 32
  have s1 : (hashV n).size = 32 := by rw [hf]; exact S2.arr_size f 32
  have i33 : (Tryd.prog.info? 33).map (·.size) = some (hashV n).size := by rw [s1]; exact infoD'
  have i34 : (Tryd.prog.info? 34).map (·.size) = some (hashV n).size := by rw [s1]; exact infoD
  have HH : Hid (n.count ≤ 16000 → ∀ wx, Below w.heap.size w wx → Calls Tryd.prog 10 #[.agg C] wx fun e w' => e = .returned (.tuple #[.agg (hashV n), .int .i64 (rightE n)]) ∧ Below wx.heap.size wx w') := fun hc wx hb => hash_ok n wx C (HN.out wx hb) hc (HF.out wx hb) (HKT.out wx hb)
  have HRH : Hid (n.count ≤ 16000 → ∀ wx, Below w.heap.size w wx → Calls Tryd.prog 11 #[.agg C] wx fun e w' => e = .returned (.tuple #[.agg (hashV n), .int .i64 (rightE n)]) ∧ Below wx.heap.size wx w') := fun hc wx hb => rhash_ok n wx C (HN.out wx hb) hc
  have HE : Hid (n.count ≤ 16000 → ∀ wx, Below w.heap.size w wx → Calls Tryd.prog 8 #[.agg C] wx fun e w' => EncPost n wx e w') := fun hc wx hb => encode_ok n wx C (HN.out wx hb) hc
  have HRE : Hid (n.count ≤ 16000 → ∀ wx, Below w.heap.size w wx → Calls Tryd.prog 9 #[.agg C] wx fun e w' => EncPost n wx e w') := fun hc wx hb => rencode_ok n wx C (HN.out wx hb) hc
  obtain ⟨Z, hZ⟩ : ∃ Z, Z = S2.zeros32 := ⟨_, rfl⟩
  have hZs : Z.size = 32 := by rw [hZ]; rfl
  unfold S2.zeros32 at hZ
  have HZ : Hid _ := hZ
  clear hZ hf hb0 h hF hK HN HF HKT
  generalize hashV n = D at *
  generalize hLB : largeB n = lb at *
  clear hLB
  go_enter Tryd.func3, Tryd.ntmps3
  go_wp2_with (refine wpList_load_row rfl 26 _ rfl w.heap.size rfl 26 C (0, 0) _ HR.out Tryd.underlying26 rfl hsi ?_)
  generalize w.alloc (.cells C 26) = wB at *
  refine Calls.mono HLG.out ?_
  rintro er w1 ⟨rfl, hb1⟩
  have HB1 : Hid (Below w.heap.size w w1) := HB0.out.trans (hb1.mono HB0.out.size)
  have HR1 : Hid (Row w1 w.heap.size C 26) := Row.below HR.out hb1 (Row.lt HR.out)
  clear HLG hb1 HR HB0
  cases lb with
  | true =>
    go_wp2
    go_ret
    exact ⟨rfl, HB1.out⟩
  | false =>
    have hc := HLC.out rfl
    have HE1 := HE.out hc w1 HB1.out
    go_wp2_with (refine wpList_load_row rfl 26 _ rfl w.heap.size rfl 26 C (0, 0) _ HR1.out Tryd.underlying26 rfl hsi ?_)
    refine Calls.mono HE1 ?_
    clear HE1 HE HLC
    intro er w2 hp2
    obtain ⟨v2, T, rfl, hb2, hcv2, hT⟩ := encPost_text hp2
    have HC2 : Hid (∀ wx, Below w2.heap.size w2 wx → (convert 22 9 v2).run Tryd.prog wx = .ok (.string T) wx) := hcv2
    have HT : Hid _ := hT
    have HB2 : Hid (Below w.heap.size w w2) := HB1.out.trans (hb2.mono HB1.out.size)
    have HR2 : Hid (Row w2 w.heap.size C 26) := Row.below HR1.out hb2 (Row.lt HR1.out)
    clear hp2 hcv2 hT hb2 HB1 HR1
    have HE2 := HRE.out hc w2 HB2.out
    go_wp2_with (refine wpList_load_row rfl 26 _ rfl w.heap.size rfl 26 C (0, 0) _ HR2.out Tryd.underlying26 rfl hsi ?_)
    refine Calls.mono HE2 ?_
    clear HE2 HRE
    intro er w3 hp3
    obtain ⟨v3, T', rfl, hb3, hcv3, hT'⟩ := encPost_text hp3
    obtain rfl : T' = T := hT'.trans HT.out.symm
    have HC3 : Hid (∀ wx, Below w3.heap.size w3 wx → (convert 22 9 v3).run Tryd.prog wx = .ok (.string T') wx) := hcv3
    have HC2' : Hid (∀ wx, Below w3.heap.size w3 wx → (convert 22 9 v2).run Tryd.prog wx = .ok (.string T') wx) := fun wx hx => HC2.out wx (hb3.trans (hx.mono hb3.size))
    have HB3 : Hid (Below w.heap.size w w3) := HB2.out.trans (hb3.mono HB2.out.size)
    have HR3 : Hid (Row w3 w.heap.size C 26) := Row.below HR2.out hb3 (Row.lt HR2.out)
    clear hp3 hcv3 hT' hb3 HB2 HR2 HT HC2
    have HH1 := HH.out hc w3 HB3.out
    go_wp2_with (refine wpList_load_row rfl 26 _ rfl w.heap.size rfl 26 C (0, 0) _ HR3.out Tryd.underlying26 rfl hsi ?_)
    refine Calls.mono HH1 ?_
    clear HH1 HH
    rintro er w4 ⟨rfl, hb4⟩
    have hb4a : Below w3.heap.size w3 (w4.alloc (.cells D 34)) := hb4.alloc hb4.size _
    have HB4 : Hid (Below w.heap.size w (w4.alloc (.cells D 34))) := HB3.out.trans (hb4a.mono HB3.out.size)
    have HB34 : Hid (Below w3.heap.size w3 (w4.alloc (.cells D 34))) := hb4a
    have HR4 : Hid (Row (w4.alloc (.cells D 34)) w.heap.size C 26) := Row.below HR3.out hb4a (Row.lt HR3.out)
    have HD4 : Hid (Row (w4.alloc (.cells D 34)) w4.heap.size D 34) := Row.new w4 D _
    have HH2 := HRH.out hc _ HB4.out
    clear hb4 hb4a HB3 HR3 HRH
    go_wp2_with (first
      | refine wpList_store_row rfl 34 _ _ rfl w4.heap.size D rfl rfl 34 Z (by rw [HZ.out]; exact Row.new w4 _ 34) i34 (hZs.trans s1.symm) o1.out ?_; rw [← HZ.out, World.setRow_alloc_new]
      | refine wpList_load_row rfl 26 _ rfl w.heap.size rfl 26 C (0, 0) _ HR4.out Tryd.underlying26 rfl hsi ?_)
    generalize w4.alloc (.cells D 34) = w5 at *
    refine Calls.mono HH2 ?_
    clear HH2
    rintro er w6 ⟨rfl, hb6⟩
    have hb6a : Below w5.heap.size w5 (w6.alloc (.cells D 33)) := hb6.alloc hb6.size _
    have HB6 : Hid (Below w.heap.size w (w6.alloc (.cells D 33))) := HB4.out.trans (hb6a.mono HB4.out.size)
    have hb36 : Below w3.heap.size w3 (w6.alloc (.cells D 33)) := HB34.out.trans (hb6a.mono HB34.out.size)
    have HD6 : Hid (Row (w6.alloc (.cells D 33)) w4.heap.size D 34) := Row.below HD4.out hb6a (Row.lt HD4.out)
    have HD7 : Hid (Row (w6.alloc (.cells D 33)) w6.heap.size D 33) := Row.new w6 D _
    have cv2 := HC2'.out _ hb36
    have cv3 := HC3.out _ hb36
    clear hb6 hb6a HB4 HR4 hb36 HD4 HB34 HC2' HC3
    go_wp2_with (first
      | refine wpList_store_row rfl 33 _ _ rfl w6.heap.size D rfl rfl 33 Z (by rw [HZ.out]; exact Row.new w6 _ 33) i33 (hZs.trans s1.symm) o1.out ?_; rw [← HZ.out, World.setRow_alloc_new]
      | refine S2.wpList_load_wanted (by rfl) 34 _ rfl w4.heap.size rfl 34 D _ HD6.out Tryd.underlying34 rfl i34 ?_
      | refine S2.wpList_load_wanted (by rfl) 33 _ rfl w6.heap.size rfl 33 D _ HD7.out Tryd.underlying33 rfl i33 ?_)
    refine Calls.mono (names_ok _) ?_
    rintro e w7 ⟨rfl, rfl⟩
    go_wp2
    go_ret
    exact ⟨rfl, HB6.out⟩
end Go.Proofs.YtimiginpdkokiaaDoor
