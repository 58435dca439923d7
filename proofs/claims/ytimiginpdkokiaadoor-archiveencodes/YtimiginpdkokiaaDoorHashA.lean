/- My own work: digests of rows of bytes of one's own; the walks of Hash, the program's and the document's. -/
import Derived.Test.YtimiginpdkokiaaDoorEncA
import Derived.Test.YtimiginpdkokiaaDoorRCell
import Derived.Test.YtimiginpdkokiaaDoorS2RefSum
namespace Go.Proofs.YtimiginpdkokiaaDoor
open Go.RowKit

/-- Bytes by their places. -/
def fX (X : List UInt8) (i : Nat) : Int := ((X[i]?).getD 0).toNat
/-- The digest of bytes. -/
def digX (X : List UInt8) : Array Value :=
  S2.arr (S2.dig (S2.hs (fX X) X.length (64 * (X.length / 64) + 64 * (if X.length % 64 + 9 > 64 then 2 else 1)) (X.length / 64 + (if X.length % 64 + 9 > 64 then 2 else 1)))) 32
theorem digX_size (X : List UInt8) : (digX X).size = 32 := S2.arr_size _ _
theorem digX_one (X : List UInt8) : (digX X).all (·.oneCell') = true := S2.arr_one _ _
theorem buf_bs {w : World} {B : Nat} {v : Value} {X : List UInt8} (h : Buf w B v X) : ∃ a b c, v = .slice a X.length c ∧ S2.Bs w a b 0 X.length (fX X) ∧ (a = none → X.length = 0 ∧ c = 0) ∧ X.length ≤ c ∧ c ≤ 9223372036854775807 := by
  have hbd : ∀ i, 0 ≤ fX X i ∧ fX X i < 256 := fun i => by
    unfold fX
    have := ((X[i]?).getD 0).toNat_lt
    omega
  have hpast : ∀ i, X.length ≤ i → fX X i = 0 := fun i hi => by
    unfold fX
    rw [List.getElem?_eq_none hi]
    rfl
  have h' := h
  obtain ⟨_, ⟨rfl, h0⟩ | ⟨g, cap, cur, rfl, h2, h3, h4, h5, _⟩⟩ := h
  · exact ⟨none, 0, 0, by rw [h0], ⟨fun h => absurd h (by omega), fun i hi => absurd hi (by omega), hbd, hpast⟩, fun _ => ⟨h0, rfl⟩, by omega, by omega⟩
  · refine ⟨_, g, cap, rfl, ⟨fun _ => rfl, fun i hi => ?_, hbd, hpast⟩, (fun h => nomatch h), h4, by unfold maxLen at h5; omega⟩
    rw [Nat.zero_add, h'.cellAt i (by omega)]
    simp [u8s, fX, hi]
theorem sum_buf {w : World} {B : Nat} {v : Value} {X : List UInt8} (h : Buf w B v X) (hF : S2.FTab w) (hK : S2.KTab w) (hl : X.length ≤ 140737488351232) : Calls Tryd.prog 23 #[v] w fun e w' => e = .returned (.agg (digX X)) ∧ Below w.heap.size w w' := by
  obtain ⟨a, b, c, rfl, h1, h2, h3, h4⟩ := buf_bs h
  exact S2.sum_any a b 0 X.length c (X.length / 64) (X.length % 64) (if X.length % 64 + 9 > 64 then 2 else 1) (fX X) w hF hK h1 h2 h3 h4 hl (by omega) (Nat.mod_lt _ (by omega)) rfl
theorem rsum_buf {w : World} {B : Nat} {v : Value} {X : List UInt8} (h : Buf w B v X) (hl : X.length ≤ 140737488351232) : Calls Tryd.prog 24 #[v] w fun e w' => e = .returned (.agg (digX X)) ∧ Below w.heap.size w w' := by
  obtain ⟨a, b, c, rfl, h1, h2, h3, h4⟩ := buf_bs h
  exact S2.refSum_any a b 0 X.length c (X.length / 64) (X.length % 64) (if X.length % 64 + 9 > 64 then 2 else 1) (fX X) w h1 h2 hl (by omega) (Nat.mod_lt _ (by omega)) rfl
/-- What Hash tells. -/
def hashV (n : Nd) : Array Value := if rightE n = 0 then digX (encA n) else S2.zeros32
theorem resultsH : Tryd.f10.results = #[.cell 2 34, .tmp 3] := by kernel_rfl
theorem resultsRH : Tryd.f11.results = #[.cell 2 33, .tmp 3] := by kernel_rfl
theorem infoD : (Tryd.prog.info? 34).map (·.size) = some 32 := by kernel_rfl
theorem infoD' : (Tryd.prog.info? 33).map (·.size) = some 32 := by kernel_rfl
set_option maxRecDepth 20000 in
set_option maxHeartbeats 4000000 in
theorem hash_ok (n : Nd) (w : World) (C : Array Value) (h : NodeAt w n C) (h6 : n.count ≤ 16000) (hF : S2.FTab w) (hK : S2.KTab w) : Calls Tryd.prog 10 #[.agg C] w fun e w' => e = .returned (.tuple #[.agg (hashV n), .int .i64 (rightE n)]) ∧ Below w.heap.size w w' := by
  obtain ⟨Z, hZ⟩ : ∃ Z, Z = S2.zeros32 := ⟨_, rfl⟩
  have hZs : Z.size = 32 := by rw [hZ]; rfl
  have hZo : Z.all (·.oneCell') = true := by rw [hZ]; exact S2.zeros32_one
  have hb00 : Below w.heap.size w (w.alloc (.cells C 26)) := (Below.refl _ _).alloc (Nat.le_refl _) _
  have hsz0 : (w.alloc (.cells C 26)).heap.size = w.heap.size + 1 := by simp
  have hb0 : Below w.heap.size w ((w.alloc (.cells C 26)).alloc (.cells Z 34)) := hb00.alloc (by omega) _
  have hR0 : Row ((w.alloc (.cells C 26)).alloc (.cells Z 34)) w.heap.size C 26 := (Row.new w C 26).alloc _
  have hD0 : Row ((w.alloc (.cells C 26)).alloc (.cells Z 34)) (w.heap.size + 1) Z 34 := by
    have := Row.new (w.alloc (.cells C 26)) Z 34
    rw [hsz0] at this
    exact this
  have HC1 : Hid (Calls Tryd.prog 8 #[.agg C] ((w.alloc (.cells C 26)).alloc (.cells Z 34)) fun e w' => EncPost n ((w.alloc (.cells C 26)).alloc (.cells Z 34)) e w') := encode_ok n _ C (h.keep hb0) h6
  have hsi : (Tryd.prog.info? 26).map (·.size) = some C.size := by rw [infoN, h.size]
  have HR : Hid (Row ((w.alloc (.cells C 26)).alloc (.cells Z 34)) w.heap.size C 26) := hR0
  have HD : Hid (Row ((w.alloc (.cells C 26)).alloc (.cells Z 34)) (w.heap.size + 1) Z 34) := hD0
  have HB0 : Hid (Below w.heap.size w ((w.alloc (.cells C 26)).alloc (.cells Z 34))) := hb0
  have HF : Hid (S2.FTab w) := hF
  have HKT : Hid (S2.KTab w) := hK
  have hpos : 1 < w.heap.size := hK.pos
  have HZ : Hid _ := hZ
  have HHV : Hid (hashV n = if rightE n = 0 then digX (encA n) else Z) := by show _ = _; rw [hZ]; rfl
  unfold S2.zeros32 at hZ
  clear h hb0 hb00 hR0 hD0 hF hK
  go_enter Tryd.func10, Tryd.ntmps10
  go_wp2_with (refine wpList_load_row rfl 26 _ rfl w.heap.size rfl 26 C (0, 0) _ (by rw [← hZ]; exact HR.out) Tryd.underlying26 rfl hsi ?_)
  rw [← hZ]
  generalize (w.alloc (.cells C 26)).alloc (.cells Z 34) = w0 at *
  have hs0 : w.heap.size ≤ w0.heap.size := HB0.out.size
  refine Calls.mono HC1.out ?_
  rintro er w1 ⟨hb1, ⟨hne, rfl⟩ | ⟨hz, v, rfl, hv⟩⟩
  · have hD1 : Row w1 (w.heap.size + 1) Z 34 := HD.out.below hb1 HD.out.lt
    have HB1 : Hid (Below w.heap.size w w1) := HB0.out.trans (hb1.mono hs0)
    have hZi : (Tryd.prog.info? 34).map (·.size) = some Z.size := by rw [hZs]; exact infoD
    have HV : Hid (hashV n = Z) := by show _ = _; rw [HHV.out, if_neg hne]
    clear HC1 HHV HF HKT HR HD HB0 hb1
    go_wp2_with (refine wpList_store_row rfl 34 _ _ rfl (w.heap.size + 1) S2.zeros32 rfl rfl 34 Z hD1 infoD (show Z.size = S2.zeros32.size from hZs) S2.zeros32_one ?_)
    rw [← HZ.out]
    refine bodyPost_ret (results_cell_row2 resultsH _ _ (w.heap.size + 1) 34 Z (0, 0) _ rfl hD1.setRow Tryd.underlying34 rfl hZi) rfl ⟨?_, below_setRow HB1.out (by omega) _⟩
    rw [HV.out]
    rfl
  · have hD1 : Row w1 (w.heap.size + 1) Z 34 := HD.out.below hb1 HD.out.lt
    have hb1w : Below w.heap.size w w1 := HB0.out.trans (hb1.mono hs0)
    have HB1 : Hid (Below w.heap.size w w1) := hb1w
    have HS : Hid (Calls Tryd.prog 23 #[v] w1 fun e w' => e = .returned (.agg (digX (encA n))) ∧ Below w1.heap.size w1 w') := sum_buf hv (HF.out.below hb1w (by omega)) (HKT.out.below hb1w hpos) (by have := encA_len hz; omega)
    have HV : Hid (hashV n = digX (encA n)) := by show _ = _; rw [HHV.out, if_pos hz]
    have hs1 := digX_size (encA n)
    have ho1 := digX_one (encA n)
    have HZZ : Hid (rightE n = 0) := hz
    clear hz
    generalize digX (encA n) = D at *
    have hDi : (Tryd.prog.info? 34).map (·.size) = some D.size := by rw [hs1]; exact infoD
    have HD1 : Hid (Row w1 (w.heap.size + 1) Z 34) := hD1
    clear HC1 HHV HF HKT HR HD HB0 hb1 hv hb1w hD1
    go_wp2_with fail
    refine Calls.mono HS.out ?_
    rintro er w2 ⟨rfl, hb2⟩
    have hD2 : Row w2 (w.heap.size + 1) Z 34 := HD1.out.below hb2 HD1.out.lt
    have HB2 : Hid (Below w.heap.size w w2) := HB1.out.trans (hb2.mono HB1.out.size)
    clear HS hb2
    go_wp2_with (refine wpList_store_row rfl 34 _ _ rfl (w.heap.size + 1) D rfl rfl 34 Z hD2 hDi (hZs.trans hs1.symm) ho1 ?_)
    refine bodyPost_ret (results_cell_row2 resultsH _ _ (w.heap.size + 1) 34 D (0, 0) _ rfl hD2.setRow Tryd.underlying34 rfl hDi) rfl ⟨?_, below_setRow HB2.out (by omega) _⟩
    rw [HV.out, HZZ.out]
    rfl
set_option maxRecDepth 20000 in
set_option maxHeartbeats 4000000 in
theorem rhash_ok (n : Nd) (w : World) (C : Array Value) (h : NodeAt w n C) (h6 : n.count ≤ 16000) : Calls Tryd.prog 11 #[.agg C] w fun e w' => e = .returned (.tuple #[.agg (hashV n), .int .i64 (rightE n)]) ∧ Below w.heap.size w w' := by
  obtain ⟨Z, hZ⟩ : ∃ Z, Z = S2.zeros32 := ⟨_, rfl⟩
  have hZs : Z.size = 32 := by rw [hZ]; rfl
  have hZo : Z.all (·.oneCell') = true := by rw [hZ]; exact S2.zeros32_one
  have hb00 : Below w.heap.size w (w.alloc (.cells C 26)) := (Below.refl _ _).alloc (Nat.le_refl _) _
  have hsz0 : (w.alloc (.cells C 26)).heap.size = w.heap.size + 1 := by simp
  have hb0 : Below w.heap.size w ((w.alloc (.cells C 26)).alloc (.cells Z 33)) := hb00.alloc (by omega) _
  have hR0 : Row ((w.alloc (.cells C 26)).alloc (.cells Z 33)) w.heap.size C 26 := (Row.new w C 26).alloc _
  have hD0 : Row ((w.alloc (.cells C 26)).alloc (.cells Z 33)) (w.heap.size + 1) Z 33 := by
    have := Row.new (w.alloc (.cells C 26)) Z 33
    rw [hsz0] at this
    exact this
  have HC1 : Hid (Calls Tryd.prog 9 #[.agg C] ((w.alloc (.cells C 26)).alloc (.cells Z 33)) fun e w' => EncPost n ((w.alloc (.cells C 26)).alloc (.cells Z 33)) e w') := rencode_ok n _ C (h.keep hb0) h6
  have hsi : (Tryd.prog.info? 26).map (·.size) = some C.size := by rw [infoN, h.size]
  have HR : Hid (Row ((w.alloc (.cells C 26)).alloc (.cells Z 33)) w.heap.size C 26) := hR0
  have HD : Hid (Row ((w.alloc (.cells C 26)).alloc (.cells Z 33)) (w.heap.size + 1) Z 33) := hD0
  have HB0 : Hid (Below w.heap.size w ((w.alloc (.cells C 26)).alloc (.cells Z 33))) := hb0
  have HZ : Hid _ := hZ
  have HHV : Hid (hashV n = if rightE n = 0 then digX (encA n) else Z) := by show _ = _; rw [hZ]; rfl
  unfold S2.zeros32 at hZ
  clear h hb0 hb00 hR0 hD0
  go_enter Tryd.func11, Tryd.ntmps11
  go_wp2_with (refine wpList_load_row rfl 26 _ rfl w.heap.size rfl 26 C (0, 0) _ (by rw [← hZ]; exact HR.out) Tryd.underlying26 rfl hsi ?_)
  rw [← hZ]
  generalize (w.alloc (.cells C 26)).alloc (.cells Z 33) = w0 at *
  have hs0 : w.heap.size ≤ w0.heap.size := HB0.out.size
  refine Calls.mono HC1.out ?_
  rintro er w1 ⟨hb1, ⟨hne, rfl⟩ | ⟨hz, v, rfl, hv⟩⟩
  · have hD1 : Row w1 (w.heap.size + 1) Z 33 := HD.out.below hb1 HD.out.lt
    have HB1 : Hid (Below w.heap.size w w1) := HB0.out.trans (hb1.mono hs0)
    have hZi : (Tryd.prog.info? 33).map (·.size) = some Z.size := by rw [hZs]; exact infoD'
    have HV : Hid (hashV n = Z) := by show _ = _; rw [HHV.out, if_neg hne]
    clear HC1 HHV HR HD HB0 hb1
    go_wp2_with (refine wpList_store_row rfl 33 _ _ rfl (w.heap.size + 1) S2.zeros32 rfl rfl 33 Z hD1 infoD' (show Z.size = S2.zeros32.size from hZs) S2.zeros32_one ?_)
    rw [← HZ.out]
    refine bodyPost_ret (results_cell_row2 resultsRH _ _ (w.heap.size + 1) 33 Z (0, 0) _ rfl hD1.setRow Tryd.underlying33 rfl hZi) rfl ⟨?_, below_setRow HB1.out (by omega) _⟩
    rw [HV.out]
    rfl
  · have hD1 : Row w1 (w.heap.size + 1) Z 33 := HD.out.below hb1 HD.out.lt
    have HB1 : Hid (Below w.heap.size w w1) := HB0.out.trans (hb1.mono hs0)
    have HS : Hid (Calls Tryd.prog 24 #[v] w1 fun e w' => e = .returned (.agg (digX (encA n))) ∧ Below w1.heap.size w1 w') := rsum_buf hv (by have := encA_len hz; omega)
    have HV : Hid (hashV n = digX (encA n)) := by show _ = _; rw [HHV.out, if_pos hz]
    have hs1 := digX_size (encA n)
    have ho1 := digX_one (encA n)
    have HZZ : Hid (rightE n = 0) := hz
    clear hz
    generalize digX (encA n) = D at *
    have hDi : (Tryd.prog.info? 33).map (·.size) = some D.size := by rw [hs1]; exact infoD'
    have HD1 : Hid (Row w1 (w.heap.size + 1) Z 33) := hD1
    clear HC1 HHV HR HD HB0 hb1 hv hD1
    go_wp2_with fail
    refine Calls.mono HS.out ?_
    rintro er w2 ⟨rfl, hb2⟩
    have hD2 : Row w2 (w.heap.size + 1) Z 33 := HD1.out.below hb2 HD1.out.lt
    have HB2 : Hid (Below w.heap.size w w2) := HB1.out.trans (hb2.mono HB1.out.size)
    clear HS hb2
    go_wp2_with (refine wpList_store_row rfl 33 _ _ rfl (w.heap.size + 1) D rfl rfl 33 Z hD2 hDi (hZs.trans hs1.symm) ho1 ?_)
    refine bodyPost_ret (results_cell_row2 resultsRH _ _ (w.heap.size + 1) 33 D (0, 0) _ rfl hD2.setRow Tryd.underlying33 rfl hDi) rfl ⟨?_, below_setRow HB2.out (by omega) _⟩
    rw [HV.out, HZZ.out]
    rfl
end Go.Proofs.YtimiginpdkokiaaDoor
