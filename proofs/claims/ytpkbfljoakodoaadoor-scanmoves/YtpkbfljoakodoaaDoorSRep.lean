/- My own work: the walk of scan.Replace. -/
import Derived.Test.YtpkbfljoakodoaaDoorXN
import Derived.Test.YtpkbfljoakodoaaDoorXH
import Derived.Test.YtpkbfljoakodoaaDoorPMake
import Derived.Test.YtpkbfljoakodoaaDoorPRefS
import Derived.Test.YtpkbfljoakodoaaDoorRCell
namespace Go.Proofs.YtpkbfljoakodoaaDoor
open Go.RowKit
open S2 (bl bl_len bl_inj splitB splitV Tab NTab)

/-- What Replace's error is. -/
def repE (n : Nd) (f t : ByteArray) : Int := if splitB (bl f) && splitB (bl t) then rightE n else 17
/-- What Replace's node is. -/
def repN (n : Nd) (f t : ByteArray) : Nd := if repE n f t = 0 then rpN (sgn f) (sgn t) n else .mk 0 false ⟨#[]⟩ [] []
abbrev nodeZ : Array Value := nodeV 0 false none 0 0 none 0 0 none 0 0
theorem nodeZ_on (w : World) (F : Nat → Prop) : NodeOn w F (.mk 0 false ⟨#[]⟩ [] []) nodeZ := by
  have h0 : (⟨#[]⟩ : ByteArray).size = 0 := rfl
  refine NodeOn.mk (d := ⟨#[]⟩) (ns := []) (ks := []) (db := 0) (doff := 0) (nb := 0) (noff := 0) (kb := 0) (koff := 0) (Cs := fun _ => #[]) (by decide) ⟨fun h => ?_, fun i h => ?_, fun _ => ⟨rfl, rfl⟩, Nat.le_refl _, by decide, by decide, fun h => ?_⟩ ⟨fun h => ?_, fun i h => ?_, fun _ => ⟨rfl, rfl⟩, Nat.le_refl _, by decide, by decide, fun s hs => (by cases hs), fun h => ?_⟩ ⟨fun h => ?_, fun i h => ?_, fun i h => ?_, fun _ => ⟨rfl, rfl⟩, Nat.le_refl _, by decide⟩ (fun h => ?_) (fun i h => ?_)
  all_goals first | (rw [h0] at h; exact absurd h (by omega)) | exact absurd h (by simp)
theorem bel_setRow {B g : Nat} {w0 w : World} (h : Below B w0 w) (hg : B ≤ g) (C : Array Value) : Below B w0 (w.setRow g C) := h.trans ⟨rfl, rfl, rfl, by simp [World.setRow], fun k hk => setRow_other w g k C (by omega)⟩
theorem nodeZ_one : nodeZ.all (·.oneCell') = true := by kernel_rfl
theorem bsConv (w : World) (s : ByteArray) (hs : s.size ≤ 1000) : BsAt (Lib.bytesWorld w 5 s) (.slice (some ⟨w.heap.size, 0, none⟩) s.size (grownCap w s.size 0 5)) (bl s) := by
  refine ⟨some ⟨w.heap.size, 0, none⟩, w.heap.size, 0, grownCap w s.size 0 5, by rw [bl_len], fun _ => rfl, fun i hi => ?_, (fun h => nomatch h), ?_, ?_⟩
  · have hi' : i < s.size := by rw [bl_len] at hi; exact hi
    rw [Nat.zero_add, Lib.bytesWorld_cell _ _ _ _ hi', List.getD_eq_getElem?_getD, List.getElem?_eq_getElem (by simpa [bl] using hi)]
    rfl
  · rw [bl_len]; exact grownCap_ge w s.size 0 5
  · exact grownCap_le_maxLen w s.size 0 5 (by unfold maxLen; omega)
theorem sgn_ex (s : ByteArray) : bl (s.extract 7 39) = sgn s := win_ex s 7
theorem split_size {s : ByteArray} (h : splitB (bl s) = true) : (s.extract 7 39).size = 32 := by
  have h2 := (S2.splitB_facts h).2.1
  rw [bl_len] at h2
  rw [S2.ex_size s 7 39 h2]
theorem sgn_len {s : ByteArray} (h : splitB (bl s) = true) : (sgn s).length = 32 := by rw [← sgn_ex, bl_len, split_size h]
theorem resultsRe : Tryd.f16.results = #[.cell 6 26, .tmp 7] := by kernel_rfl
/-- What Replace answers. -/
def RepPost (n : Nd) (f t : ByteArray) (w : World) (e : Ending) (w' : World) : Prop :=
  ∃ C', e = .returned (.tuple #[.agg C', .int .i64 (repE n f t)]) ∧ NodeOn w' (fun b => w.heap.size ≤ b ∧ b < w'.heap.size) (repN n f t) C' ∧ Below w.heap.size w w'
set_option maxRecDepth 20000 in
set_option maxHeartbeats 4000000 in
theorem replace_ok (n : Nd) (f t : ByteArray) (w : World) (C : Array Value) (h : NodeAt w n C) (h6 : n.count ≤ 16000) (hfs : f.size ≤ 140737488355328) (hts : t.size ≤ 140737488355328) (hT : Tab w) (hN : NTab w) (hm : MxTab w) :
    Calls Tryd.prog 16 #[.agg C, .string f, .string t] w (RepPost n f t w) := by
  have hsi : (Tryd.prog.info? 26).map (·.size) = some C.size := by rw [infoN, h.size]
  have hb0 : Below w.heap.size w (w.alloc (.cells C 26)) := (Below.refl _ _).alloc (Nat.le_refl _) _
  have hb1 : Below w.heap.size w ((w.alloc (.cells C 26)).alloc (.cells nodeZ 26)) := hb0.alloc hb0.size _
  have HR : Hid (Row ((w.alloc (.cells C 26)).alloc (.cells nodeZ 26)) w.heap.size C 26) := (Row.new w C 26).alloc _
  have HZ : Hid (Row ((w.alloc (.cells C 26)).alloc (.cells nodeZ 26)) (w.heap.size + 1) nodeZ 26) := by
    have h := Row.new (w.alloc (.cells C 26)) nodeZ 26
    rw [World.size_alloc] at h
    exact h
  have HND : Hid (NodeAt w n C) := h
  have HT : Hid (Tab w) := hT
  have HNT : Hid (NTab w) := hN
  have HM : Hid (MxTab w) := hm
  generalize hwA : (w.alloc (.cells C 26)).alloc (.cells nodeZ 26) = wA at *
  have HB : Hid (Below w.heap.size w wA) := hb1
  have HX : Hid (∀ wx, Below wA.heap.size wA wx → Below w.heap.size w wx) := fun wx hx => hb1.trans (hx.mono hb1.size)
  have HZX : Hid (∀ wx, Below wA.heap.size wA wx → Row wx (w.heap.size + 1) nodeZ 26) := fun wx hx => Row.below HZ.out hx (Row.lt HZ.out)
  have HRX : Hid (∀ wx, Below wA.heap.size wA wx → Row wx w.heap.size C 26) := fun wx hx => Row.below HR.out hx (Row.lt HR.out)
  -- how it ends in an error
  have HERR : Hid (∀ (wx : World) (e : Int), Below wA.heap.size wA wx → repE n f t = e → e ≠ 0 → RepPost n f t w (.returned (.tuple #[.agg nodeZ, .int .i64 e])) (wx.setRow (w.heap.size + 1) nodeZ)) := fun wx e hx he hne => by
    refine ⟨nodeZ, by rw [he], ?_, ?_⟩
    · have : repN n f t = .mk 0 false ⟨#[]⟩ [] [] := by unfold repN; rw [if_neg (by rw [he]; exact hne)]
      rw [this]
      exact nodeZ_on _ _
    · exact bel_setRow (HX.out wx hx) (by omega) _
  have hsf := S2.split_ok f wA hfs (hT.below hb1 hT.pos) (S2.NTab.keep hN hb1)
  clear h hT hN hm hb0 hb1
  cases hf : splitB (bl f) with
  | false =>
    have hE : repE n f t = 17 := by unfold repE; rw [hf]; rfl
    rw [S2.splitV_no hf] at hsf
    have HE : Hid _ := hE
    clear hE hf
    go_enter Tryd.func16, Tryd.ntmps16
    go_wp2_with fail
    refine hsf.mono ?_
    rintro e w1 ⟨rfl, hb1⟩
    have HZ1 : Hid _ := HZX.out w1 hb1
    have HP : Hid _ := HERR.out w1 17 hb1 HE.out (by decide)
    clear hsf hb1
    go_wp2_with (refine wpList_store_row rfl 26 _ _ rfl (w.heap.size + 1) nodeZ rfl rfl 26 nodeZ HZ1.out infoN rfl nodeZ_one ?_)
    exact bodyPost_ret (results_cell_row2 resultsRe _ _ (w.heap.size + 1) 26 nodeZ (0, 0) _ rfl (Row.setRow HZ1.out) Tryd.underlying26 rfl infoN) rfl HP.out
  | true =>
    have HF : Hid (splitB (bl f) = true) := hf
    rw [S2.splitV_yes hf] at hsf
    cases ht : splitB (bl t) with
    | false =>
      have hE : repE n f t = 17 := by unfold repE; rw [hf, ht]; rfl
      have HE : Hid _ := hE
      have HST : Hid (∀ wx, Below w.heap.size w wx → Calls Tryd.prog 32 #[.string t] wx fun e w' => e = .returned (.tuple #[.string ⟨#[]⟩, .string ⟨#[]⟩, .int .i64 17]) ∧ Below wx.heap.size wx w') := fun wx hx => by
        rw [← S2.splitV_no ht]
        exact S2.split_ok t wx hts (HT.out.below hx HT.out.pos) (S2.NTab.keep HNT.out hx)
      clear hE hf ht
      go_enter Tryd.func16, Tryd.ntmps16
      go_wp2_with fail
      refine hsf.mono ?_
      rintro e w1 ⟨rfl, hb1⟩
      have hst := HST.out w1 (HX.out w1 hb1)
      have HB1 : Hid _ := hb1
      clear hsf hb1
      go_wp2_with fail
      refine hst.mono ?_
      rintro e w2 ⟨rfl, hb2⟩
      have hb2' := HB1.out.trans (hb2.mono HB1.out.size)
      have HZ1 : Hid _ := HZX.out w2 hb2'
      have HP : Hid _ := HERR.out w2 17 hb2' HE.out (by decide)
      clear hst hb2 hb2'
      go_wp2_with (refine wpList_store_row rfl 26 _ _ rfl (w.heap.size + 1) nodeZ rfl rfl 26 nodeZ HZ1.out infoN rfl nodeZ_one ?_)
      exact bodyPost_ret (results_cell_row2 resultsRe _ _ (w.heap.size + 1) 26 nodeZ (0, 0) _ rfl (Row.setRow HZ1.out) Tryd.underlying26 rfl infoN) rfl HP.out
    | true =>
      have hE : repE n f t = rightE n := by unfold repE; rw [hf, ht]; rfl
      have HE : Hid _ := hE
      have HTT : Hid (splitB (bl t) = true) := ht
      have HST : Hid (∀ wx, Below w.heap.size w wx → Calls Tryd.prog 32 #[.string t] wx fun e w' => e = .returned (.tuple #[.string (t.extract 7 39), .string (t.extract 40 t.size), .int .i64 0]) ∧ Below wx.heap.size wx w') := fun wx hx => by
        rw [← S2.splitV_yes ht]
        exact S2.split_ok t wx hts (HT.out.below hx HT.out.pos) (S2.NTab.keep HNT.out hx)
      have HRI : Hid (∀ wx, Below w.heap.size w wx → Calls Tryd.prog 29 #[.agg C] wx fun e w' => e = .returned (.int .i64 (rightE n)) ∧ Below wx.heap.size wx w') := fun wx hx => right_ok n wx C (HND.out.keep hx) h6
      obtain ⟨r, hr⟩ : ∃ r, r = rightE n := ⟨_, rfl⟩
      have HRE : Hid _ := hr
      rw [← hr] at HRI hE
      have HE2 : Hid _ := hE
      obtain ⟨sf, hsfe⟩ : ∃ x, x = f.extract 7 39 := ⟨_, rfl⟩
      obtain ⟨st, hste⟩ : ∃ x, x = t.extract 7 39 := ⟨_, rfl⟩
      have HSF : Hid _ := hsfe
      have HSTT : Hid _ := hste
      have HS1 : Hid (sf.size = 32) := by show _ = _; rw [hsfe]; exact split_size hf
      have HS2 : Hid (st.size = 32) := by show _ = _; rw [hste]; exact split_size ht
      rw [← hsfe] at hsf
      rw [← hste] at HST
      clear hE hf ht hr hsfe hste
      have hrr := HRI
      go_enter Tryd.func16, Tryd.ntmps16
      go_wp2_with fail
      refine hsf.mono ?_
      rintro e w1 ⟨rfl, hb1⟩
      have hst := HST.out w1 (HX.out w1 hb1)
      have HB1 : Hid _ := hb1
      clear hsf hb1
      go_wp2_with fail
      refine hst.mono ?_
      rintro e w2 ⟨rfl, hb2⟩
      have HB2 : Hid _ := HB1.out.trans (hb2.mono HB1.out.size)
      have hri := HRI.out w2 (HX.out w2 HB2.out)
      have HR2 : Hid _ := HRX.out w2 HB2.out
      clear hst hb2
      go_wp2_with (refine wpList_load_row rfl 26 _ rfl w.heap.size rfl 26 C (0, 0) _ HR2.out Tryd.underlying26 rfl hsi ?_)
      refine hri.mono ?_
      rintro e w3 ⟨rfl, hb3⟩
      have HB3 : Hid (Below wA.heap.size wA w3) := HB2.out.trans (hb3.mono HB2.out.size)
      have HZ1 : Hid _ := HZX.out w3 HB3.out
      have HR3 : Hid _ := HRX.out w3 HB3.out
      clear hri hb3
      by_cases h0 : r = 0
      · subst h0
        have hc1 := Lib.run_convert_string_bytes (P := Tryd.prog) w3 9 22 5 sf Tryd.underlying9 Tryd.underlying22 Tryd.underlying5
        obtain ⟨w4, hw4⟩ : ∃ x, x = Lib.bytesWorld w3 5 sf := ⟨_, rfl⟩
        have hb4 : Below w3.heap.size w3 w4 := by rw [hw4]; exact S2.bytesWorld_below w3 sf
        have hB4 : BsAt w4 (.slice (some ⟨w3.heap.size, 0, none⟩) sf.size (grownCap w3 sf.size 0 5)) (bl sf) := by rw [hw4]; exact bsConv w3 sf (by rw [HS1.out]; decide)
        rw [← hw4] at hc1
        have hc2 := Lib.run_convert_string_bytes (P := Tryd.prog) w4 9 22 5 st Tryd.underlying9 Tryd.underlying22 Tryd.underlying5
        obtain ⟨w5, hw5⟩ : ∃ x, x = Lib.bytesWorld w4 5 st := ⟨_, rfl⟩
        have hb5 : Below w4.heap.size w4 w5 := by rw [hw5]; exact S2.bytesWorld_below w4 st
        have hB5 : BsAt w5 (.slice (some ⟨w4.heap.size, 0, none⟩) st.size (grownCap w4 st.size 0 5)) (bl st) := by rw [hw5]; exact bsConv w4 st (by rw [HS2.out]; decide)
        rw [← hw5] at hc2
        have hb35 : Below w3.heap.size w3 w5 := hb4.trans (hb5.mono hb4.size)
        have hbA5 : Below wA.heap.size wA w5 := HB3.out.trans (hb35.mono HB3.out.size)
        have hbw5 := HX.out w5 hbA5
        have hrp := replaced_ok (bl sf) (bl st) (by rw [bl_len]; exact HS1.out) (by rw [bl_len]; exact HS2.out) _ _ n h6 (right_sq n HRE.out.symm) w5 C (HND.out.keep hbw5) (hB4.keep hb5) hB5 (HM.out.keep hbw5)
        have HBA5 : Hid _ := hbA5
        have HBw5 : Hid _ := hbw5
        clear hw4 hw5 hb4 hB4 hb5 hB5 hb35 hbA5 hbw5
        go_wp2_with (first
          | refine wpList_load_row rfl 26 _ rfl w.heap.size rfl 26 C (0, 0) _ HR3.out Tryd.underlying26 rfl hsi ?_
          | (go_at_call 33; refine hrp.mono ?_; rintro e w6 ⟨C6, rfl, hN6, hb6⟩
             have hz6 := HZX.out w6 (HBA5.out.trans (hb6.mono HBA5.out.size))
             have HN6 : Hid _ := hN6
             have HB6 : Hid _ := hb6
             have HZ6 : Hid _ := hz6
             have hC6 := hN6.at'.size
             have h16 := NodeAt.one hN6.at'
             clear hrp hN6 hb6 hz6)
          | refine wpList_store_row rfl 26 _ _ rfl (w.heap.size + 1) C6 rfl rfl 26 nodeZ HZ6.out (by rw [infoN, hC6]) hC6.symm h16 ?_)
        have hs6 := HB6.out.size
        have hA : w.heap.size + 1 < wA.heap.size := Row.lt HZ.out
        have hB5s := HBA5.out.size
        have hoth : ∀ q, q ≠ w.heap.size + 1 → (w6.setRow (w.heap.size + 1) C6).heap[q]? = w6.heap[q]? := fun q hq => setRow_other w6 (w.heap.size + 1) q _ hq
        have hss : (w6.setRow (w.heap.size + 1) C6).heap.size = w6.heap.size := by simp [World.setRow]
        have hsw : w.heap.size ≤ w5.heap.size := HBw5.out.size
        refine bodyPost_ret (results_cell_row2 resultsRe _ _ (w.heap.size + 1) 26 C6 (0, 0) _ rfl (Row.setRow HZ6.out) Tryd.underlying26 rfl (by rw [infoN, hC6])) rfl ⟨C6, by rw [HE2.out]; rfl, ?_, bel_setRow (HBw5.out.trans (HB6.out.mono HBw5.out.size)) (by omega) _⟩
        have e : repN n f t = rpN (bl sf) (bl st) n := by
          unfold repN
          rw [if_pos HE2.out, HSF.out, HSTT.out, sgn_ex, sgn_ex]
        rw [e]
        exact (HN6.out.keep fun b hb => hoth b (by omega)).mono fun b hb => ⟨by omega, by rw [hss]; exact hb.2⟩
      · have hr0 : decide (r = 0) = false := decide_eq_false h0
        have hr1 : (r == 0) = false := by simpa using h0
        have HP : Hid _ := HERR.out w3 r HB3.out HE2.out h0
        go_wp2_with (refine wpList_store_row rfl 26 _ _ rfl (w.heap.size + 1) nodeZ rfl rfl 26 nodeZ HZ1.out infoN rfl nodeZ_one ?_)
        exact bodyPost_ret (results_cell_row2 resultsRe _ _ (w.heap.size + 1) 26 nodeZ (0, 0) _ rfl (Row.setRow HZ1.out) Tryd.underlying26 rfl infoN) rfl HP.out
end Go.Proofs.YtpkbfljoakodoaaDoor
