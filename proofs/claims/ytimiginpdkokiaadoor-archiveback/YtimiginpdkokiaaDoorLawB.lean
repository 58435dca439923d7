/- My own work: the walk of the law ArchiveBack. -/
import Derived.Test.YtimiginpdkokiaaDoorUses
namespace Go.Proofs.YtimiginpdkokiaaDoor
open Go.RowKit

set_option maxRecDepth 20000 in
set_option maxHeartbeats 16000000 in
theorem law_back (n o : Nd) (d : ByteArray) (a : Option Addr) (c : Nat) (w : World) (C D : Array Value) (hG : GH w) (hn : NodeAt w n C) (ho : NodeAt w o D) (hd : BytesAt w a d c) : Calls Tryd.prog 5 #[.agg C, .agg D, .slice a d.size c] w fun e w' => e = .returned (.bool true) ∧ Below w.heap.size w w' := by
  have hb0 : Below w.heap.size w (w.alloc (.cells C 26)) := (Below.refl _ _).alloc (Nat.le_refl _) _
  have hsz0 : (w.alloc (.cells C 26)).heap.size = w.heap.size + 1 := by simp
  have hb1 : Below w.heap.size w ((w.alloc (.cells C 26)).alloc (.cells D 26)) := hb0.alloc (by omega) _
  obtain ⟨wB, hwB⟩ : ∃ wB, wB = (w.alloc (.cells C 26)).alloc (.cells D 26) := ⟨_, rfl⟩
  have hRa : Row wB w.heap.size C 26 := by rw [hwB]; exact (Row.new w _ 26).alloc _
  have hRb : Row wB (w.heap.size + 1) D 26 := by
    have := Row.new (w.alloc (.cells C 26)) D 26
    rw [hsz0, ← hwB] at this
    exact this
  have hbB : Below w.heap.size w wB := by rw [hwB]; exact hb1
  have HR0 : Hid (Row ((w.alloc (.cells C 26)).alloc (.cells D 26)) w.heap.size C 26) := by show Row _ _ _ _; rw [← hwB]; exact hRa
  have hsC : (Tryd.prog.info? 26).map (·.size) = some C.size := by rw [infoN, hn.size]
  have hsD : (Tryd.prog.info? 26).map (·.size) = some D.size := by rw [infoN, ho.size]
  have hsC2 : (Tryd.prog.info? 26).map (·.size) = some C.toList.length := by rw [infoN, Array.length_toList, hn.size]
  have hsD2 : (Tryd.prog.info? 26).map (·.size) = some D.toList.length := by rw [infoN, Array.length_toList, ho.size]
  have HBB : Hid (∀ wx, Below wB.heap.size wB wx → Below w.heap.size w wx) := fun wx hx => hbB.trans (hx.mono hbB.size)
  have HRA : Hid (∀ wx, Below wB.heap.size wB wx → Row wx w.heap.size C 26) := fun wx hx => hRa.below hx hRa.lt
  have HRB : Hid (∀ wx, Below wB.heap.size wB wx → Row wx (w.heap.size + 1) D 26) := fun wx hx => hRb.below hx hRb.lt
  have HN : Hid (∀ wx, Below wB.heap.size wB wx → NodeAt wx n C) := fun wx hx => hn.keep (HBB.out wx hx)
  have HO : Hid (∀ wx, Below wB.heap.size wB wx → NodeAt wx o D) := fun wx hx => ho.keep (HBB.out wx hx)
  have HG : Hid (∀ wx, Below wB.heap.size wB wx → GH wx) := fun wx hx => hG.below (HBB.out wx hx)
  have HLN : Hid (∀ wx, Below wB.heap.size wB wx → Calls Tryd.prog 7 #[.agg C, .int .i64 0] wx fun e w' => e = .returned (.bool (largeB n)) ∧ Below wx.heap.size wx w') := fun wx hx => large_ok n wx C (HN.out wx hx)
  have HLO : Hid (∀ wx, Below wB.heap.size wB wx → Calls Tryd.prog 7 #[.agg D, .int .i64 0] wx fun e w' => e = .returned (.bool (largeB o)) ∧ Below wx.heap.size wx w') := fun wx hx => large_ok o wx D (HO.out wx hx)
  have HCN : Hid (largeB n = false → n.count ≤ 16000) := fun h => by have := large_count h; omega
  have HCO : Hid (largeB o = false → o.count ≤ 16000) := fun h => by have := large_count h; omega
  have HEN : Hid (n.count ≤ 16000 → ∀ wx, Below wB.heap.size wB wx → Calls Tryd.prog 8 #[.agg C] wx fun e w' => EncPost n wx e w') := fun hc wx hx => encode_ok n wx C (HN.out wx hx) hc
  have HEO : Hid (o.count ≤ 16000 → ∀ wx, Below wB.heap.size wB wx → Calls Tryd.prog 8 #[.agg D] wx fun e w' => EncPost o wx e w') := fun hc wx hx => encode_ok o wx D (HO.out wx hx) hc
  have HE2 : Hid (∀ wx, Calls Tryd.prog 8 #[.agg (nodeV 2 false none 0 0 none 0 0 none 0 0)] wx fun e w' => EncPost nd2 wx e w') := fun wx => encode_ok nd2 wx _ (node0_at wx 2 (by omega)) nd2_count
  have HDX : Hid (∀ wx, Below wB.heap.size wB wx → Calls Tryd.prog 13 #[.slice a d.size c] wx fun r w' => DecPost d.data.toList wx r w') := fun wx hx => by
    obtain ⟨b, off, h⟩ := inB_bytes hd
    have hl : d.data.toList.length = d.size := by rw [Array.length_toList]; rfl
    have := decode_ok d.data.toList a b off c wx (HG.out wx hx) (h.keep (HBB.out wx hx))
    rw [hl] at this
    exact this
  have HCV : Hid (∀ wx, Below wB.heap.size wB wx → (convert 22 9 (.slice a d.size c)).run Tryd.prog wx = .ok (.string d) wx) := fun wx hx => conv_bytes wx a d c (hd.keep (HBB.out wx hx))
  have HSM : Hid (∀ wx, Below wB.heap.size wB wx → Calls Tryd.prog 15 #[.agg C, .agg D] wx fun e w' => e = .returned (.bool (sameN n o)) ∧ Below wx.heap.size wx w') := fun wx hx => same_ok n o wx C D (HN.out wx hx) (HO.out wx hx)
  have HSB : Hid (Below wB.heap.size wB wB) := Below.refl _ _
  have HW : Hid (wB = (w.alloc (.cells C 26)).alloc (.cells D 26)) := hwB
  clear hb0 hb1 hRa hRb hbB hn ho hd hG hsz0 hwB
  generalize hLN : largeB n = ln at *
  generalize hLO : largeB o = lo at *
  clear hLN hLO
  go_enter Tryd.func5, Tryd.ntmps5
  go_wp2_with (refine wpList_load_row rfl 26 _ rfl w.heap.size rfl 26 C (0, 0) _ HR0.out Tryd.underlying26 rfl hsC ?_)
  rw [← HW.out]
  refine Calls.mono (HLN.out wB HSB.out) ?_
  clear HLN HR0
  rintro er w1 ⟨rfl, hb1⟩
  have HS1 : Hid (Below wB.heap.size wB w1) := hb1
  clear hb1
  cases ln with
  | true =>
    go_wp2
    go_ret
    exact ⟨rfl, HBB.out _ HS1.out⟩
  | false =>
    have hcn := HCN.out rfl
    have hRb := HRB.out _ HS1.out
    go_wp2_with (refine load_want (by rfl) 26 _ rfl (w.heap.size + 1) rfl 26 D _ hRb Tryd.underlying26 rfl hsD ?_)
    refine Calls.mono (HLO.out w1 HS1.out) ?_
    clear HLO HCN hRb
    rintro er w2 ⟨rfl, hb2⟩
    have HS2 : Hid (Below wB.heap.size wB w2) := HS1.out.trans (hb2.mono HS1.out.size)
    clear hb2 HS1
    cases lo with
    | true =>
      go_wp2
      go_ret
      exact ⟨rfl, HBB.out _ HS2.out⟩
    | false =>
      have hco := HCO.out rfl
      clear HCO
      go_wp2_with fail
      refine Calls.mono (HE2.out w2) ?_
      clear HE2
      intro er w3 hp3
      obtain ⟨hb3, ⟨hne, _⟩ | ⟨_, a3, c3, he3, _⟩⟩ := encOut hp3
      · exact absurd nd2_right hne
      rw [nd2_len] at he3
      subst he3
      have HS3 : Hid (Below wB.heap.size wB w3) := HS2.out.trans (hb3.mono HS2.out.size)
      have hRa := HRA.out _ HS3.out
      clear hp3 hb3 HS2
      go_wp2_with (refine wpList_load_row rfl 26 _ rfl w.heap.size rfl 26 C (0, 0) _ hRa Tryd.underlying26 rfl hsC ?_)
      refine Calls.mono (HEN.out hcn w3 HS3.out) ?_
      clear HEN hRa
      intro er w4 hp4
      obtain ⟨hb4, ⟨hne4, rfl⟩ | ⟨hz4, a4, c4, rfl, hbf4⟩⟩ := encOut hp4
      · have HST : Hid (Below wB.heap.size wB w4) := HS3.out.trans (hb4.mono HS3.out.size)
        clear hp4 hb4 HS3 HRA HRB HN HO HG HEO HSM hcn hco hsC2 hsD2
        generalize rightE n = rn at *
        go_wp2_with fail
        refine Calls.mono (HDX.out _ HST.out) ?_
        intro er w10 hp10
        obtain ⟨hb10, ⟨e10, he10, rfl⟩ | ⟨y, Cy, hX, hy0, _, rfl, hy⟩⟩ := decAny hp10
        · have hba : Below w10.heap.size w10 (w10.alloc (.cells node0 26)) := (Below.refl _ _).alloc (Nat.le_refl _) _
          have hS : Below wB.heap.size wB (w10.alloc (.cells node0 26)) := HST.out.trans ((hb10.trans (hba.mono hb10.size)).mono HST.out.size)
          have HS : Hid (Below wB.heap.size wB (w10.alloc (.cells node0 26))) := hS
          have hRy : Row (w10.alloc (.cells node0 26)) w10.heap.size node0 26 := Row.new w10 node0 _
          have HM : Hid (Calls Tryd.prog 15 #[.agg node0, .agg node0] (w10.alloc (.cells node0 26)) fun e w' => e = .returned (.bool true) ∧ Below (w10.alloc (.cells node0 26)).heap.size (w10.alloc (.cells node0 26)) w') := by
            have := same_ok (.mk 0 false ⟨#[]⟩ [] []) (.mk 0 false ⟨#[]⟩ [] []) (w10.alloc (.cells node0 26)) _ _ (node0_at _ 0 (by omega)) (node0_at _ 0 (by omega))
            rw [sameN_refl] at this
            exact this
          clear hp10 hb10 hba hS HDX HCV
          go_wp2_with (first
            | refine wpList_store_new rfl 26 _ _ rfl w10 _ node0 26 rfl w10.heap.size rfl rfl rfl info0 rfl node0_one ?_
            | refine wpList_load_row rfl 26 _ rfl w10.heap.size rfl 26 node0 (0, 0) _ hRy Tryd.underlying26 rfl info0 ?_)
          generalize w10.alloc (.cells node0 26) = w11 at *
          refine Calls.mono HM.out ?_
          rintro er w12 ⟨rfl, hb12⟩
          have HSZ : Hid (Below wB.heap.size wB w12) := HS.out.trans (hb12.mono HS.out.size)
          clear HM hRy hb12
          go_wp2
          go_ret
          exact ⟨rfl, HBB.out _ HSZ.out⟩
        · have h5 := hy.at'.size
          have hC1 := hy.at'.one
          have hCi : (Tryd.prog.info? 26).map (·.size) = some Cy.size := by rw [infoN, h5]
          have hba : Below w10.heap.size w10 (w10.alloc (.cells Cy 26)) := (Below.refl _ _).alloc (Nat.le_refl _) _
          have hS : Below wB.heap.size wB (w10.alloc (.cells Cy 26)) := HST.out.trans ((hb10.trans (hba.mono hb10.size)).mono HST.out.size)
          have HS : Hid (Below wB.heap.size wB (w10.alloc (.cells Cy 26))) := hS
          have hRy : Row (w10.alloc (.cells Cy 26)) w10.heap.size Cy 26 := Row.new w10 Cy _
          have HEY : Hid (Calls Tryd.prog 8 #[.agg Cy] (w10.alloc (.cells Cy 26)) fun e w' => EncPost y (w10.alloc (.cells Cy 26)) e w') := encode_ok y _ Cy (hy.at'.keep hba) (by have := (rightE_cen hy0).2; omega)
          have HY0 : Hid (rightE y = 0) := hy0
          have HDY : Hid ((⟨(encA y).toArray⟩ : ByteArray) = d) := by show _ = _; rw [← hX]
          clear hp10 hb10 hba hS HDX hy hX hy0
          go_wp2_with (first
            | refine wpList_store_new rfl 26 _ _ rfl w10 _ Cy 26 rfl w10.heap.size rfl rfl rfl hCi h5.symm hC1 ?_
            | refine wpList_load_row rfl 26 _ rfl w10.heap.size rfl 26 Cy (0, 0) _ hRy Tryd.underlying26 rfl hCi ?_)
          generalize w10.alloc (.cells Cy 26) = w11 at *
          refine Calls.mono HEY.out ?_
          clear HEY hRy
          intro er w12 hp12
          obtain ⟨hb12, ⟨hne, _⟩ | ⟨_, a12, c12, rfl, hbf⟩⟩ := encOut hp12
          · exact absurd HY0.out hne
          have HSZ : Hid (Below wB.heap.size wB w12) := HS.out.trans (hb12.mono HS.out.size)
          have cv1 := conv_buf w12 _ _ _ hbf
          rw [HDY.out] at cv1
          have cv2 := HCV.out _ HSZ.out
          generalize (encA y).length = Ly at *
          clear hp12 hb12 hbf HCV
          go_wp2
          go_ret
          exact ⟨rfl, HBB.out _ HSZ.out⟩
      · have HS4 : Hid (Below wB.heap.size wB w4) := HS3.out.trans (hb4.mono HS3.out.size)
        obtain ⟨b4, hin4, _⟩ := inB_buf hbf4
        have hle4 := hin4.le
        have hcm4 := hin4.cm
        have HI4 : Hid (InB w4 a4 b4 0 (encA n) c4) := hin4
        have HU4 : Hid (Buf w4 w3.heap.size (.slice a4 (encA n).length c4) (encA n)) := hbf4
        have HZ4 : Hid (rightE n = 0) := hz4
        obtain ⟨L4, hL4⟩ : ∃ L, L = (encA n).length := ⟨_, rfl⟩
        have HL4 : Hid (L4 = (encA n).length) := hL4
        rw [← hL4] at hle4
        rw [← hL4] at HU4
        rw [← hL4]
        clear hp4 hb4 HS3 hin4 hbf4 hz4 hL4
        by_cases hlen : L4 ≤ 1048576
        rotate_left
        · have hlen' : ¬ (L4 : Int) ≤ 1048576 := by omega
          have HST : Hid (Below wB.heap.size wB w4) := HS4.out
          clear HS4 HRA HRB HN HO HG HEO HSM hcn hco hsC2 hsD2 HI4 HU4 hlen
          go_wp2_with fail
          refine Calls.mono (HDX.out _ HST.out) ?_
          intro er w10 hp10
          obtain ⟨hb10, ⟨e10, he10, rfl⟩ | ⟨y, Cy, hX, hy0, _, rfl, hy⟩⟩ := decAny hp10
          · have hba : Below w10.heap.size w10 (w10.alloc (.cells node0 26)) := (Below.refl _ _).alloc (Nat.le_refl _) _
            have hS : Below wB.heap.size wB (w10.alloc (.cells node0 26)) := HST.out.trans ((hb10.trans (hba.mono hb10.size)).mono HST.out.size)
            have HS : Hid (Below wB.heap.size wB (w10.alloc (.cells node0 26))) := hS
            have hRy : Row (w10.alloc (.cells node0 26)) w10.heap.size node0 26 := Row.new w10 node0 _
            have HM : Hid (Calls Tryd.prog 15 #[.agg node0, .agg node0] (w10.alloc (.cells node0 26)) fun e w' => e = .returned (.bool true) ∧ Below (w10.alloc (.cells node0 26)).heap.size (w10.alloc (.cells node0 26)) w') := by
              have := same_ok (.mk 0 false ⟨#[]⟩ [] []) (.mk 0 false ⟨#[]⟩ [] []) (w10.alloc (.cells node0 26)) _ _ (node0_at _ 0 (by omega)) (node0_at _ 0 (by omega))
              rw [sameN_refl] at this
              exact this
            clear hp10 hb10 hba hS HDX HCV
            go_wp2_with (first
              | refine wpList_store_new rfl 26 _ _ rfl w10 _ node0 26 rfl w10.heap.size rfl rfl rfl info0 rfl node0_one ?_
              | refine wpList_load_row rfl 26 _ rfl w10.heap.size rfl 26 node0 (0, 0) _ hRy Tryd.underlying26 rfl info0 ?_)
            generalize w10.alloc (.cells node0 26) = w11 at *
            refine Calls.mono HM.out ?_
            rintro er w12 ⟨rfl, hb12⟩
            have HSZ : Hid (Below wB.heap.size wB w12) := HS.out.trans (hb12.mono HS.out.size)
            clear HM hRy hb12
            go_wp2
            go_ret
            exact ⟨rfl, HBB.out _ HSZ.out⟩
          · have h5 := hy.at'.size
            have hC1 := hy.at'.one
            have hCi : (Tryd.prog.info? 26).map (·.size) = some Cy.size := by rw [infoN, h5]
            have hba : Below w10.heap.size w10 (w10.alloc (.cells Cy 26)) := (Below.refl _ _).alloc (Nat.le_refl _) _
            have hS : Below wB.heap.size wB (w10.alloc (.cells Cy 26)) := HST.out.trans ((hb10.trans (hba.mono hb10.size)).mono HST.out.size)
            have HS : Hid (Below wB.heap.size wB (w10.alloc (.cells Cy 26))) := hS
            have hRy : Row (w10.alloc (.cells Cy 26)) w10.heap.size Cy 26 := Row.new w10 Cy _
            have HEY : Hid (Calls Tryd.prog 8 #[.agg Cy] (w10.alloc (.cells Cy 26)) fun e w' => EncPost y (w10.alloc (.cells Cy 26)) e w') := encode_ok y _ Cy (hy.at'.keep hba) (by have := (rightE_cen hy0).2; omega)
            have HY0 : Hid (rightE y = 0) := hy0
            have HDY : Hid ((⟨(encA y).toArray⟩ : ByteArray) = d) := by show _ = _; rw [← hX]
            clear hp10 hb10 hba hS HDX hy hX hy0
            go_wp2_with (first
              | refine wpList_store_new rfl 26 _ _ rfl w10 _ Cy 26 rfl w10.heap.size rfl rfl rfl hCi h5.symm hC1 ?_
              | refine wpList_load_row rfl 26 _ rfl w10.heap.size rfl 26 Cy (0, 0) _ hRy Tryd.underlying26 rfl hCi ?_)
            generalize w10.alloc (.cells Cy 26) = w11 at *
            refine Calls.mono HEY.out ?_
            clear HEY hRy
            intro er w12 hp12
            obtain ⟨hb12, ⟨hne, _⟩ | ⟨_, a12, c12, rfl, hbf⟩⟩ := encOut hp12
            · exact absurd HY0.out hne
            have HSZ : Hid (Below wB.heap.size wB w12) := HS.out.trans (hb12.mono HS.out.size)
            have cv1 := conv_buf w12 _ _ _ hbf
            rw [HDY.out] at cv1
            have cv2 := HCV.out _ HSZ.out
            generalize (encA y).length = Ly at *
            clear hp12 hb12 hbf HCV
            go_wp2
            go_ret
            exact ⟨rfl, HBB.out _ HSZ.out⟩
        have hlen' : (L4 : Int) ≤ 1048576 := by omega
        have HD4 : Hid (Calls Tryd.prog 13 #[.slice a4 L4 c4] w4 fun r w' => DecPost (encA n) w4 r w') := by
          have := decode_ok (encA n) a4 b4 0 c4 w4 (HG.out w4 HS4.out) HI4.out
          show Calls _ _ _ _ _
          rw [HL4.out]
          exact this
        have HGD : Hid (∀ r w', DecPost (encA n) w4 r w' → Below w4.heap.size w4 w' ∧ ∃ C, r = .returned (.tuple #[.agg C, .int .i64 0]) ∧ NodeOn w' (fun b => w4.heap.size ≤ b ∧ b < w'.heap.size) n C) := fun r w' h => decGood HZ4.out (by rw [← HL4.out]; exact hlen) h
        clear hlen
        go_wp2_with fail
        refine Calls.mono HD4.out ?_
        intro er w5 hp5
        obtain ⟨hb5, Cy, rfl, hy⟩ := HGD.out _ _ hp5
        have h5 := hy.at'.size
        have hC1 := hy.at'.one
        have hCi : (Tryd.prog.info? 26).map (·.size) = some Cy.size := by rw [infoN, h5]
        have hba : Below w5.heap.size w5 (w5.alloc (.cells Cy 26)) := (Below.refl _ _).alloc (Nat.le_refl _) _
        have hb45 : Below w4.heap.size w4 (w5.alloc (.cells Cy 26)) := hb5.trans (hba.mono hb5.size)
        have hS5 : Below wB.heap.size wB (w5.alloc (.cells Cy 26)) := HS4.out.trans (hb45.mono HS4.out.size)
        have hRy : Row (w5.alloc (.cells Cy 26)) w5.heap.size Cy 26 := Row.new w5 Cy _
        have hRa := HRA.out _ hS5
        have HS5 : Hid (Below wB.heap.size wB (w5.alloc (.cells Cy 26))) := hS5
        have HU5 : Hid (Buf (w5.alloc (.cells Cy 26)) w3.heap.size (.slice a4 L4 c4) (encA n)) := by
          have := HU4.out
          show Buf _ _ _ _
          exact ownsRow_keep this fun k hk _ => hb45.block k (ownsRow_lt this k hk).1
        have HM5 : Hid (Calls Tryd.prog 15 #[.agg Cy, .agg C] (w5.alloc (.cells Cy 26)) fun e w' => e = .returned (.bool true) ∧ Below (w5.alloc (.cells Cy 26)).heap.size (w5.alloc (.cells Cy 26)) w') := by
          have := same_ok n n (w5.alloc (.cells Cy 26)) Cy C (hy.at'.keep hba) (HN.out _ hS5)
          rw [sameN_refl] at this
          exact this
        clear hp5 hb5 HGD HD4 hy hba hb45 hS5 HU4 HI4 HS4
        go_wp2_with (first
          | refine wpList_store_new rfl 26 _ _ rfl w5 _ Cy 26 rfl w5.heap.size rfl rfl rfl hCi h5.symm hC1 ?_
          | refine load_want (by rfl) 26 _ rfl w5.heap.size rfl 26 Cy _ hRy Tryd.underlying26 rfl hCi ?_
          | refine load_want (by rfl) 26 _ rfl w.heap.size rfl 26 C _ hRa Tryd.underlying26 rfl hsC ?_)
        generalize w5.alloc (.cells Cy 26) = w6 at *
        refine Calls.mono HM5.out ?_
        clear HM5 hRy hRa h5 hC1 hCi
        rintro er w7 ⟨rfl, hb7⟩
        have HS7 : Hid (Below wB.heap.size wB w7) := HS5.out.trans (hb7.mono HS5.out.size)
        have HU7 : Hid (Buf w7 w3.heap.size (.slice a4 L4 c4) (encA n)) := by
          have := HU5.out
          show Buf _ _ _ _
          exact ownsRow_keep this fun k hk _ => hb7.block k (ownsRow_lt this k hk).1
        have hRb := HRB.out _ HS7.out
        clear hb7 HS5 HU5
        go_wp2_with (refine wpList_load_row rfl 26 _ rfl (w.heap.size + 1) rfl 26 D (0, 0) _ hRb Tryd.underlying26 rfl hsD ?_)
        refine Calls.mono (HEO.out hco w7 HS7.out) ?_
        clear HEO hRb
        intro er w8 hp8
        obtain ⟨hb8, ⟨hne8, rfl⟩ | ⟨hz8, a8, c8, rfl, hbf8⟩⟩ := encOut hp8
        · have hS8 : Below wB.heap.size wB w8.drew := (HS7.out.trans (hb8.mono HS7.out.size)).drew
          have HST : Hid (Below wB.heap.size wB w8.drew) := hS8
          clear hp8 hb8 HS7 HU7 HSM HN HO
          generalize rightE o = ro at *
          have hro1 : (ro == 0) = false := by simpa using hne8
          have hro2 : decide (ro = 0) = false := decide_eq_false hne8
          go_wp2_with fail
          refine wp_region_permA [(false, 0), (false, 1), (false, 2), (false, 3), (false, 4), (false, 5), (false, 6), (false, 7), (false, 8), (false, 9), (false, 10), (false, 11), (false, 12)] (fun wx => Below wB.heap.size wB wx) (by kernel_rfl) (by kernel_rfl) hS8 ?_
          refine a_move (some 64) _ rfl rfl rfl (by rfl) ?_
          simp only [Act.put, List.setIfInBounds_toArray, List.set_cons_zero, List.set_cons_succ]
          refine a_value (some 65) ?_ rfl rfl (by rfl) (fun w hw => ?_) ?_
          rotate_left
          · go_simp
            with_reducible rfl
          simp only [Act.put, List.setIfInBounds_toArray, List.set_cons_zero, List.set_cons_succ]
          refine a_move (some 66) _ rfl rfl rfl (by rfl) ?_
          simp only [Act.put, List.setIfInBounds_toArray, List.set_cons_zero, List.set_cons_succ]
          refine a_skip (some 67) rfl rfl (by rfl) ?_
          simp only [Act.put, List.setIfInBounds_toArray, List.set_cons_zero, List.set_cons_succ]
          refine a_skip (some 68) rfl rfl (by rfl) ?_
          simp only [Act.put, List.setIfInBounds_toArray, List.set_cons_zero, List.set_cons_succ]
          refine a_skip (some 69) rfl rfl (by rfl) ?_
          simp only [Act.put, List.setIfInBounds_toArray, List.set_cons_zero, List.set_cons_succ]
          refine a_skip (some 70) rfl rfl (by rfl) ?_
          simp only [Act.put, List.setIfInBounds_toArray, List.set_cons_zero, List.set_cons_succ]
          refine a_skip (some 71) rfl rfl (by rfl) ?_
          simp only [Act.put, List.setIfInBounds_toArray, List.set_cons_zero, List.set_cons_succ]
          refine a_skip (some 72) rfl rfl (by rfl) ?_
          simp only [Act.put, List.setIfInBounds_toArray, List.set_cons_zero, List.set_cons_succ]
          refine a_skip (some 73) rfl rfl (by rfl) ?_
          simp only [Act.put, List.setIfInBounds_toArray, List.set_cons_zero, List.set_cons_succ]
          refine a_skip (some 74) rfl rfl (by rfl) ?_
          simp only [Act.put, List.setIfInBounds_toArray, List.set_cons_zero, List.set_cons_succ]
          refine a_skip (some 75) rfl rfl (by rfl) ?_
          simp only [Act.put, List.setIfInBounds_toArray, List.set_cons_zero, List.set_cons_succ]
          refine a_value (some 76) ?_ rfl rfl (by rfl) (fun w hw => ?_) ?_
          rotate_left
          · go_simp
            with_reducible rfl
          simp only [Act.put, List.setIfInBounds_toArray, List.set_cons_zero, List.set_cons_succ]
          refine a_done ?_
          try simp only [Exit.then]
          go_wp2_with fail
          refine Calls.mono (HDX.out _ HST.out) ?_
          intro er w10 hp10
          obtain ⟨hb10, ⟨e10, he10, rfl⟩ | ⟨y, Cy, hX, hy0, _, rfl, hy⟩⟩ := decAny hp10
          · have hba : Below w10.heap.size w10 (w10.alloc (.cells node0 26)) := (Below.refl _ _).alloc (Nat.le_refl _) _
            have hS : Below wB.heap.size wB (w10.alloc (.cells node0 26)) := HST.out.trans ((hb10.trans (hba.mono hb10.size)).mono HST.out.size)
            have HS : Hid (Below wB.heap.size wB (w10.alloc (.cells node0 26))) := hS
            have hRy : Row (w10.alloc (.cells node0 26)) w10.heap.size node0 26 := Row.new w10 node0 _
            have HM : Hid (Calls Tryd.prog 15 #[.agg node0, .agg node0] (w10.alloc (.cells node0 26)) fun e w' => e = .returned (.bool true) ∧ Below (w10.alloc (.cells node0 26)).heap.size (w10.alloc (.cells node0 26)) w') := by
              have := same_ok (.mk 0 false ⟨#[]⟩ [] []) (.mk 0 false ⟨#[]⟩ [] []) (w10.alloc (.cells node0 26)) _ _ (node0_at _ 0 (by omega)) (node0_at _ 0 (by omega))
              rw [sameN_refl] at this
              exact this
            clear hp10 hb10 hba hS HDX HCV
            go_wp2_with (first
              | refine wpList_store_new rfl 26 _ _ rfl w10 _ node0 26 rfl w10.heap.size rfl rfl rfl info0 rfl node0_one ?_
              | refine wpList_load_row rfl 26 _ rfl w10.heap.size rfl 26 node0 (0, 0) _ hRy Tryd.underlying26 rfl info0 ?_)
            generalize w10.alloc (.cells node0 26) = w11 at *
            refine Calls.mono HM.out ?_
            rintro er w12 ⟨rfl, hb12⟩
            have HSZ : Hid (Below wB.heap.size wB w12) := HS.out.trans (hb12.mono HS.out.size)
            clear HM hRy hb12
            go_wp2
            go_ret
            exact ⟨rfl, HBB.out _ HSZ.out⟩
          · have h5 := hy.at'.size
            have hC1 := hy.at'.one
            have hCi : (Tryd.prog.info? 26).map (·.size) = some Cy.size := by rw [infoN, h5]
            have hba : Below w10.heap.size w10 (w10.alloc (.cells Cy 26)) := (Below.refl _ _).alloc (Nat.le_refl _) _
            have hS : Below wB.heap.size wB (w10.alloc (.cells Cy 26)) := HST.out.trans ((hb10.trans (hba.mono hb10.size)).mono HST.out.size)
            have HS : Hid (Below wB.heap.size wB (w10.alloc (.cells Cy 26))) := hS
            have hRy : Row (w10.alloc (.cells Cy 26)) w10.heap.size Cy 26 := Row.new w10 Cy _
            have HEY : Hid (Calls Tryd.prog 8 #[.agg Cy] (w10.alloc (.cells Cy 26)) fun e w' => EncPost y (w10.alloc (.cells Cy 26)) e w') := encode_ok y _ Cy (hy.at'.keep hba) (by have := (rightE_cen hy0).2; omega)
            have HY0 : Hid (rightE y = 0) := hy0
            have HDY : Hid ((⟨(encA y).toArray⟩ : ByteArray) = d) := by show _ = _; rw [← hX]
            clear hp10 hb10 hba hS HDX hy hX hy0
            go_wp2_with (first
              | refine wpList_store_new rfl 26 _ _ rfl w10 _ Cy 26 rfl w10.heap.size rfl rfl rfl hCi h5.symm hC1 ?_
              | refine wpList_load_row rfl 26 _ rfl w10.heap.size rfl 26 Cy (0, 0) _ hRy Tryd.underlying26 rfl hCi ?_)
            generalize w10.alloc (.cells Cy 26) = w11 at *
            refine Calls.mono HEY.out ?_
            clear HEY hRy
            intro er w12 hp12
            obtain ⟨hb12, ⟨hne, _⟩ | ⟨_, a12, c12, rfl, hbf⟩⟩ := encOut hp12
            · exact absurd HY0.out hne
            have HSZ : Hid (Below wB.heap.size wB w12) := HS.out.trans (hb12.mono HS.out.size)
            have cv1 := conv_buf w12 _ _ _ hbf
            rw [HDY.out] at cv1
            have cv2 := HCV.out _ HSZ.out
            generalize (encA y).length = Ly at *
            clear hp12 hb12 hbf HCV
            go_wp2
            go_ret
            exact ⟨rfl, HBB.out _ HSZ.out⟩
        · have hS8 : Below wB.heap.size wB w8 := HS7.out.trans (hb8.mono HS7.out.size)
          have hS8d : Below wB.heap.size wB w8.drew := hS8.drew
          have HU8 : Hid (Buf w8 w3.heap.size (.slice a4 L4 c4) (encA n)) := by
            have := HU7.out
            show Buf _ _ _ _
            exact ownsRow_keep this fun k hk _ => hb8.block k (ownsRow_lt this k hk).1
          obtain ⟨dn, hdn⟩ : ∃ x : ByteArray, x = ⟨(encA n).toArray⟩ := ⟨_, rfl⟩
          obtain ⟨do', hdo⟩ : ∃ x : ByteArray, x = ⟨(encA o).toArray⟩ := ⟨_, rfl⟩
          obtain ⟨q, hq⟩ : ∃ q, q = decide (dn = do') := ⟨_, rfl⟩
          have heq : (dn.toList == do'.toList) = q := (toList_eqb dn do').trans hq.symm
          have q1 : (q != q) = false := by cases q <;> rfl
          have HQ : Hid (sameN n o = q) := by
            show _ = _
            have hz4 := HZ4.out
            rw [hq, hdn, hdo]
            by_cases hno : n = o
            · subst hno
              rw [sameN_refl]
              simp
            · rw [Bool.eq_false_iff.2 (fun h => hno ((sameN_iff n o).1 h))]
              exact (decide_eq_false fun h => hno (encA_inj hz4 hz8 (by simpa using congrArg (fun x : ByteArray => x.data.toList) h))).symm
          have HC1 : Hid (∀ wx, Below w8.heap.size w8 wx → (convert 22 9 (.slice a4 L4 c4)).run Tryd.prog wx = .ok (.string dn) wx) := fun wx hx => by rw [hdn]; exact conv_buf wx _ _ _ (HU8.out.keep hx)
          have HC2 : Hid (∀ wx, Below w8.heap.size w8 wx → (convert 22 9 (.slice a8 (encA o).length c8)).run Tryd.prog wx = .ok (.string do') wx) := fun wx hx => by rw [hdo]; exact conv_buf wx _ _ _ (hbf8.keep hx)
          have HS8 : Hid (Below wB.heap.size wB w8) := hS8
          have HUP : Hid (∀ wx, Below w8.heap.size w8 wx → Below wB.heap.size wB wx) := fun wx hx => hS8.trans (hx.mono hS8.size)
          have hD8 : Below w8.heap.size w8 w8.drew := (Below.refl _ _).drew
          generalize (encA o).length = L8 at *
          clear hp8 hb8 HS7 HU7 HU8 hbf8 hS8 hS8d hdn hdo hz8 hq
          go_wp2_with fail
          refine wp_region_permA [(false, 0), (false, 1), (false, 2), (false, 3), (false, 4), (false, 5), (false, 6), (false, 7), (false, 8), (false, 9), (true, 10), (false, 11), (false, 12)] (fun wx => Below w8.heap.size w8 wx) (by kernel_rfl) (by kernel_rfl) hD8 ?_
          refine a_move (some 64) _ rfl rfl rfl (by rfl) ?_
          simp only [Act.put, List.setIfInBounds_toArray, List.set_cons_zero, List.set_cons_succ]
          refine a_value (some 65) ?_ rfl rfl (by rfl) (fun w hw => ?_) ?_
          rotate_left
          · go_simp
            with_reducible rfl
          simp only [Act.put, List.setIfInBounds_toArray, List.set_cons_zero, List.set_cons_succ]
          refine a_move (some 66) _ rfl rfl rfl (by rfl) ?_
          simp only [Act.put, List.setIfInBounds_toArray, List.set_cons_zero, List.set_cons_succ]
          refine a_move (some 67) _ rfl rfl rfl (by rfl) ?_
          simp only [Act.put, List.setIfInBounds_toArray, List.set_cons_zero, List.set_cons_succ]
          refine a_value (some 68) ?_ rfl rfl (by rfl) (fun w hw => ?_) ?_
          rotate_left
          · have c := HC1.out _ hw
            go_simp
            with_reducible rfl
          simp only [Act.put, List.setIfInBounds_toArray, List.set_cons_zero, List.set_cons_succ]
          refine a_move (some 69) _ rfl rfl rfl (by rfl) ?_
          simp only [Act.put, List.setIfInBounds_toArray, List.set_cons_zero, List.set_cons_succ]
          refine a_value (some 70) ?_ rfl rfl (by rfl) (fun w hw => ?_) ?_
          rotate_left
          · have c := HC2.out _ hw
            go_simp
            with_reducible rfl
          simp only [Act.put, List.setIfInBounds_toArray, List.set_cons_zero, List.set_cons_succ]
          refine a_value (some 71) ?_ rfl rfl (by rfl) (fun w hw => ?_) ?_
          rotate_left
          · go_simp
            with_reducible rfl
          simp only [Act.put, List.setIfInBounds_toArray, List.set_cons_zero, List.set_cons_succ]
          refine a_load_mid (some 72) 26 _ rfl rfl rfl (by rfl) w.heap.size 0 (by go_simp) C.toList _ (fun wx hw => Row.range (HRA.out wx (HUP.out wx hw))) Tryd.underlying26 rfl hsC2 ?_
          simp only [Array.toArray_toList]
          simp only [Act.put, List.setIfInBounds_toArray, List.set_cons_zero, List.set_cons_succ]
          refine a_load_mid (some 73) 26 _ rfl rfl rfl (by rfl) (w.heap.size + 1) 0 (by go_simp) D.toList _ (fun wx hw => Row.range (HRB.out wx (HUP.out wx hw))) Tryd.underlying26 rfl hsD2 ?_
          simp only [Array.toArray_toList]
          simp only [Act.put, List.setIfInBounds_toArray, List.set_cons_zero, List.set_cons_succ]
          refine a_call (some 74) rfl rfl (by rfl) 15 #[.agg C, .agg D] (by go_simp) (Calls.mono (HSM.out _ (HUP.out _ hD8)) ?_)
          rintro er w9 ⟨rfl, hb9⟩
          have hD9 : Below w8.heap.size w8 w9 := hD8.trans (hb9.mono hD8.size)
          refine ⟨_, rfl, hD9, ?_⟩
          simp only [Act.put, List.setIfInBounds_toArray, List.set_cons_zero, List.set_cons_succ]
          rw [HQ.out]
          have HST : Hid (Below wB.heap.size wB w9) := HUP.out _ hD9
          clear hb9 hD8 HQ HSM
          refine a_value (some 75) ?_ rfl rfl (by rfl) (fun w hw => ?_) ?_
          rotate_left
          · go_simp
            with_reducible rfl
          simp only [Act.put, List.setIfInBounds_toArray, List.set_cons_zero, List.set_cons_succ]
          refine a_value (some 76) ?_ rfl rfl (by rfl) (fun w hw => ?_) ?_
          rotate_left
          · go_simp
            with_reducible rfl
          simp only [Act.put, List.setIfInBounds_toArray, List.set_cons_zero, List.set_cons_succ]
          refine a_done ?_
          try simp only [Exit.then]
          clear hD9 HC1 HC2 HUP HS8 HRA HRB HN HO HG
          go_wp2_with fail
          refine Calls.mono (HDX.out _ HST.out) ?_
          intro er w10 hp10
          obtain ⟨hb10, ⟨e10, he10, rfl⟩ | ⟨y, Cy, hX, hy0, _, rfl, hy⟩⟩ := decAny hp10
          · have hba : Below w10.heap.size w10 (w10.alloc (.cells node0 26)) := (Below.refl _ _).alloc (Nat.le_refl _) _
            have hS : Below wB.heap.size wB (w10.alloc (.cells node0 26)) := HST.out.trans ((hb10.trans (hba.mono hb10.size)).mono HST.out.size)
            have HS : Hid (Below wB.heap.size wB (w10.alloc (.cells node0 26))) := hS
            have hRy : Row (w10.alloc (.cells node0 26)) w10.heap.size node0 26 := Row.new w10 node0 _
            have HM : Hid (Calls Tryd.prog 15 #[.agg node0, .agg node0] (w10.alloc (.cells node0 26)) fun e w' => e = .returned (.bool true) ∧ Below (w10.alloc (.cells node0 26)).heap.size (w10.alloc (.cells node0 26)) w') := by
              have := same_ok (.mk 0 false ⟨#[]⟩ [] []) (.mk 0 false ⟨#[]⟩ [] []) (w10.alloc (.cells node0 26)) _ _ (node0_at _ 0 (by omega)) (node0_at _ 0 (by omega))
              rw [sameN_refl] at this
              exact this
            clear hp10 hb10 hba hS HDX HCV
            go_wp2_with (first
              | refine wpList_store_new rfl 26 _ _ rfl w10 _ node0 26 rfl w10.heap.size rfl rfl rfl info0 rfl node0_one ?_
              | refine wpList_load_row rfl 26 _ rfl w10.heap.size rfl 26 node0 (0, 0) _ hRy Tryd.underlying26 rfl info0 ?_)
            generalize w10.alloc (.cells node0 26) = w11 at *
            refine Calls.mono HM.out ?_
            rintro er w12 ⟨rfl, hb12⟩
            have HSZ : Hid (Below wB.heap.size wB w12) := HS.out.trans (hb12.mono HS.out.size)
            clear HM hRy hb12
            go_wp2
            go_ret
            exact ⟨rfl, HBB.out _ HSZ.out⟩
          · have h5 := hy.at'.size
            have hC1 := hy.at'.one
            have hCi : (Tryd.prog.info? 26).map (·.size) = some Cy.size := by rw [infoN, h5]
            have hba : Below w10.heap.size w10 (w10.alloc (.cells Cy 26)) := (Below.refl _ _).alloc (Nat.le_refl _) _
            have hS : Below wB.heap.size wB (w10.alloc (.cells Cy 26)) := HST.out.trans ((hb10.trans (hba.mono hb10.size)).mono HST.out.size)
            have HS : Hid (Below wB.heap.size wB (w10.alloc (.cells Cy 26))) := hS
            have hRy : Row (w10.alloc (.cells Cy 26)) w10.heap.size Cy 26 := Row.new w10 Cy _
            have HEY : Hid (Calls Tryd.prog 8 #[.agg Cy] (w10.alloc (.cells Cy 26)) fun e w' => EncPost y (w10.alloc (.cells Cy 26)) e w') := encode_ok y _ Cy (hy.at'.keep hba) (by have := (rightE_cen hy0).2; omega)
            have HY0 : Hid (rightE y = 0) := hy0
            have HDY : Hid ((⟨(encA y).toArray⟩ : ByteArray) = d) := by show _ = _; rw [← hX]
            clear hp10 hb10 hba hS HDX hy hX hy0
            go_wp2_with (first
              | refine wpList_store_new rfl 26 _ _ rfl w10 _ Cy 26 rfl w10.heap.size rfl rfl rfl hCi h5.symm hC1 ?_
              | refine wpList_load_row rfl 26 _ rfl w10.heap.size rfl 26 Cy (0, 0) _ hRy Tryd.underlying26 rfl hCi ?_)
            generalize w10.alloc (.cells Cy 26) = w11 at *
            refine Calls.mono HEY.out ?_
            clear HEY hRy
            intro er w12 hp12
            obtain ⟨hb12, ⟨hne, _⟩ | ⟨_, a12, c12, rfl, hbf⟩⟩ := encOut hp12
            · exact absurd HY0.out hne
            have HSZ : Hid (Below wB.heap.size wB w12) := HS.out.trans (hb12.mono HS.out.size)
            have cv1 := conv_buf w12 _ _ _ hbf
            rw [HDY.out] at cv1
            have cv2 := HCV.out _ HSZ.out
            generalize (encA y).length = Ly at *
            clear hp12 hb12 hbf HCV
            go_wp2
            go_ret
            exact ⟨rfl, HBB.out _ HSZ.out⟩
end Go.Proofs.YtimiginpdkokiaaDoor
