/- My own work: the document's Order, by contract. -/
import Derived.Test.YtkbhckjpmgkgjaaG33
namespace Go.Proofs.Ytkbhckjpmgkgjaa
open Go.RowKit
open Classical

/-- May an info be told? So far k of its references were asked. -/
def KSt (O : List ByteArray) (y : Inf) (k : Nat) (r : Bool) : Prop := (r = true ↔ ∀ x ∈ y.refs.take k, x = y.path ∨ x ∈ O)
theorem KSt.start (O : List ByteArray) (y : Inf) : KSt O y 0 true := ⟨fun _ x hx => by simp at hx, fun _ => rfl⟩
theorem KSt.not {O : List ByteArray} {y : Inf} {k : Nat} (h : KSt O y k false) : KSt O y (k + 1) false := ⟨fun e => (by cases e), fun h1 => h.2 fun x hx => h1 x (by
  by_cases hk : k < y.refs.length
  · rw [List.take_succ_eq_append_getElem hk]; exact List.mem_append_left _ hx
  · rw [List.take_of_length_le (by omega)] at hx ⊢; exact hx)⟩
theorem KSt.yes {O : List ByteArray} {y : Inf} {k : Nat} (h : KSt O y k true) (hk : k < y.refs.length) (hx : y.refs[k] = y.path ∨ y.refs[k] ∈ O) : KSt O y (k + 1) true := ⟨fun _ x hm => by
  rcases take_mem_succ hk hm with h1 | rfl
  · exact h.1 rfl x h1
  · exact hx, fun _ => rfl⟩
theorem KSt.no {O : List ByteArray} {y : Inf} {k : Nat} (_ : KSt O y k true) (hk : k < y.refs.length) (h1 : y.refs[k] ≠ y.path) (h2 : y.refs[k] ∉ O) : KSt O y (k + 1) false := ⟨fun e => (by cases e), fun h3 => by
  rcases h3 y.refs[k] (by rw [List.take_succ_eq_append_getElem hk]; exact List.mem_append_right _ (List.mem_singleton.2 rfl)) with h4 | h4
  · exact absurd h4 h1
  · exact absurd h4 h2⟩
theorem KSt.rdy {L : List Inf} (hf : (L.map (·.path)).Nodup) {O : List ByteArray} {y : Inf} (hy : y ∈ L) (hO : y.path ∉ O) {r : Bool} (h : KSt O y y.refs.length r) : r = true ↔ RdyP L O y.path := by
  unfold KSt at h
  rw [List.take_length] at h
  rw [h]
  constructor
  · exact fun h1 => ⟨hO, y, hy, rfl, h1⟩
  · rintro ⟨_, z, h1, h2, h3⟩
    obtain rfl := inf_one hf h1 hy h2
    exact h3
set_option maxRecDepth 20000 in
set_option maxHeartbeats 16000000 in
theorem refOrder_ok (L : List Inf) (a : Option Addr) (c : Nat) (P dv : List ByteArray) (E : List (Nat × Nat)) (w : World) (h : LsAt w a L c) (hL : L.length ≤ 4096) (hf : Fine L) (hG : Gr L P dv E) (hu : Up P) : Calls Try.prog 14 #[.slice a L.length c] w (OrderPost P E w) := by
  obtain ⟨b, off, ha, hc⟩ := h.ex
  have hle := h.le
  have HA : Hid _ := ha
  have HC : Hid (∀ wx, Below w.heap.size w wx → ∀ i (h : i < L.length), ∃ ra rc, wx.rangeAt b (off + i * 4) (infV L[i] ra rc).toList ∧ InfAt w L[i] ra rc) := fun wx hx i hi => by
    obtain ⟨ra, rc, h3, h4⟩ := hc i hi
    exact ⟨ra, rc, rangeAt_keep h3 hx, h4⟩
  have HPb : Hid (∀ y ∈ L, y.path.size ≤ big) := fun y hy => by
    obtain ⟨t, ht, rfl⟩ := List.getElem_of_mem hy
    obtain ⟨_, _, _, h4⟩ := hc t ht
    exact h4.path
  have HOb : Hid (∀ On, OTold E P.length On → ∀ x ∈ txtsN P On, x.size ≤ big) := fun On hO x hx => by
    obtain ⟨k, _, hk⟩ := (mem_txts hO.lt).1 hx
    obtain ⟨y, hy, rfl⟩ := List.mem_map.1 ((hG.mem x).1 (List.mem_of_getElem? hk))
    exact HPb.out y hy
  obtain ⟨n, hN⟩ : ∃ n, n = L.length := ⟨_, rfl⟩
  have HN : Hid _ := hN
  have HPl : Hid (P.length = n) := by show _ = _; rw [hN]; exact hG.len
  have HOl : Hid (∀ On, OTold E P.length On → (txtsN P On).length = On.length ∧ On.length ≤ n) := fun On hO => ⟨by unfold txtsN; rw [List.length_map], by rw [← HPl.out]; exact hO.few⟩
  rw [← hN] at hL hle ⊢
  have HF : Hid (Fine L) := hf
  have HG : Hid (Gr L P dv E) := hG
  have HU : Hid (Up P) := hu
  obtain ⟨RP, hRP⟩ : ∃ RP, RP = OrderPost P E w := ⟨_, rfl⟩
  have HRP1 : Hid (∀ On w', OTold E P.length On → (∀ k, ¬ RdyE E P.length On k) → On.length < P.length → Below w.heap.size w w' → RP (.returned (.tuple #[.slice none 0 0, .int .i64 16])) w') := fun On w' h1 h2 h3 h4 => by rw [hRP]; exact ⟨E, On, fun _ => Iff.rfl, h1, h2, .inl ⟨h3, rfl, h4⟩⟩
  have HRP2 : Hid (∀ On w' v, OTold E P.length On → On.length = P.length → Told w w' v (txtsN P On) → RP (.returned (.tuple #[v, .int .i64 0])) w') := fun On w' v h1 h3 h4 => by rw [hRP]; exact ⟨E, On, fun _ => Iff.rfl, h1, rdy_full h1 (by omega), .inr ⟨h3, v, rfl, h4⟩⟩
  rw [← hRP]
  have HT0 : Hid (Told w w (.slice none 0 0) []) := told_start w
  clear h ha hc hN hf hG hu hRP
  go_enter Try.func14, Try.ntmps14
  go_wp2
  go_loopw [4] (fun ov wr => ∃ On, Hid (OTold E P.length On) ∧ Hid (Told w wr ov (txtsN P On))) (fun ov _ => n - lenV ov)
  case atStart => exact ⟨[], .nil, HT0.out⟩
  case round =>
    obtain ⟨On, HO, HT⟩ := hrel
    clear HT0
    obtain ⟨O, hOe⟩ : ∃ O, O = txtsN P On := ⟨_, rfl⟩
    have HOe : Hid _ := hOe
    obtain ⟨hol1, hol2⟩ := HOl.out On HO.out
    have HXe : Hid (∀ x ∈ O, x.size ≤ big) := by show ∀ x ∈ O, _; rw [hOe]; exact HOb.out On HO.out
    rw [← hOe] at hol1 HT
    obtain ⟨oa, oc, rfl⟩ := HT.out.slice
    obtain ⟨no, hno⟩ : ∃ no, no = O.length := ⟨_, rfl⟩
    rw [← hno] at hol1 HT ⊢
    rw [← hol1] at hol2
    have HNo : Hid _ := hno
    have HOl1 : Hid (no = On.length) := hol1
    obtain ⟨a', c', hea, hOS⟩ := HT.out.strs (by have := HNo.out; omega) HXe.out
    simp only [Value.slice.injEq] at hea
    obtain ⟨rfl, -, rfl⟩ := hea
    have HOS : Hid _ := hOS
    clear hno hOe hol1 hOS
    obtain ⟨wE, rfl⟩ : ∃ x, x = wr := ⟨wr, rfl⟩
    by_cases hful : no < n
    · have hful' : (no : Int) < (n : Int) := by omega
      go_wp2
      go_loopw [5, 6, 7] (fun bv sv iv wi => ∃ (i : Nat) (is : Bool) (best : ByteArray), iv = .int .i64 i ∧ sv = .bool is ∧ bv = .string best ∧ i ≤ n ∧ Below wE.heap.size wE wi ∧ BoSt L O i is best) (fun _ _ iv _ => n - (intOf iv).toNat)
      case atStart => exact ⟨0, false, _, rfl, rfl, rfl, Nat.zero_le _, Below.refl _ _, BoSt.start L O _⟩
      case round =>
        obtain ⟨i, is, best, rfl, rfl, rfl, hi, hB, hBo⟩ := hrel
        have HB : Hid (Below wE.heap.size wE wr) := hB
        have HBo : Hid (BoSt L O i is best) := hBo
        clear hB hBo
        obtain ⟨wI, rfl⟩ : ∃ x, x = wr := ⟨wr, rfl⟩
        by_cases hlt : i < n
        · have hlt' : (i : Int) < (n : Int) := by omega
          have hiL : i < L.length := by have := HN.out; omega
          obtain rfl := HA.out (by omega)
          have HBw : Hid (Below w.heap.size w wI) := HT.out.old.trans (HB.out.mono HT.out.old.size)
          obtain ⟨fa, fc, hrg, hif⟩ := HC.out wI HBw.out i hiL
          obtain ⟨y, hy⟩ : ∃ y, y = L[i] := ⟨_, rfl⟩
          rw [← hy] at hrg hif
          have HYm : Hid (y ∈ L) := by show _ ∈ _; rw [hy]; exact List.getElem_mem hiL
          have HYi : Hid (y = L[i]) := hy
          have hcell : wI.cell? ⟨b, off + i * 4, none⟩ = some (.string y.path) := hrg 0 _ rfl
          obtain ⟨yp, hyp⟩ : ∃ yp, yp = y.path := ⟨_, rfl⟩
          rw [← hyp] at hcell
          have HYp : Hid _ := hyp
          have HRg : Hid _ := hrg
          have HIf : Hid _ := hif
          have hhas := refHas_ok O oa oc yp wI (HOS.out.keep HB.out)
          rw [← HNo.out] at hhas
          clear hy hyp hrg hif
          by_cases hin : yp ∈ O
          · rw [decide_eq_true hin] at hhas
            have HNx : Hid (BoSt L O (i + 1) is best) := HBo.out.skip hiL (.inl fun h => h.1 (by rw [← HYi.out, ← HYp.out]; exact hin))
            clear hin
            go_wp2_with fail
            refine hhas.mono ?_
            rintro e w3 ⟨rfl, hw3⟩
            rw [hw3]
            clear hw3 hhas
            go_wp2
            go_roundw
            case rel => exact ⟨i + 1, is, best, by go_num, rfl, rfl, by omega, HB.out, HNx.out⟩
            case measure => simp [intOf]; omega
          rw [decide_eq_false hin] at hhas
          have HIn : Hid (y.path ∉ O) := by show _ ∉ _; rw [← HYp.out]; exact hin
          clear hin
          by_cases hge : is = true ∧ ¬ gb yp < gb best
          · obtain ⟨rfl, hge⟩ := hge
            have HNx : Hid (BoSt L O (i + 1) true best) := HBo.out.skip hiL (.inr ⟨rfl, by rw [← HYi.out, ← HYp.out]; exact hge⟩)
            have hq : ∀ wx, Sem.run Try.prog (binOp BinOp.geq 9 (.string yp) (.string best)) wx = .ok (.bool true) wx := fun wx => by rw [run_geq, less_lt, decide_eq_false hge]; rfl
            clear hge
            go_wp2_with fail
            refine hhas.mono ?_
            rintro e w3 ⟨rfl, hw3⟩
            rw [hw3]
            clear hw3 hhas
            go_wp2
            go_roundw
            case rel => exact ⟨i + 1, true, best, by go_num, rfl, rfl, by omega, HB.out, HNx.out⟩
            case measure => simp [intOf]; omega
          have HGe : Hid (is = false ∨ gb yp < gb best) := by
            show _ ∨ _
            cases is with
            | false => exact .inl rfl
            | true => exact .inr (Decidable.byContradiction fun h => hge ⟨rfl, h⟩)
          have hq : is = true → ∀ wx, Sem.run Try.prog (binOp BinOp.geq 9 (.string yp) (.string best)) wx = .ok (.bool false) wx := fun h wx => by
            rcases HGe.out with h1 | h1
            · rw [h] at h1; cases h1
            · rw [run_geq, less_lt, decide_eq_true h1]; rfl
          clear hge
          have hx3 : wI.cell? ⟨b, off + i * 4 + 3, none⟩ = some (.slice fa y.refs.length fc) := HRg.out 3 _ rfl
          obtain ⟨fb, fo, hfa, hfc⟩ := HIf.out.refs.ex
          have hxl := HIf.out.refs.len
          have hxc := HIf.out.refs.le
          unfold big at hxl
          have HXA : Hid _ := hfa
          have HXC : Hid (∀ wx, Below w.heap.size w wx → ∀ i (h : i < y.refs.length), wx.cell? ⟨fb, fo + i, none⟩ = some (.string y.refs[i])) := fun wx hx i hi => (hx.cell (p := ⟨fb, fo + i, none⟩) (World.block_lt_of_cell? _ _ (hfc i hi))).trans (hfc i hi)
          obtain ⟨mx, hmx⟩ : ∃ mx, mx = y.refs.length := ⟨_, rfl⟩
          have HMx : Hid _ := hmx
          rw [← hmx] at hx3 hxl hxc
          have HX3 : Hid (∀ wx, Below wI.heap.size wI wx → wx.cell? ⟨b, off + i * 4 + 3, none⟩ = some (.slice fa mx fc)) := fun wx hx => (hx.cell (p := ⟨b, off + i * 4 + 3, none⟩) (World.block_lt_of_cell? _ _ hx3)).trans hx3
          have HX0 : Hid (∀ wx, Below wI.heap.size wI wx → wx.cell? ⟨b, off + i * 4, none⟩ = some (.string yp)) := fun wx hx => (hx.cell (p := ⟨b, off + i * 4, none⟩) (World.block_lt_of_cell? _ _ hcell)).trans hcell
          clear hfa hfc hmx
          have HKs : Hid (KSt O y 0 true) := KSt.start O y
          cases is with
          | false =>
            clear hq
            go_wp2_with (first | (go_at_call 36; refine hhas.mono ?_; rintro e w3 ⟨rfl, hw3⟩; rw [hw3]; clear hw3 hhas) | fail)
            go_loopw [8, 9] (fun rv kv wi => ∃ (k : Nat) (r : Bool), kv = .int .i64 k ∧ rv = .bool r ∧ k ≤ mx ∧ Below wI.heap.size wI wi ∧ KSt O y k r) (fun _ kv _ => mx - (intOf kv).toNat)
            case atStart => exact ⟨0, true, rfl, rfl, Nat.zero_le _, Below.refl _ _, HKs.out⟩
            case round =>
              obtain ⟨k, r, rfl, rfl, hk, hBk, hK⟩ := hrel
              have HBk : Hid (Below wI.heap.size wI wr) := hBk
              have HK0 : Hid (KSt O y k r) := hK
              clear hBk hK hx3 hcell
              have hx3 := HX3.out wr HBk.out
              by_cases hkm : k < mx
              · have hkm' : (k : Int) < (mx : Int) := by omega
                have hkL : k < y.refs.length := by have := HMx.out; omega
                cases r with
                | false =>
                  have HNx : Hid (KSt O y (k + 1) false) := HK0.out.not
                  go_wp2_with fail
                  go_quiet (fail)
                  obtain ⟨w4, hw4⟩ : ∃ u, u = wr.drewN nq := ⟨_, rfl⟩
                  rw [← hw4]
                  have HB4 : Hid (Below wI.heap.size wI w4) := by
                    rw [hw4]
                    exact below_drewN HBk.out nq
                  clear hw4
                  go_wp2
                  go_roundw
                  case rel => exact ⟨k + 1, false, by go_num, rfl, by omega, HB4.out, HNx.out⟩
                  case measure => simp [intOf]; omega
                | true =>
                  have HK : Hid (KSt O y k true) := HK0.out
                  obtain rfl := HXA.out (by omega)
                  have hx0 := HX0.out wr HBk.out
                  have hcell := HXC.out wr (HBw.out.trans (HBk.out.mono HBw.out.size)) k hkL
                  obtain ⟨t, ht⟩ : ∃ t, t = y.refs[k] := ⟨_, rfl⟩
                  rw [← ht] at hcell
                  have HY : Hid _ := ht
                  have hhq : ∀ q, Calls Try.prog 36 #[.slice oa no oc, .string t] (wr.drewN q) fun e w' => e = .returned (.bool (decide (t ∈ O))) ∧ w' = wr.drewN q := fun q => by
                    have := refHas_ok O oa oc t (wr.drewN q) ((HOS.out.keep HB.out).keep (below_drewN HBk.out q))
                    rw [← HNo.out] at this
                    exact this
                  clear ht
                  by_cases htp : t = yp
                  · skip
                    have HNx : Hid (KSt O y (k + 1) true) := HK.out.yes hkL (.inl (by rw [← HY.out, htp]; exact HYp.out))
                    rw [htp] at hcell
                    clear htp
                    go_wp2_with fail
                    go_quiet (fail)
                    obtain ⟨w4, hw4⟩ : ∃ u, u = wr.drewN nq := ⟨_, rfl⟩
                    rw [← hw4]
                    have HB4 : Hid (Below wI.heap.size wI w4) := by
                      rw [hw4]
                      exact below_drewN HBk.out nq
                    clear hw4 hhq
                    go_wp2
                    go_roundw
                    case rel => exact ⟨k + 1, true, by go_num, rfl, by omega, HB4.out, HNx.out⟩
                    case measure => simp [intOf]; omega
                  have htq : (t.toList == yp.toList) = false := by
                    rw [beq_eq_false_iff_ne]
                    intro e
                    rw [ByteArray.toList_eq, ByteArray.toList_eq] at e
                    exact htp (gb_inj e)
                  by_cases htO : t ∈ O
                  · skip
                    have HNx : Hid (KSt O y (k + 1) true) := HK.out.yes hkL (.inr (by rw [← HY.out]; exact htO))
                    rw [decide_eq_true htO] at hhq
                    clear htO htp
                    go_wp2_with fail
                    go_quiet (first | (go_at_call 36; exact Calls.quiet_of_same (hhq _)) | fail)
                    obtain ⟨w4, hw4⟩ : ∃ u, u = wr.drewN nq := ⟨_, rfl⟩
                    rw [← hw4]
                    have HB4 : Hid (Below wI.heap.size wI w4) := by
                      rw [hw4]
                      exact below_drewN HBk.out nq
                    clear hw4 hhq
                    go_wp2
                    go_roundw
                    case rel => exact ⟨k + 1, true, by go_num, rfl, by omega, HB4.out, HNx.out⟩
                    case measure => simp [intOf]; omega
                  · skip
                    have HNx : Hid (KSt O y (k + 1) false) := HK.out.no hkL (by rw [← HY.out]; exact fun e => htp (e.trans HYp.out.symm)) (by rw [← HY.out]; exact htO)
                    rw [decide_eq_false htO] at hhq
                    clear htO htp
                    go_wp2_with fail
                    go_quiet (first | (go_at_call 36; exact Calls.quiet_of_same (hhq _)) | fail)
                    obtain ⟨w4, hw4⟩ : ∃ u, u = wr.drewN nq := ⟨_, rfl⟩
                    rw [← hw4]
                    have HB4 : Hid (Below wI.heap.size wI w4) := by
                      rw [hw4]
                      exact below_drewN HBk.out nq
                    clear hw4 hhq
                    go_wp2
                    go_roundw
                    case rel => exact ⟨k + 1, false, by go_num, rfl, by omega, HB4.out, HNx.out⟩
                    case measure => simp [intOf]; omega
              · have hkm' : ¬ (k : Int) < (mx : Int) := by omega
                have HRd : Hid (r = true ↔ RdyP L O y.path) := by
                  have h := HK0.out
                  rw [show k = y.refs.length by have := HMx.out; omega] at h
                  exact h.rdy HF.out.1 HYm.out HIn.out
                have HBE : Hid (Below wE.heap.size wE wr) := HB.out.trans (HBk.out.mono HB.out.size)
                have hx0 := HX0.out wr HBk.out
                cases r with
                | true =>
                  have HNx : Hid (BoSt L O (i + 1) true yp) := by
                    have h := HBo.out.take hiL (by rw [← HYi.out]; exact HRd.out.1 rfl) (by rw [← HYi.out, ← HYp.out]; first | exact HGe.out | exact .inl rfl)
                    rw [← HYi.out, ← HYp.out] at h
                    exact h
                  go_wp2
                  go_roundw
                  case rel => exact ⟨i + 1, true, yp, by go_num, rfl, rfl, by omega, HBE.out, HNx.out⟩
                  case measure => simp [intOf]; omega
                | false =>
                  have HNx : Hid (BoSt L O (i + 1) false best) := HBo.out.skip hiL (.inl fun h => by have := HRd.out.2 (by rw [HYi.out]; exact h); cases this)
                  go_wp2
                  go_roundw
                  case rel => exact ⟨i + 1, false, best, by go_num, rfl, rfl, by omega, HBE.out, HNx.out⟩
                  case measure => simp [intOf]; omega
          | true =>
            have hq := hq rfl
            go_wp2_with (first | (go_at_call 36; refine hhas.mono ?_; rintro e w3 ⟨rfl, hw3⟩; rw [hw3]; clear hw3 hhas) | fail)
            go_loopw [8, 9] (fun rv kv wi => ∃ (k : Nat) (r : Bool), kv = .int .i64 k ∧ rv = .bool r ∧ k ≤ mx ∧ Below wI.heap.size wI wi ∧ KSt O y k r) (fun _ kv _ => mx - (intOf kv).toNat)
            case atStart => exact ⟨0, true, rfl, rfl, Nat.zero_le _, Below.refl _ _, HKs.out⟩
            case round =>
              obtain ⟨k, r, rfl, rfl, hk, hBk, hK⟩ := hrel
              have HBk : Hid (Below wI.heap.size wI wr) := hBk
              have HK0 : Hid (KSt O y k r) := hK
              clear hBk hK hx3 hcell
              have hx3 := HX3.out wr HBk.out
              by_cases hkm : k < mx
              · have hkm' : (k : Int) < (mx : Int) := by omega
                have hkL : k < y.refs.length := by have := HMx.out; omega
                cases r with
                | false =>
                  have HNx : Hid (KSt O y (k + 1) false) := HK0.out.not
                  go_wp2_with fail
                  go_quiet (fail)
                  obtain ⟨w4, hw4⟩ : ∃ u, u = wr.drewN nq := ⟨_, rfl⟩
                  rw [← hw4]
                  have HB4 : Hid (Below wI.heap.size wI w4) := by
                    rw [hw4]
                    exact below_drewN HBk.out nq
                  clear hw4
                  go_wp2
                  go_roundw
                  case rel => exact ⟨k + 1, false, by go_num, rfl, by omega, HB4.out, HNx.out⟩
                  case measure => simp [intOf]; omega
                | true =>
                  have HK : Hid (KSt O y k true) := HK0.out
                  obtain rfl := HXA.out (by omega)
                  have hx0 := HX0.out wr HBk.out
                  have hcell := HXC.out wr (HBw.out.trans (HBk.out.mono HBw.out.size)) k hkL
                  obtain ⟨t, ht⟩ : ∃ t, t = y.refs[k] := ⟨_, rfl⟩
                  rw [← ht] at hcell
                  have HY : Hid _ := ht
                  have hhq : ∀ q, Calls Try.prog 36 #[.slice oa no oc, .string t] (wr.drewN q) fun e w' => e = .returned (.bool (decide (t ∈ O))) ∧ w' = wr.drewN q := fun q => by
                    have := refHas_ok O oa oc t (wr.drewN q) ((HOS.out.keep HB.out).keep (below_drewN HBk.out q))
                    rw [← HNo.out] at this
                    exact this
                  clear ht
                  by_cases htp : t = yp
                  · skip
                    have HNx : Hid (KSt O y (k + 1) true) := HK.out.yes hkL (.inl (by rw [← HY.out, htp]; exact HYp.out))
                    rw [htp] at hcell
                    clear htp
                    go_wp2_with fail
                    go_quiet (fail)
                    obtain ⟨w4, hw4⟩ : ∃ u, u = wr.drewN nq := ⟨_, rfl⟩
                    rw [← hw4]
                    have HB4 : Hid (Below wI.heap.size wI w4) := by
                      rw [hw4]
                      exact below_drewN HBk.out nq
                    clear hw4 hhq
                    go_wp2
                    go_roundw
                    case rel => exact ⟨k + 1, true, by go_num, rfl, by omega, HB4.out, HNx.out⟩
                    case measure => simp [intOf]; omega
                  have htq : (t.toList == yp.toList) = false := by
                    rw [beq_eq_false_iff_ne]
                    intro e
                    rw [ByteArray.toList_eq, ByteArray.toList_eq] at e
                    exact htp (gb_inj e)
                  by_cases htO : t ∈ O
                  · skip
                    have HNx : Hid (KSt O y (k + 1) true) := HK.out.yes hkL (.inr (by rw [← HY.out]; exact htO))
                    rw [decide_eq_true htO] at hhq
                    clear htO htp
                    go_wp2_with fail
                    go_quiet (first | (go_at_call 36; exact Calls.quiet_of_same (hhq _)) | fail)
                    obtain ⟨w4, hw4⟩ : ∃ u, u = wr.drewN nq := ⟨_, rfl⟩
                    rw [← hw4]
                    have HB4 : Hid (Below wI.heap.size wI w4) := by
                      rw [hw4]
                      exact below_drewN HBk.out nq
                    clear hw4 hhq
                    go_wp2
                    go_roundw
                    case rel => exact ⟨k + 1, true, by go_num, rfl, by omega, HB4.out, HNx.out⟩
                    case measure => simp [intOf]; omega
                  · skip
                    have HNx : Hid (KSt O y (k + 1) false) := HK.out.no hkL (by rw [← HY.out]; exact fun e => htp (e.trans HYp.out.symm)) (by rw [← HY.out]; exact htO)
                    rw [decide_eq_false htO] at hhq
                    clear htO htp
                    go_wp2_with fail
                    go_quiet (first | (go_at_call 36; exact Calls.quiet_of_same (hhq _)) | fail)
                    obtain ⟨w4, hw4⟩ : ∃ u, u = wr.drewN nq := ⟨_, rfl⟩
                    rw [← hw4]
                    have HB4 : Hid (Below wI.heap.size wI w4) := by
                      rw [hw4]
                      exact below_drewN HBk.out nq
                    clear hw4 hhq
                    go_wp2
                    go_roundw
                    case rel => exact ⟨k + 1, false, by go_num, rfl, by omega, HB4.out, HNx.out⟩
                    case measure => simp [intOf]; omega
              · have hkm' : ¬ (k : Int) < (mx : Int) := by omega
                have HRd : Hid (r = true ↔ RdyP L O y.path) := by
                  have h := HK0.out
                  rw [show k = y.refs.length by have := HMx.out; omega] at h
                  exact h.rdy HF.out.1 HYm.out HIn.out
                have HBE : Hid (Below wE.heap.size wE wr) := HB.out.trans (HBk.out.mono HB.out.size)
                have hx0 := HX0.out wr HBk.out
                cases r with
                | true =>
                  have HNx : Hid (BoSt L O (i + 1) true yp) := by
                    have h := HBo.out.take hiL (by rw [← HYi.out]; exact HRd.out.1 rfl) (by rw [← HYi.out, ← HYp.out]; first | exact HGe.out | exact .inl rfl)
                    rw [← HYi.out, ← HYp.out] at h
                    exact h
                  go_wp2
                  go_roundw
                  case rel => exact ⟨i + 1, true, yp, by go_num, rfl, rfl, by omega, HBE.out, HNx.out⟩
                  case measure => simp [intOf]; omega
                | false =>
                  have HNx : Hid (BoSt L O (i + 1) true best) := HBo.out.skip hiL (.inl fun h => by have := HRd.out.2 (by rw [HYi.out]; exact h); cases this)
                  go_wp2
                  go_roundw
                  case rel => exact ⟨i + 1, true, best, by go_num, rfl, rfl, by omega, HBE.out, HNx.out⟩
                  case measure => simp [intOf]; omega
        · have hlt' : ¬ (i : Int) < (n : Int) := by omega
          have hin : L.take i = L := List.take_of_length_le (by have := HN.out; omega)
          have HBw : Hid (Below w.heap.size w wI) := HT.out.old.trans (HB.out.mono HT.out.old.size)
          have hT2 : Told w wI (.slice oa no oc) O := HT.out.next HB.out
          cases is with
          | false =>
            have HNr : Hid (∀ k, ¬ RdyE E P.length On k) := rdy_none HG.out HU.out HF.out HO.out fun z hz => by
              obtain ⟨y, hy, hp⟩ := id hz.2
              have := (HBo.out).no rfl y (by rw [hin]; exact hy)
              rw [hp.1, HOe.out] at this
              exact this hz
            have HD := HRP1.out On wI HO.out HNr.out (by have := HPl.out; have := HOl1.out; omega) HBw.out
            have HDD : Hid _ := HD
            clear HD hT2
            go_wp2
            exact HDD.out
          | true =>
            obtain ⟨hb1, hb2⟩ := HBo.out.yes rfl
            have HNx : Hid (∃ k, OTold E P.length (On ++ [k]) ∧ txtsN P (On ++ [k]) = O ++ [best]) := by
              rw [HOe.out] at hb1 hb2
              have h3 := HO.out.next HG.out HU.out HF.out hb1 fun z hz => by
                obtain ⟨y, hy, hp⟩ := id hz.2
                have := hb2 y (by rw [hin]; exact hy)
                rw [hp.1] at this
                exact this hz
              rw [← HOe.out] at h3
              exact h3
            have HT2 : Hid (Told w wI (.slice oa no oc) O) := hT2
            have hoa : (wI.alloc (.cells #[.string best] 9)).ownsRow w.heap.size 9 1 (.slice oa no oc) no (O.map Value.string) := by
              have := (HT2.out.next ((Below.refl _ _).alloc (Nat.le_refl _) (.cells #[.string best] 9))).own
              rw [← HNo.out] at this
              exact this
            have hBs := hT2.old.size
            have HOa : Hid _ := hoa
            clear hb1 hb2 hin hT2 hoa
            go_wp2_with (at_builtin; refine wpList_plain rfl fun K' hK' => ?_; refine ap_one (some 90) rfl (.tmp 87) (.tmp 89) rfl w.heap.size _ no _ rfl best HOa.out rfl hBs (by omega) ?_; intro v6 w6 hown6 hg6; refine hK' _ _ ?_; have HT6 : Hid (Told w w6 v6 (O ++ [best])) := HT2.out.more (by rw [← HNo.out]; exact hown6) hg6; clear hown6 hg6)
            go_roundw
            case rel =>
              obtain ⟨k, h1, h2⟩ := HNx.out
              exact ⟨On ++ [k], h1, by rw [h2]; exact HT6⟩
            case measure =>
              obtain ⟨a9, c9, h9⟩ := HT6.out.slice
              rw [h9]
              have := HNo.out
              simp [lenV]
              omega
    · have hful' : ¬ (no : Int) < (n : Int) := by omega
      have HD := HRP2.out On wE _ HO.out (by have := HPl.out; have := HOl1.out; omega) (by rw [← HOe.out]; exact HT.out)
      have HDD : Hid _ := HD
      clear HD
      go_wp2
      exact HDD.out
end Go.Proofs.Ytkbhckjpmgkgjaa
