/- My own work: the walk of RefdbOrder. -/
import Derived.Test.YtafdinfbeolmmaaG23
import Derived.Test.YtafdinfbeolmmaaG15
import Derived.BigQuiet
namespace Go.Proofs.Ytafdinfbeolmmaa
open Go.RowKit

theorem str_ne {a b : ByteArray} (h : ¬ a = b) : (a.toList == b.toList) = false := by
  rw [beq_eq_false_iff_ne]
  intro e
  exact h (ByteArray.ext (Array.toList_inj.1 (by rw [ByteArray.toList_eq, ByteArray.toList_eq] at e; exact e)))
set_option maxRecDepth 20000 in
set_option maxHeartbeats 16000000 in
theorem law_order (L : List Inf) (la : Option Addr) (lc : Nat) (w : World) (h : LsAt w la L lc) (hLn : L.length ≤ 140737488355328) :
    Calls Try.prog 6 #[.slice la L.length lc] w fun e w' => e = .returned (.bool true) ∧ Below w.heap.size w w' := by
  have hfew := few_ok L la lc w h hLn
  have hle := h.le
  have HL : Hid _ := h
  obtain ⟨n, hN⟩ : ∃ n, n = L.length := ⟨_, rfl⟩
  rw [← hN] at hfew hLn hle
  rw [← hN]
  have HN : Hid _ := hN
  clear h hN
  go_enter Try.func6, Try.ntmps6
  go_wp2_with fail
  refine hfew.mono ?_
  rintro e w1 ⟨rfl, bo, rfl, hbo⟩
  clear hfew
  cases bo with
  | false =>
    go_wp2
    go_ret
    exact ⟨rfl, Below.refl _ _⟩
  | true =>
    obtain ⟨h400, hr400⟩ := hbo rfl
    clear hbo
    have hown := own_ok L la lc w1 HL.out h400 hr400
    have h4096 : L.length ≤ 4096 := by omega
    have H4096 : Hid _ := h4096
    rw [← HN.out] at hown h400
    clear hr400 h4096
    go_wp2_with fail
    refine hown.mono ?_
    rintro e w2 ⟨hb2, oa, oc, rfl, hLs2⟩
    have hnew := new_ok L oa oc w2 hLs2 H4096.out
    clear hown hLs2
    go_wp2_with fail
    refine hnew.mono ?_
    rintro e w3 hNP
    clear hnew
    obtain ⟨hb3, hcase⟩ := hNP
    have hB3 : Below w1.heap.size w1 w3 := hb2.trans (hb3.mono hb2.size)
    have HB3 : Hid _ := hB3
    clear hb2 hb3 hB3
    rcases hcase with ⟨_, rfl⟩ | ⟨_, rfl⟩ | ⟨hfine, g, P, dv, E, rfl, hGA, hGr, hgle⟩
    · go_wp2
      go_ret
      exact ⟨rfl, HB3.out⟩
    · go_wp2
      go_ret
      exact ⟨rfl, HB3.out⟩
    · have hPn : P.length ≤ 4096 := by rw [hGr.len]; exact H4096.out
      have hPl : P.length = n := by rw [hGr.len, ← HN.out]
      have HPl : Hid _ := hPl
      have HGr : Hid _ := hGr
      have HGA : Hid _ := hGA
      have HF : Hid _ := hfine
      have hEb := hGr.edges
      have HEb : Hid _ := hEb
      have hod := order_ok g P dv E w3 hGA hPn hEb
      clear hGr hGA hfine hEb hPl
      go_wp2_with fail
      refine hod.mono ?_
      rintro e w4 ⟨D, O, hDE, hOT, hOF, hcase⟩
      clear hod
      have HDE : Hid _ := hDE
      have HOT : Hid _ := hOT
      have HOF : Hid _ := hOF
      clear hDE hOT hOF
      obtain ⟨b, off, ha, hc⟩ := HL.out.ex
      have HA : Hid _ := ha
      have HC : Hid (∀ wx, Below w1.heap.size w1 wx → ∀ i (h : i < L.length), ∃ xa xc, wx.rangeAt b (off + i * 4) (infV L[i] xa xc).toList ∧ InfAt wx L[i] xa xc) := fun wx hx i hi => by
        obtain ⟨xa, xc, h3, h4⟩ := hc i hi
        exact ⟨xa, xc, rangeAt_keep h3 hx, h4.keep hx⟩
      clear ha hc
      have HyP : Hid (∀ y ∈ L, y.path ∈ P) := fun y hy => (HGr.out.mem _).2 (List.mem_map.2 ⟨y, hy, rfl⟩)
      have HtP : Hid (∀ y ∈ L, ∀ t ∈ y.refs, t ∈ P) := fun y hy t ht => (HGr.out.mem t).2 (HF.out.2 y hy t ht)
      rcases hcase with ⟨hOl, rfl, hb4⟩ | ⟨hOl, ov, rfl, hTd⟩
      · have HB4 : Hid (Below w1.heap.size w1 w4) := HB3.out.trans (hb4.mono HB3.out.size)
        have HG4 : Hid _ := HGA.out.keep hb4
        have HOl : Hid _ := hOl
        clear hb4 hOl
        go_wp2
        go_loopw [6] (fun iv wr => ∃ i : Nat, iv = .int .i64 i ∧ i ≤ n ∧ (∀ t (h : t < L.length), t < i → ∀ r ∈ L[t].refs, ¬ Hit P E L[t] r) ∧ Below w4.heap.size w4 wr) (fun iv _ => n - (intOf iv).toNat)
        case atStart => exact ⟨0, rfl, Nat.zero_le _, (fun t _ h => absurd h (Nat.not_lt_zero _)), Below.refl _ _⟩
        case round =>
          obtain ⟨i, rfl, hi, hno, hB⟩ := hrel
          have HNo : Hid _ := hno
          have HB : Hid _ := hB
          clear hno
          by_cases hlt : i < n
          · have hlt' : (i : Int) < (n : Int) := by omega
            have hil : i < L.length := by have := HN.out; omega
            obtain rfl := HA.out (by omega)
            obtain ⟨y, hy⟩ : ∃ y, y = L[i] := ⟨_, rfl⟩
            have HY : Hid _ := hy
            have HyL : Hid (y ∈ L) := by rw [hy]; exact List.getElem_mem _
            have HCy : Hid (∀ wx, Below w4.heap.size w4 wx → ∃ xa xc, wx.rangeAt b (off + i * 4) (infV y xa xc).toList ∧ InfAt wx y xa xc) := fun wx hx => by rw [hy]; exact HC.out wx (HB4.out.trans (hx.mono HB4.out.size)) i hil
            have hml : y.refs.length ≤ 140737488355328 := by
              obtain ⟨xa, xc, _, hif⟩ := HCy.out wr hB
              have := hif.refs.len
              unfold big at this
              omega
            obtain ⟨m, hm⟩ : ∃ m, m = y.refs.length := ⟨_, rfl⟩
            rw [← hm] at hml
            have HM : Hid _ := hm
            have hwi : IntKind.i64.wrap ((i : Int) + 1) = ((i + 1 : Nat) : Int) := by rw [IntKind.wrap_i64]; omega
            clear hy hm hB
            go_wp2
            go_loopw [7] (fun kv wx => ∃ k : Nat, kv = .int .i64 k ∧ k ≤ m ∧ (∀ t (h : t < y.refs.length), t < k → ¬ Hit P E y y.refs[t]) ∧ Below w4.heap.size w4 wx) (fun kv _ => m - (intOf kv).toNat)
            case atStart => exact ⟨0, rfl, Nat.zero_le _, (fun t _ h => absurd h (Nat.not_lt_zero _)), HB.out⟩
            case round =>
              obtain ⟨k, rfl, hk, hno2, hBx⟩ := hrel
              have HNo2 : Hid _ := hno2
              have HBx : Hid _ := hBx
              obtain ⟨xa, xc, hrg, hif⟩ := HCy.out wr hBx
              have qp : wr.cell? ⟨b, off + i * 4, none⟩ = some (.string y.path) := hrg 0 _ rfl
              have q3 : wr.cell? ⟨b, off + i * 4 + 3, none⟩ = some (.slice xa m xc) := by have := HM.out; rw [this]; exact hrg 3 _ rfl
              have hwk : IntKind.i64.wrap ((k : Int) + 1) = ((k + 1 : Nat) : Int) := by rw [IntKind.wrap_i64]; omega
              by_cases hlk : k < m
              · have hlk' : (k : Int) < (m : Int) := by omega
                have hkl : k < y.refs.length := by have := HM.out; omega
                obtain ⟨rb, ro, hra, hrc⟩ := hif.refs.ex
                obtain rfl := hra (by omega)
                have qk := hrc k hkl
                obtain ⟨t, ht⟩ : ∃ t, t = y.refs[k] := ⟨_, rfl⟩
                rw [← ht] at qk
                have HT : Hid _ := ht
                have htm : t ∈ y.refs := by rw [ht]; exact List.getElem_mem _
                have htP := HtP.out y HyL.out t htm
                have hbA : Below wr.heap.size wr (wr.alloc (.cells #[.string t] 9)) := (Below.refl _ _).alloc (Nat.le_refl _) _
                have hBA : Below w4.heap.size w4 (wr.alloc (.cells #[.string t] 9)) := hBx.alloc hBx.size _
                have hone : StrsAt (wr.alloc (.cells #[.string t] 9)) (some ⟨wr.heap.size, 0, none⟩) [t] 1 := by
                  have hbg := HG4.out.big t htP
                  refine ⟨⟨wr.heap.size, 0, fun _ => rfl, fun j hj => ?_⟩, (fun e => nomatch e), Nat.le_refl _, by unfold maxLen; omega, by unfold big; simp, fun s hs => by rw [List.mem_singleton] at hs; rw [hs]; exact hbg⟩
                  have hj0 : j = 0 := by simpa using hj
                  subst hj0
                  exact (Row.cell (Row.new wr #[.string t] 9) 0).trans rfl
                have hcl := closure_ok g P dv [t] E (some ⟨wr.heap.size, 0, none⟩) 1 (wr.alloc (.cells #[.string t] 9)) (HG4.out.keep hBA) hPn HEb.out hone
                have HHit : Hid (∀ V : Nat → Bool, (∀ k, V k = true ↔ Rch E (rootsN P [t]) k) → (Hit P E y t ↔ t ≠ y.path ∧ y.path ∈ selN V P)) := fun V hV => hit_sel HG4.out.up (HyP.out y HyL.out) hV
                clear hrg hif hrc ht hra hone hno2
                go_wp2_with fail
                refine hcl.mono ?_
                rintro e w5 hCP
                clear hcl
                rcases hCP with ⟨⟨z, hz, hzP⟩, _⟩ | ⟨_, v, V, rfl, hV, hT5⟩
                · rw [List.mem_singleton] at hz
                  subst hz
                  exact absurd htP hzP
                · have hB5 : Below w4.heap.size w4 w5 := hBA.trans (hT5.old.mono hBA.size)
                  have hbig5 := HG4.out.big
                  obtain ⟨ca, cc, rfl, hSc⟩ := hT5.strs (Nat.le_trans (sel_le _ P) hPn) (fun x hx => hbig5 x (sel_mem hx))
                  obtain ⟨xa5, xc5, hrg5, _⟩ := HCy.out w5 hB5
                  have qp5 : w5.cell? ⟨b, off + i * 4, none⟩ = some (.string y.path) := hrg5 0 _ rfl
                  have hhas := has_ok (selN V P) ca cc y.path w5 hSc
                  have hH := HHit.out V hV
                  have HB5 : Hid _ := hB5
                  clear hrg5 hSc hT5 hV hbA hBA hB5 hBx qp qk q3 hbig5
                  by_cases hte : t = y.path
                  · have HNH : Hid (¬ Hit P E y t) := fun h => (hH.1 h).1 hte
                    subst hte
                    clear hH
                    go_wp2
                    go_roundw
                    case rel => exact ⟨k + 1, by go_num, by omega, (fun t' h' hlt2 => by
                      by_cases e : t' = k
                      · subst e; rw [← HT.out]; exact HNH.out
                      · exact HNo2.out t' h' (by omega)), HB5.out⟩
                    case measure => simp [intOf]; omega
                  · have hte' : (t.toList == y.path.toList) = false := str_ne hte
                    obtain ⟨hb, hhb⟩ : ∃ hb, hb = decide (y.path ∈ selN V P) := ⟨_, rfl⟩
                    rw [← hhb] at hhas
                    have HHB : Hid _ := hhb
                    clear hhb
                    go_wp2_with fail
                    refine hhas.mono ?_
                    rintro e w6 ⟨rfl, rfl⟩
                    clear hhas
                    cases hb with
                    | true =>
                      go_wp2
                      go_ret
                      exact ⟨rfl, HB4.out.trans (HB5.out.mono HB4.out.size)⟩
                    | false =>
                      have HNH : Hid (¬ Hit P E y t) := fun h => by
                        have h1 := decide_eq_true (hH.1 h).2
                        rw [← HHB.out] at h1
                        cases h1
                      clear hH
                      go_wp2
                      go_roundw
                      case rel => exact ⟨k + 1, by go_num, by omega, (fun t' h' hlt2 => by
                        by_cases e : t' = k
                        · subst e; rw [← HT.out]; exact HNH.out
                        · exact HNo2.out t' h' (by omega)), HB5.out⟩
                      case measure => simp [intOf]; omega
              · have hlk' : ¬ (k : Int) < (m : Int) := by omega
                obtain rfl : k = m := by omega
                clear hrg hif hno2 hBx
                go_wp2
                go_roundw
                case rel => exact ⟨i + 1, by go_num, by omega, (fun t h hlt2 r hr => by
                  by_cases e : t = i
                  · subst e
                    rw [← HY.out] at hr ⊢
                    obtain ⟨j, hj, rfl⟩ := List.getElem_of_mem hr
                    exact HNo2.out j hj (by have := HM.out; omega)
                  · exact HNo.out t h (by omega) r hr), HBx.out⟩
                case measure => simp [intOf]; omega
          · exfalso
            obtain ⟨y, hy, t, ht, hh⟩ := ring_hit HGr.out HG4.out.up HDE.out HOF.out HOl.out
            obtain ⟨j, hj, rfl⟩ := List.getElem_of_mem hy
            exact HNo.out j hj (by have := HN.out; omega) t ht hh
      · have HB4 : Hid (Below w1.heap.size w1 w4) := HB3.out.trans (hTd.old.mono HB3.out.size)
        have HG4 : Hid _ := HGA.out.keep hTd.old
        have hbig4 := HGA.out.big
        obtain ⟨X, hX⟩ : ∃ X, X = txtsN P O := ⟨_, rfl⟩
        have hXl : X.length = n := by rw [hX]; unfold txtsN; rw [List.length_map, hOl]; exact HPl.out
        have hXP : ∀ x ∈ X, x ∈ P := fun x hx => by
          rw [hX] at hx
          obtain ⟨k, _, hk⟩ := (mem_txts HOT.out.lt).1 hx
          exact List.mem_of_getElem? hk
        rw [← hX] at hTd
        obtain ⟨oa2, oc2, rfl, hSX⟩ := hTd.strs (by omega) (fun x hx => hbig4 x (hXP x hx))
        have hoc := hSX.le
        have hocm := hSX.cap
        unfold maxLen at hocm
        rw [hXl] at hoc ⊢
        have HSX : Hid _ := hSX
        have HXl : Hid _ := hXl
        have HRef : Hid (∀ i (hi : i < X.length), ∀ y ∈ L, y.path = X[i] → ∀ t ∈ y.refs, t ≠ X[i] → t ∈ X.take i) := by
          subst hX
          exact fun i hi y hy hp t ht hne => order_refs HGr.out HDE.out HOT.out hi hy hp ht (HtP.out y hy t ht) hne
        have HOnce : Hid (∀ i (hi : i < X.length), X[i] ∉ X.take i) := by
          subst hX
          exact fun i hi => order_once HGA.out.up HOT.out hi
        clear hTd hX hXl hXP hSX hOl hbig4
        go_wp2
        go_loopw [11] (fun iv wr => ∃ i : Nat, iv = .int .i64 i ∧ i ≤ n ∧ Below w4.heap.size w4 wr) (fun iv _ => n - (intOf iv).toNat)
        case atStart => exact ⟨0, rfl, Nat.zero_le _, Below.refl _ _⟩
        case round =>
          obtain ⟨i, rfl, hi, hB⟩ := hrel
          have HB : Hid _ := hB
          by_cases hlt : i < n
          · have hlt' : (i : Int) < (n : Int) := by omega
            have hiX : i < X.length := by have := HXl.out; omega
            obtain rfl := HA.out (by have := HN.out; omega)
            obtain ⟨ob, oo, hoa, _⟩ := HSX.out.ex
            obtain rfl := hoa (by omega)
            obtain ⟨x, hx⟩ : ∃ x, x = X[i] := ⟨_, rfl⟩
            have HX : Hid (∀ wx, Below w4.heap.size w4 wx → wx.cell? ⟨ob, oo + i, none⟩ = some (.string x)) := fun wx hw => by
              obtain ⟨b', o', h1, h2⟩ := (HSX.out.keep hw).ex
              have h3 := h1 (by omega)
              cases h3
              rw [hx]
              exact h2 i hiX
            have HRefx : Hid (∀ y ∈ L, y.path = x → ∀ t ∈ y.refs, t ≠ x → t ∈ X.take i) := by rw [hx]; exact HRef.out i hiX
            have HOncex : Hid (x ∉ X.take i) := by rw [hx]; exact HOnce.out i hiX
            have hXi : (X.take i).length = i := by rw [List.length_take]; omega
            have HHas : Hid (∀ wx, Below w4.heap.size w4 wx → ∀ z, Calls Try.prog 25 #[.slice (some ⟨ob, oo, none⟩) i oc2, .string z] wx fun e w' => e = .returned (.bool (decide (z ∈ X.take i))) ∧ w' = wx) := fun wx hw z => by
              have h1 := has_ok (X.take i) (some ⟨ob, oo, none⟩) oc2 z wx ((HSX.out.keep hw).take (by omega))
              rw [hXi] at h1
              exact h1
            have hwi : IntKind.i64.wrap ((i : Int) + 1) = ((i + 1 : Nat) : Int) := by rw [IntKind.wrap_i64]; omega
            have hio : (i : Int) ≤ (oc2 : Int) := by omega
            clear hx hXi hB hoa
            go_wp2
            go_loopw [12] (fun kv wx => ∃ k : Nat, kv = .int .i64 k ∧ k ≤ n ∧ Below w4.heap.size w4 wx) (fun kv _ => n - (intOf kv).toNat)
            case atStart => exact ⟨0, rfl, Nat.zero_le _, HB.out⟩
            case round =>
              obtain ⟨k, rfl, hk, hBx⟩ := hrel
              have HBx : Hid _ := hBx
              by_cases hlk : k < n
              · have hlk' : (k : Int) < (n : Int) := by omega
                have hkl : k < L.length := by have := HN.out; omega
                obtain ⟨y, hy⟩ : ∃ y, y = L[k] := ⟨_, rfl⟩
                have HyL : Hid (y ∈ L) := by rw [hy]; exact List.getElem_mem _
                have HCy : Hid (∀ wx, Below w4.heap.size w4 wx → ∃ xa xc, wx.rangeAt b (off + k * 4) (infV y xa xc).toList ∧ InfAt wx y xa xc) := fun wx hx => by rw [hy]; exact HC.out wx (HB4.out.trans (hx.mono HB4.out.size)) k hkl
                have hwk : IntKind.i64.wrap ((k : Int) + 1) = ((k + 1 : Nat) : Int) := by rw [IntKind.wrap_i64]; omega
                have hBd : Below w4.heap.size w4 wr.drew := hBx.drew
                have HBd : Hid _ := hBd
                clear hy
                go_wp2
                refine wp_region_permA [(false, 0), (false, 1), (false, 2), (false, 3), (false, 4), (false, 5), (false, 6), (false, 7), (false, 8), (false, 9)] (fun wx => Below w4.heap.size w4 wx) (by kernel_rfl) (by kernel_rfl) hBd ?_
                refine a_value (some 109) (.slice (some ⟨b, off, none⟩) n lc) rfl rfl (by rfl) (fun wx hw => ?_) ?_
                · go_simp
                simp only [Act.put, List.setIfInBounds_toArray, List.set_cons_zero, List.set_cons_succ]
                refine a_value (some 110) (.int .i64 (k : Int)) rfl rfl (by rfl) (fun wx hw => ?_) ?_
                · go_simp
                simp only [Act.put, List.setIfInBounds_toArray, List.set_cons_zero, List.set_cons_succ]
                refine a_value (some 111) (.pointer (some ⟨b, off + k * 4, none⟩)) rfl rfl (by rfl) (fun wx hw => ?_) ?_
                · go_simp
                simp only [Act.put, List.setIfInBounds_toArray, List.set_cons_zero, List.set_cons_succ]
                refine a_value (some 112) (.pointer (some ⟨b, off + k * 4, none⟩)) rfl rfl (by rfl) (fun wx hw => ?_) ?_
                · go_simp
                simp only [Act.put, List.setIfInBounds_toArray, List.set_cons_zero, List.set_cons_succ]
                refine a_value (some 113) (.string y.path) rfl rfl (by rfl) (fun wx hw => ?_) ?_
                · obtain ⟨_, _, h8, _⟩ := HCy.out wx hw
                  have h0 : wx.cell? ⟨b, off + k * 4, none⟩ = some (.string y.path) := h8 0 _ rfl
                  go_simp
                simp only [Act.put, List.setIfInBounds_toArray, List.set_cons_zero, List.set_cons_succ]
                refine a_value (some 114) (.slice (some ⟨ob, oo, none⟩) n oc2) rfl rfl (by rfl) (fun wx hw => ?_) ?_
                · go_simp
                simp only [Act.put, List.setIfInBounds_toArray, List.set_cons_zero, List.set_cons_succ]
                refine a_value (some 115) (.int .i64 (i : Int)) rfl rfl (by rfl) (fun wx hw => ?_) ?_
                · go_simp
                simp only [Act.put, List.setIfInBounds_toArray, List.set_cons_zero, List.set_cons_succ]
                refine a_value (some 116) (.pointer (some ⟨ob, oo + i, none⟩)) rfl rfl (by rfl) (fun wx hw => ?_) ?_
                · go_simp
                simp only [Act.put, List.setIfInBounds_toArray, List.set_cons_zero, List.set_cons_succ]
                refine a_value (some 117) (.string x) rfl rfl (by rfl) (fun wx hw => ?_) ?_
                · have h0 : wx.cell? ⟨ob, oo + i, none⟩ = some (.string x) := HX.out wx hw
                  go_simp
                simp only [Act.put, List.setIfInBounds_toArray, List.set_cons_zero, List.set_cons_succ]
                by_cases hyx : y.path = x
                · refine a_value (some 118) (.bool false) rfl rfl (by rfl) (fun wx hw => by rw [hyx]; go_simp) ?_
                  simp only [Act.put, List.setIfInBounds_toArray, List.set_cons_zero, List.set_cons_succ]
                  refine a_done ?_
                  try simp only [Exit.then]
                  have hml : y.refs.length ≤ 140737488355328 := by
                    obtain ⟨xa, xc, _, hif⟩ := HCy.out wr hBx
                    have := hif.refs.len
                    unfold big at this
                    omega
                  obtain ⟨m, hm⟩ : ∃ m, m = y.refs.length := ⟨_, rfl⟩
                  rw [← hm] at hml
                  have HM : Hid _ := hm
                  have HYX : Hid _ := hyx
                  obtain ⟨xa, xc, hrg4, hif4⟩ := HCy.out w4 (Below.refl _ _)
                  have HIf : Hid _ := hif4
                  have HQ3' : Hid (∀ wx, Below w4.heap.size w4 wx → wx.cell? ⟨b, off + k * 4 + 3, none⟩ = some (.slice xa m xc)) := fun wx hw => by
                    rw [hm]
                    exact (rangeAt_keep hrg4 hw) 3 _ rfl
                  clear hm hBx hBd hyx hrg4 hif4
                  have q3d : wr.drew.cell? ⟨b, off + k * 4 + 3, none⟩ = some (.slice xa m xc) := HQ3'.out _ HBd.out
                  go_wp2
                  go_loopw [13] (fun jv wx => ∃ j : Nat, jv = .int .i64 j ∧ j ≤ m ∧ Below w4.heap.size w4 wx) (fun jv _ => m - (intOf jv).toNat)
                  case atStart => exact ⟨0, rfl, Nat.zero_le _, HBd.out⟩
                  case round =>
                    obtain ⟨j, rfl, hj, hBz⟩ := hrel
                    have HBz : Hid _ := hBz
                    have q3 : wr.cell? ⟨b, off + k * 4 + 3, none⟩ = some (.slice xa m xc) := HQ3'.out _ hBz
                    have hwj : IntKind.i64.wrap ((j : Int) + 1) = ((j + 1 : Nat) : Int) := by rw [IntKind.wrap_i64]; omega
                    by_cases hlj : j < m
                    · have hlj' : (j : Int) < (m : Int) := by omega
                      have hjl : j < y.refs.length := by have := HM.out; omega
                      obtain ⟨rb, ro, hra, _⟩ := HIf.out.refs.ex
                      obtain rfl := hra (by omega)
                      obtain ⟨t, ht⟩ : ∃ t, t = y.refs[j] := ⟨_, rfl⟩
                      have HQ3 : Hid (∀ wx, Below w4.heap.size w4 wx → wx.cell? ⟨b, off + k * 4 + 3, none⟩ = some (.slice (some ⟨rb, ro, none⟩) m xc)) := HQ3'.out
                      have HQT : Hid (∀ wx, Below w4.heap.size w4 wx → wx.cell? ⟨rb, ro + j, none⟩ = some (.string t)) := fun wx hw => by
                        obtain ⟨b', o', h1, h2⟩ := (HIf.out.refs.keep hw).ex
                        have h3 := h1 (by omega)
                        cases h3
                        rw [ht]
                        exact h2 j hjl
                      have htm : t ∈ y.refs := by rw [ht]; exact List.getElem_mem _
                      have hBzd : Below w4.heap.size w4 wr.drew := hBz.drew
                      have HBzd : Hid _ := hBzd
                      clear ht hra hBz q3d
                      by_cases htx : t = x
                      · subst htx
                        have qt : wr.cell? ⟨rb, ro + j, none⟩ = some (.string t) := HQT.out wr HBz.out
                        have qx : wr.cell? ⟨ob, oo + i, none⟩ = some (.string t) := HX.out wr HBz.out
                        clear hBzd
                        go_wp2
                        go_quiet (fail)
                        go_wp2
                        go_roundw
                        case rel => exact ⟨j + 1, by go_num, by omega, below_drewN HBz.out _⟩
                        case measure => simp [intOf]; omega
                      · have hin : t ∈ X.take i := HRefx.out y HyL.out HYX.out t htm htx
                        have hhas := HHas.out wr.drew hBzd t
                        rw [decide_eq_true hin] at hhas
                        have htx' := str_ne htx
                        clear hin
                        go_wp2
                        refine wp_region_permA [(false, 0), (false, 1), (false, 2), (false, 3), (false, 4), (false, 5), (false, 6), (false, 7), (false, 8), (false, 9), (false, 10), (false, 11), (false, 12), (false, 13), (false, 14), (false, 15), (false, 16), (false, 17), (false, 18), (false, 19), (false, 20), (false, 21), (false, 22), (false, 23), (false, 24), (true, 25), (false, 26), (false, 27)] (fun wx => Below w4.heap.size w4 wx) (by kernel_rfl) (by kernel_rfl) hBzd ?_
                        refine a_value (some 129) (.slice (some ⟨b, off, none⟩) n lc) rfl rfl (by rfl) (fun wx hw => ?_) ?_
                        · go_simp
                        simp only [Act.put, List.setIfInBounds_toArray, List.set_cons_zero, List.set_cons_succ]
                        refine a_value (some 130) (.int .i64 (k : Int)) rfl rfl (by rfl) (fun wx hw => ?_) ?_
                        · go_simp
                        simp only [Act.put, List.setIfInBounds_toArray, List.set_cons_zero, List.set_cons_succ]
                        refine a_value (some 131) (.pointer (some ⟨b, off + k * 4, none⟩)) rfl rfl (by rfl) (fun wx hw => ?_) ?_
                        · go_simp
                        simp only [Act.put, List.setIfInBounds_toArray, List.set_cons_zero, List.set_cons_succ]
                        refine a_value (some 132) (.pointer (some ⟨b, off + k * 4 + 3, none⟩)) rfl rfl (by rfl) (fun wx hw => ?_) ?_
                        · go_simp
                        simp only [Act.put, List.setIfInBounds_toArray, List.set_cons_zero, List.set_cons_succ]
                        refine a_value (some 133) (.slice (some ⟨rb, ro, none⟩) m xc) rfl rfl (by rfl) (fun wx hw => ?_) ?_
                        · have h0 : wx.cell? ⟨b, off + k * 4 + 3, none⟩ = some (.slice (some ⟨rb, ro, none⟩) m xc) := HQ3.out wx hw
                          go_simp
                        simp only [Act.put, List.setIfInBounds_toArray, List.set_cons_zero, List.set_cons_succ]
                        refine a_value (some 134) (.int .i64 (j : Int)) rfl rfl (by rfl) (fun wx hw => ?_) ?_
                        · go_simp
                        simp only [Act.put, List.setIfInBounds_toArray, List.set_cons_zero, List.set_cons_succ]
                        refine a_value (some 135) (.pointer (some ⟨rb, ro + j, none⟩)) rfl rfl (by rfl) (fun wx hw => ?_) ?_
                        · go_simp
                        simp only [Act.put, List.setIfInBounds_toArray, List.set_cons_zero, List.set_cons_succ]
                        refine a_value (some 136) (.string t) rfl rfl (by rfl) (fun wx hw => ?_) ?_
                        · have h0 : wx.cell? ⟨rb, ro + j, none⟩ = some (.string t) := HQT.out wx hw
                          go_simp
                        simp only [Act.put, List.setIfInBounds_toArray, List.set_cons_zero, List.set_cons_succ]
                        refine a_value (some 137) (.slice (some ⟨ob, oo, none⟩) n oc2) rfl rfl (by rfl) (fun wx hw => ?_) ?_
                        · go_simp
                        simp only [Act.put, List.setIfInBounds_toArray, List.set_cons_zero, List.set_cons_succ]
                        refine a_value (some 138) (.int .i64 (i : Int)) rfl rfl (by rfl) (fun wx hw => ?_) ?_
                        · go_simp
                        simp only [Act.put, List.setIfInBounds_toArray, List.set_cons_zero, List.set_cons_succ]
                        refine a_value (some 139) (.pointer (some ⟨ob, oo + i, none⟩)) rfl rfl (by rfl) (fun wx hw => ?_) ?_
                        · go_simp
                        simp only [Act.put, List.setIfInBounds_toArray, List.set_cons_zero, List.set_cons_succ]
                        refine a_value (some 140) (.string x) rfl rfl (by rfl) (fun wx hw => ?_) ?_
                        · have h0 : wx.cell? ⟨ob, oo + i, none⟩ = some (.string x) := HX.out wx hw
                          go_simp
                        simp only [Act.put, List.setIfInBounds_toArray, List.set_cons_zero, List.set_cons_succ]
                        refine a_value (some 141) (.bool true) rfl rfl (by rfl) (fun wx hw => ?_) ?_
                        · go_simp
                        simp only [Act.put, List.setIfInBounds_toArray, List.set_cons_zero, List.set_cons_succ]
                        refine a_value (some 142) (.bool true) rfl rfl (by rfl) (fun wx hw => ?_) ?_
                        · go_simp
                        simp only [Act.put, List.setIfInBounds_toArray, List.set_cons_zero, List.set_cons_succ]
                        refine a_value (some 143) (.slice (some ⟨ob, oo, none⟩) n oc2) rfl rfl (by rfl) (fun wx hw => ?_) ?_
                        · go_simp
                        simp only [Act.put, List.setIfInBounds_toArray, List.set_cons_zero, List.set_cons_succ]
                        refine a_value (some 144) (.int .i64 (i : Int)) rfl rfl (by rfl) (fun wx hw => ?_) ?_
                        · go_simp
                        simp only [Act.put, List.setIfInBounds_toArray, List.set_cons_zero, List.set_cons_succ]
                        refine a_value (some 145) (.slice (some ⟨ob, oo, none⟩) i oc2) rfl rfl (by rfl) (fun wx hw => ?_) ?_
                        · go_simp
                        simp only [Act.put, List.setIfInBounds_toArray, List.set_cons_zero, List.set_cons_succ]
                        refine a_value (some 146) (.slice (some ⟨b, off, none⟩) n lc) rfl rfl (by rfl) (fun wx hw => ?_) ?_
                        · go_simp
                        simp only [Act.put, List.setIfInBounds_toArray, List.set_cons_zero, List.set_cons_succ]
                        refine a_value (some 147) (.int .i64 (k : Int)) rfl rfl (by rfl) (fun wx hw => ?_) ?_
                        · go_simp
                        simp only [Act.put, List.setIfInBounds_toArray, List.set_cons_zero, List.set_cons_succ]
                        refine a_value (some 148) (.pointer (some ⟨b, off + k * 4, none⟩)) rfl rfl (by rfl) (fun wx hw => ?_) ?_
                        · go_simp
                        simp only [Act.put, List.setIfInBounds_toArray, List.set_cons_zero, List.set_cons_succ]
                        refine a_value (some 149) (.pointer (some ⟨b, off + k * 4 + 3, none⟩)) rfl rfl (by rfl) (fun wx hw => ?_) ?_
                        · go_simp
                        simp only [Act.put, List.setIfInBounds_toArray, List.set_cons_zero, List.set_cons_succ]
                        refine a_value (some 150) (.slice (some ⟨rb, ro, none⟩) m xc) rfl rfl (by rfl) (fun wx hw => ?_) ?_
                        · have h0 : wx.cell? ⟨b, off + k * 4 + 3, none⟩ = some (.slice (some ⟨rb, ro, none⟩) m xc) := HQ3.out wx hw
                          go_simp
                        simp only [Act.put, List.setIfInBounds_toArray, List.set_cons_zero, List.set_cons_succ]
                        refine a_value (some 151) (.int .i64 (j : Int)) rfl rfl (by rfl) (fun wx hw => ?_) ?_
                        · go_simp
                        simp only [Act.put, List.setIfInBounds_toArray, List.set_cons_zero, List.set_cons_succ]
                        refine a_value (some 152) (.pointer (some ⟨rb, ro + j, none⟩)) rfl rfl (by rfl) (fun wx hw => ?_) ?_
                        · go_simp
                        simp only [Act.put, List.setIfInBounds_toArray, List.set_cons_zero, List.set_cons_succ]
                        refine a_value (some 153) (.string t) rfl rfl (by rfl) (fun wx hw => ?_) ?_
                        · have h0 : wx.cell? ⟨rb, ro + j, none⟩ = some (.string t) := HQT.out wx hw
                          go_simp
                        simp only [Act.put, List.setIfInBounds_toArray, List.set_cons_zero, List.set_cons_succ]
                        refine a_call (some 154) rfl rfl (by rfl) 25 #[.slice (some ⟨ob, oo, none⟩) i oc2, .string t] (by kernel_rfl) ?_
                        refine hhas.mono ?_
                        rintro e w7 ⟨rfl, rfl⟩
                        refine ⟨_, rfl, hBzd, ?_⟩
                        simp only [Act.put, List.setIfInBounds_toArray, List.set_cons_zero, List.set_cons_succ]
                        refine a_value (some 155) (.bool false) rfl rfl (by rfl) (fun wx hw => ?_) ?_
                        · go_simp
                        simp only [Act.put, List.setIfInBounds_toArray, List.set_cons_zero, List.set_cons_succ]
                        refine a_value (some 156) (.bool false) rfl rfl (by rfl) (fun wx hw => ?_) ?_
                        · go_simp
                        simp only [Act.put, List.setIfInBounds_toArray, List.set_cons_zero, List.set_cons_succ]
                        refine a_done ?_
                        try simp only [Exit.then]
                        clear hhas hBzd htx'
                        go_wp2
                        go_roundw
                        case rel => exact ⟨j + 1, by go_num, by omega, HBzd.out⟩
                        case measure => simp [intOf]; omega
                    · have hlj' : ¬ (j : Int) < (m : Int) := by omega
                      clear hBz q3d
                      go_wp2
                      go_roundw
                      case rel => exact ⟨k + 1, by go_num, by omega, HBz.out⟩
                      case measure => simp [intOf]; omega
                · refine a_value (some 118) (.bool true) rfl rfl (by rfl) (fun wx hw => by have h9 := str_ne hyx; go_simp) ?_
                  simp only [Act.put, List.setIfInBounds_toArray, List.set_cons_zero, List.set_cons_succ]
                  refine a_done ?_
                  try simp only [Exit.then]
                  clear hBx hBd
                  go_wp2
                  go_roundw
                  case rel => exact ⟨k + 1, by go_num, by omega, HBd.out⟩
                  case measure => simp [intOf]; omega
              · have hlk' : ¬ (k : Int) < (n : Int) := by omega
                have hBd : Below w4.heap.size w4 wr.drew := hBx.drew
                have HBd : Hid _ := hBd
                have hhas := HHas.out wr.drew hBd x
                rw [decide_eq_false HOncex.out] at hhas
                clear hBx
                go_wp2
                refine wp_region_permA [(false, 0), (false, 1), (false, 2), (false, 3), (false, 4), (false, 5), (false, 6), (true, 7)] (fun wx => Below w4.heap.size w4 wx) (by kernel_rfl) (by kernel_rfl) hBd ?_
                refine a_value (some 157) (.slice (some ⟨ob, oo, none⟩) n oc2) rfl rfl (by rfl) (fun wx hw => ?_) ?_
                · go_simp
                simp only [Act.put, List.setIfInBounds_toArray, List.set_cons_zero, List.set_cons_succ]
                refine a_value (some 158) (.int .i64 (i : Int)) rfl rfl (by rfl) (fun wx hw => ?_) ?_
                · go_simp
                simp only [Act.put, List.setIfInBounds_toArray, List.set_cons_zero, List.set_cons_succ]
                refine a_value (some 159) (.slice (some ⟨ob, oo, none⟩) i oc2) rfl rfl (by rfl) (fun wx hw => ?_) ?_
                · go_simp
                simp only [Act.put, List.setIfInBounds_toArray, List.set_cons_zero, List.set_cons_succ]
                refine a_value (some 160) (.slice (some ⟨ob, oo, none⟩) n oc2) rfl rfl (by rfl) (fun wx hw => ?_) ?_
                · go_simp
                simp only [Act.put, List.setIfInBounds_toArray, List.set_cons_zero, List.set_cons_succ]
                refine a_value (some 161) (.int .i64 (i : Int)) rfl rfl (by rfl) (fun wx hw => ?_) ?_
                · go_simp
                simp only [Act.put, List.setIfInBounds_toArray, List.set_cons_zero, List.set_cons_succ]
                refine a_value (some 162) (.pointer (some ⟨ob, oo + i, none⟩)) rfl rfl (by rfl) (fun wx hw => ?_) ?_
                · go_simp
                simp only [Act.put, List.setIfInBounds_toArray, List.set_cons_zero, List.set_cons_succ]
                refine a_value (some 163) (.string x) rfl rfl (by rfl) (fun wx hw => ?_) ?_
                · have h0 : wx.cell? ⟨ob, oo + i, none⟩ = some (.string x) := HX.out wx hw
                  go_simp
                simp only [Act.put, List.setIfInBounds_toArray, List.set_cons_zero, List.set_cons_succ]
                refine a_call (some 164) rfl rfl (by rfl) 25 #[.slice (some ⟨ob, oo, none⟩) i oc2, .string x] (by kernel_rfl) ?_
                refine hhas.mono ?_
                rintro e w7 ⟨rfl, rfl⟩
                refine ⟨_, rfl, hBd, ?_⟩
                simp only [Act.put, List.setIfInBounds_toArray, List.set_cons_zero, List.set_cons_succ]
                refine a_done ?_
                try simp only [Exit.then]
                clear hhas hBd
                go_wp2
                go_roundw
                case rel => exact ⟨i + 1, by go_num, by omega, HBd.out⟩
                case measure => simp [intOf]; omega
          · have hlt' : ¬ (i : Int) < (n : Int) := by omega
            clear hB
            go_wp2
            go_ret
            exact ⟨rfl, HB4.out.trans (HB.out.mono HB4.out.size)⟩
end Go.Proofs.Ytafdinfbeolmmaa
