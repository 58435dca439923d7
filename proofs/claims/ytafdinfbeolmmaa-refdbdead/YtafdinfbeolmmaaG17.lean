/- My own work: the walk of RefdbDead. -/
import Derived.Test.YtafdinfbeolmmaaG16
namespace Go.Proofs.Ytafdinfbeolmmaa
open Go.RowKit

theorem ls_nil (w : World) : LsAt w none [] 0 := ⟨⟨0, 0, fun h => absurd h (by decide), fun i h => absurd h (by simp)⟩, Nat.le_refl _, by unfold maxLen; omega⟩
/-- New of nothing makes a graph. -/
theorem new_nil {w w' : World} {e : Ending} (h : NewPost [] w e w') : ∃ g, e = .returned (.tuple #[.pointer (some ⟨g, 0, none⟩), .int .i64 0]) ∧ Below w.heap.size w w' := by
  obtain ⟨hb, ⟨h1, _⟩ | ⟨⟨_, i, hi, _⟩, _⟩ | ⟨_, g, _, _, _, rfl, _⟩⟩ := h
  · exact absurd List.nodup_nil h1
  · cases hi
  · exact ⟨g, rfl, hb⟩
set_option maxRecDepth 20000 in
set_option maxHeartbeats 16000000 in
theorem law_dead (L : List Inf) (la : Option Addr) (lc : Nat) (roots : List ByteArray) (ra : Option Addr) (rc : Nat) (w : World) (h : LsAt w la L lc) (hLn : L.length ≤ 140737488355328) (hr : StrsAt w ra roots rc) :
    Calls Try.prog 5 #[.slice la L.length lc, .slice ra roots.length rc] w fun e w' => e = .returned (.bool true) ∧ Below w.heap.size w w' := by
  have hfew := few_ok L la lc w h hLn
  have hrl := hr.len
  have hrle := hr.le
  unfold big at hrl
  have hle := h.le
  have HL : Hid _ := h
  have HR : Hid _ := hr
  obtain ⟨n, hN⟩ : ∃ n, n = L.length := ⟨_, rfl⟩
  obtain ⟨nr, hNr⟩ : ∃ nr, nr = roots.length := ⟨_, rfl⟩
  rw [← hN] at hfew hLn hle
  rw [← hN, ← hNr]
  rw [← hNr] at hrl hrle
  have HN : Hid _ := hN
  have HNr : Hid _ := hNr
  clear h hr hN hNr
  go_enter Try.func5, Try.ntmps5
  go_wp2_with fail
  refine hfew.mono ?_
  rintro e w1 ⟨rfl, bo, rfl, hbo⟩
  clear hfew
  cases bo with
  | false =>
    go_wp2
    go_ret
    exact ⟨rfl, Below.refl _ _⟩
  | true =>
    obtain ⟨h400, hr400⟩ := hbo rfl
    clear hbo
    by_cases hbig : 100 < nr
    · have hbig' : (100 : Int) < (nr : Int) := by omega
      go_wp2
      go_ret
      exact ⟨rfl, Below.refl _ _⟩
    have hbig' : ¬ (100 : Int) < (nr : Int) := by omega
    have hown := own_ok L la lc w1 HL.out h400 hr400
    have h4096 : L.length ≤ 4096 := by omega
    have H4096 : Hid _ := h4096
    rw [← HN.out] at hown h400
    clear hr400 h4096
    go_wp2_with fail
    refine hown.mono ?_
    rintro e w2 ⟨hb2, oa, oc, rfl, hLs2⟩
    have hnew := new_ok L oa oc w2 hLs2 H4096.out
    clear hown hLs2
    go_wp2_with fail
    refine hnew.mono ?_
    rintro e w3 hNP
    clear hnew
    obtain ⟨hb3, hcase⟩ := hNP
    have hB3 : Below w1.heap.size w1 w3 := hb2.trans (hb3.mono hb2.size)
    have HB3 : Hid _ := hB3
    clear hb2 hb3 hB3
    rcases hcase with ⟨_, rfl⟩ | ⟨_, rfl⟩ | ⟨hfine, g, P, dv, E, rfl, hGA, hGr, hgle⟩
    · have hnn := new_ok [] none 0 w3 (ls_nil w3) (Nat.zero_le _)
      go_wp2_with fail
      refine hnn.mono ?_
      rintro e w4 hp4
      obtain ⟨g4, rfl, hb4⟩ := new_nil hp4
      clear hnn hp4
      go_wp2
      go_ret
      exact ⟨rfl, HB3.out.trans (hb4.mono HB3.out.size)⟩
    · have hnn := new_ok [] none 0 w3 (ls_nil w3) (Nat.zero_le _)
      go_wp2_with fail
      refine hnn.mono ?_
      rintro e w4 hp4
      obtain ⟨g4, rfl, hb4⟩ := new_nil hp4
      clear hnn hp4
      go_wp2
      go_ret
      exact ⟨rfl, HB3.out.trans (hb4.mono HB3.out.size)⟩
    · have hPn : P.length ≤ 4096 := by rw [hGr.len]; exact H4096.out
      have hPl : P.length = n := by rw [hGr.len, ← HN.out]
      have HGr : Hid _ := hGr
      have HGA : Hid _ := hGA
      have HF : Hid _ := hfine
      have hEb := hGr.edges
      have hdd := dead_ok g P dv roots E ra rc w3 hGA hPn hEb (HR.out.keep HB3.out)
      rw [← HNr.out] at hdd
      clear hGr hGA hfine
      go_wp2_with fail
      refine hdd.mono ?_
      rintro e w4 ⟨dvv, V, rfl, hV, hTd⟩
      clear hdd
      have hbig4 := HGA.out.big
      obtain ⟨da, dc, rfl, hSd⟩ := hTd.strs (Nat.le_trans (sel_le _ P) hPn) (fun x hx => hbig4 x (sel_mem hx))
      have hB4 : Below w1.heap.size w1 w4 := HB3.out.trans (hTd.old.mono HB3.out.size)
      have hG4 := HGA.out.keep hTd.old
      obtain ⟨dead, hdead⟩ : ∃ dead, dead = selN (fun k => !V k) P := ⟨_, rfl⟩
      rw [← hdead] at hSd ⊢
      have HDd : Hid _ := hdead
      have HV : Hid _ := hV
      have HSd : Hid _ := hSd
      have HB4 : Hid _ := hB4
      have HG4 : Hid _ := hG4
      clear hdead hV hSd hB4 hG4 hTd HGA
      obtain ⟨b, off, ha, hc⟩ := HL.out.ex
      have HA : Hid _ := ha
      have HC : Hid (∀ wx, Below w1.heap.size w1 wx → ∀ i (h : i < L.length), ∃ xa xc, wx.rangeAt b (off + i * 4) (infV L[i] xa xc).toList ∧ InfAt wx L[i] xa xc) := fun wx hx i hi => by
        obtain ⟨xa, xc, h3, h4⟩ := hc i hi
        exact ⟨xa, xc, rangeAt_keep h3 hx, h4.keep hx⟩
      clear ha hc
      go_wp2
      -- the roots that are there
      go_loopw [10, 11] (fun tv iv wr => ∃ i : Nat, iv = .int .i64 i ∧ i ≤ n ∧ wr.ownsRow w4.heap.size 9 1 tv (thereL L roots i).length ((thereL L roots i).map Value.string) ∧ Below w4.heap.size w4 wr) (fun _ iv _ => n - (intOf iv).toNat)
      case atStart => exact ⟨0, rfl, Nat.zero_le _, World.ownsRow_nil _ _ _ _, Below.refl _ _⟩
      case round =>
        obtain ⟨i, rfl, hi, hown, hB⟩ := hrel
        have HO : Hid _ := hown
        have HB : Hid _ := hB
        have hBw : Below w1.heap.size w1 wr := HB4.out.trans (hB.mono HB4.out.size)
        by_cases hlt : i < n
        · have hlt' : (i : Int) < (n : Int) := by omega
          have hil : i < L.length := by have := HN.out; omega
          obtain rfl := HA.out (by omega)
          obtain ⟨xa, xc, hrg, hif⟩ := HC.out wr hBw i hil
          obtain ⟨y, hy⟩ : ∃ y, y = L[i] := ⟨_, rfl⟩
          rw [← hy] at hrg hif
          have HY : Hid _ := hy
          have qp : wr.cell? ⟨b, off + i * 4, none⟩ = some (.string y.path) := hrg 0 _ rfl
          have hhas := has_ok roots ra rc y.path wr (HR.out.keep hBw)
          rw [← HNr.out] at hhas
          obtain ⟨hb, hhb⟩ : ∃ hb, hb = decide (y.path ∈ roots) := ⟨_, rfl⟩
          rw [← hhb] at hhas
          have HHb : Hid _ := hhb
          clear hy hrg hif hhb
          cases hb with
          | true =>
            have hl : (thereL L roots i).length ≤ i := thereL_len L roots i
            obtain ⟨ta, tc, rfl⟩ := own_slice hown
            obtain ⟨nl, hnl⟩ : ∃ nl, nl = (thereL L roots i).length := ⟨_, rfl⟩
            rw [← hnl] at hown hl HO ⊢
            have hba : Below wr.heap.size wr (wr.alloc (.cells #[.string y.path] 9)) := (Below.refl _ _).alloc (Nat.le_refl _) _
            have hoa : (wr.alloc (.cells #[.string y.path] 9)).ownsRow w4.heap.size 9 1 (.slice ta nl tc) nl ((thereL L roots i).map Value.string) := ownsRow_keep' hown fun g _ hl => hba.block g hl
            have HOa : Hid _ := hoa
            have hBs := hB.size
            have HNl : Hid _ := hnl
            clear hoa hown hB hnl hBw
            go_wp2_with fail
            refine hhas.mono ?_
            rintro e w5 ⟨rfl, rfl⟩
            clear hhas
            go_wp2_with (
              at_builtin
              refine wpList_plain rfl fun K' hK' => ?_
              refine ap_one (some 69) rfl (.tmp 62) (.tmp 68) rfl w4.heap.size _ nl _ rfl y.path HOa.out rfl hBs (by omega) ?_
              intro v6 w6 hown6 hg6
              refine hK' _ _ ?_
              have HO6 : Hid _ := hown6
              have HG6 : Hid _ := hg6
              clear hown6 hg6)
            go_roundw
            case rel =>
              refine ⟨i + 1, by go_num, by omega, ?_, HB.out.trans ⟨HG6.out.os, HG6.out.tape, HG6.out.output, by have := HG6.out.size; simp at this; omega, fun k hk => (HG6.out.block k (by simp; omega) (fun e => by have := (ownsRow_lt' HO.out k e.symm).2; omega)).trans (hba.block k (by omega))⟩⟩
              rw [thereL_succ L roots i hil, if_pos (by rw [← HY.out]; exact of_decide_eq_true HHb.out.symm), List.length_append, List.map_append, ← HNl.out, ← HY.out]
              exact HO6.out
            case measure => simp [intOf]; omega
          | false =>
            clear hown hB hBw
            go_wp2_with fail
            refine hhas.mono ?_
            rintro e w5 ⟨rfl, rfl⟩
            clear hhas
            go_wp2
            go_roundw
            case rel => exact ⟨i + 1, by go_num, by omega, by rw [thereL_succ L roots i hil, if_neg (by rw [← HY.out]; exact of_decide_eq_false HHb.out.symm), List.append_nil]; exact HO.out, HB.out⟩
            case measure => simp [intOf]; omega
        · have hlt' : ¬ (i : Int) < (n : Int) := by omega
          obtain rfl : i = n := by omega
          have htl := thereL_len L roots i
          have hown' := hown
          rw [HN.out] at hown'
          obtain ⟨ta, tc, rfl, hSt, _⟩ := own_strs (X := thereL L roots L.length) hown' (by unfold big; have := thereL_len L roots L.length; have := H4096.out; omega) (fun x hx => by
            have h1 := there_sub HGr.out roots x hx
            exact HG4.out.big x h1)
          have hG5 := HG4.out.keep hB
          have hcl := closure_ok g P dv (thereL L roots L.length) E ta tc wr hG5 hPn hEb hSt
          have HB5 : Hid _ := hBw
          have HBw : Hid _ := hB
          have HG5 : Hid _ := hG5
          clear hown hown' hSt hG5 hB hBw htl
          go_wp2_with fail
          refine hcl.mono ?_
          rintro e w6 hcp
          clear hcl
          rcases hcp with ⟨⟨x, hx, hxn⟩, _, _⟩ | ⟨_, vv, V2, rfl, hV2, hT2⟩
          · exact absurd (there_sub HGr.out roots x hx) hxn
          have hVV : selN V2 P = selN V P := selN_cong fun k _ => bool_iff (by
            rw [hV2, HV.out]
            exact ⟨Rch.cong fun j hj => (there_roots HGr.out roots j).1 hj, Rch.cong fun j hj => (there_roots HGr.out roots j).2 hj⟩)
          rw [hVV] at hT2
          have hbig5 := HG5.out.big
          obtain ⟨va, vc, rfl, hSl⟩ := hT2.strs (Nat.le_trans (sel_le _ P) hPn) (fun x hx => hbig5 x (sel_mem hx))
          have hsum : (selN V P).length + (selN (fun k => !V k) P).length = P.length := selN_len V P
          rw [← HDd.out, hPl] at hsum
          have hB6 : Below w1.heap.size w1 w6 := HB5.out.trans (hT2.old.mono HB5.out.size)
          have hG6 := HG5.out.keep hT2.old
          have hSd6 := (HSd.out.keep HBw.out).keep hT2.old
          obtain ⟨live, hlive⟩ : ∃ live, live = selN V P := ⟨_, rfl⟩
          rw [← hlive] at hSl hsum ⊢
          have HLv : Hid _ := hlive
          have HSl : Hid _ := hSl
          have HB6 : Hid _ := hB6
          have HG6 : Hid _ := hG6
          have HSd6 : Hid _ := hSd6
          have hll := hSl.le
          have hdl := hSd6.le
          have hsumI : (live.length : Int) + (dead.length : Int) = (i : Int) := by omega
          have hwrp : IntKind.i64.wrap ((live.length : Int) + (dead.length : Int)) = (i : Int) := by rw [IntKind.wrap_i64]; omega
          clear hT2 hVV hV2 hSl hB6 hG6 hSd6 hlive hbig5
          go_wp2
          go_loopw [13] (fun iv wx => ∃ k : Nat, iv = .int .i64 k ∧ k ≤ i ∧ Below w6.heap.size w6 wx) (fun iv _ => i - (intOf iv).toNat)
          case atStart => exact ⟨0, rfl, Nat.zero_le _, Below.refl _ _⟩
          case round =>
            obtain ⟨k, rfl, hk, hB7⟩ := hrel
            have hBw7 : Below w1.heap.size w1 wr := HB6.out.trans (hB7.mono HB6.out.size)
            have HB7 : Hid _ := hB7
            by_cases hlt2 : k < i
            · have hlt2' : (k : Int) < (i : Int) := by omega
              have hkl : k < L.length := by have := HN.out; omega
              obtain rfl := HA.out (by omega)
              obtain ⟨xa, xc, hrg, hif⟩ := HC.out wr hBw7 k hkl
              obtain ⟨y, hy⟩ : ∃ y, y = L[k] := ⟨_, rfl⟩
              rw [← hy] at hrg hif
              have HY : Hid _ := hy
              have qp : wr.cell? ⟨b, off + k * 4, none⟩ = some (.string y.path) := hrg 0 _ rfl
              have q3 : wr.cell? ⟨b, off + k * 4 + 3, none⟩ = some (.slice xa y.refs.length xc) := hrg 3 _ rfl
              have hyP : y.path ∈ P := (HGr.out.mem _).2 (List.mem_map.2 ⟨y, by rw [hy]; exact List.getElem_mem _, rfl⟩)
              have hyL : y ∈ L := by rw [hy]; exact List.getElem_mem _
              have hd7 : Below w6.heap.size w6 wr.drew := hB7.trans ((Below.refl _ _).drew.mono hB7.size)
              have hh1 := has_ok live va vc y.path wr.drew (HSl.out.keep hd7)
              have hh2 := has_ok dead da dc y.path wr.drew (HSd6.out.keep hd7)
              have hneg : decide (y.path ∈ dead) = !decide (y.path ∈ live) := by
                obtain ⟨t, ht, hte⟩ := List.getElem_of_mem hyP
                have htx : P[t]? = some y.path := by rw [List.getElem?_eq_getElem ht, hte]
                have e1 := mem_sel (V := V) HG6.out.up htx
                have e2 := mem_sel (V := fun k => !V k) HG6.out.up htx
                rw [HDd.out, HLv.out]
                cases hv : V t with
                | true =>
                  have h1 : y.path ∈ selN V P := e1.2 hv
                  have h2 : y.path ∉ selN (fun k => !V k) P := fun h => by have := e2.1 h; rw [hv] at this; cases this
                  rw [decide_eq_true h1, decide_eq_false h2]
                  rfl
                | false =>
                  have h1 : y.path ∉ selN V P := fun h => by have := e1.1 h; rw [hv] at this; cases this
                  have h2 : y.path ∈ selN (fun k => !V k) P := e2.2 (by rw [hv]; rfl)
                  rw [decide_eq_false h1, decide_eq_true h2]
                  rfl
              rw [hneg] at hh2
              have hclosed : y.path ∈ live → ∀ r ∈ y.refs, r ∈ live := fun hl r hr => by
                rw [HLv.out] at hl ⊢
                exact live_closed HGr.out HG6.out.up HV.out hyL hr ((HGr.out.mem r).2 (HF.out.2 y hyL r hr)) hl
              obtain ⟨b1, hb1⟩ : ∃ b1, b1 = decide (y.path ∈ live) := ⟨_, rfl⟩
              rw [← hb1] at hh1 hh2
              have HB1 : Hid _ := hb1
              have HCl : Hid _ := hclosed
              have HIf : Hid _ := hif
              have HH3 : Hid (∀ wx, Below w6.heap.size w6 wx → ∀ z, Calls Try.prog 25 #[.slice va live.length vc, .string z] wx fun e w' => e = .returned (.bool (decide (z ∈ live))) ∧ w' = wx) := fun wx hx z => has_ok live va vc z wx (HSl.out.keep hx)
              have hsd : wr.drew.cell? ⟨b, off + k * 4, none⟩ = some (.string y.path) := qp
              clear hy hrg hif hneg hclosed hb1 hyP hyL hd7 hB7 hBw7
              go_wp2
              refine wp_region_permA [(false, 0), (false, 1), (false, 2), (false, 3), (false, 4), (false, 5), (false, 7), (false, 8), (false, 9), (false, 10), (false, 11), (false, 12), (true, 6), (true, 13), (true, 14)] (fun wx => wx.cell? ⟨b, off + k * 4, none⟩ = some (.string y.path)) (by kernel_rfl) (by kernel_rfl) hsd ?_
              refine a_value (some 94) (.slice va live.length vc) rfl rfl (by rfl) (fun wx hw => ?_) ?_
              · go_simp
              simp only [Act.put, List.setIfInBounds_toArray, List.set_cons_zero, List.set_cons_succ]
              refine a_value (some 95) (.slice (some ⟨b, off, none⟩) i lc) rfl rfl (by rfl) (fun wx hw => ?_) ?_
              · go_simp
              simp only [Act.put, List.setIfInBounds_toArray, List.set_cons_zero, List.set_cons_succ]
              refine a_value (some 96) (.int .i64 (k : Int)) rfl rfl (by rfl) (fun wx hw => ?_) ?_
              · go_simp
              simp only [Act.put, List.setIfInBounds_toArray, List.set_cons_zero, List.set_cons_succ]
              refine a_value (some 97) (.pointer (some ⟨b, off + k * 4, none⟩)) rfl rfl (by rfl) (fun wx hw => ?_) ?_
              · go_simp
              simp only [Act.put, List.setIfInBounds_toArray, List.set_cons_zero, List.set_cons_succ]
              refine a_value (some 98) (.pointer (some ⟨b, off + k * 4, none⟩)) rfl rfl (by rfl) (fun wx hw => ?_) ?_
              · go_simp
              simp only [Act.put, List.setIfInBounds_toArray, List.set_cons_zero, List.set_cons_succ]
              refine a_value (some 99) (.string y.path) rfl rfl (by rfl) (fun wx hw => ?_) ?_
              · have h0 : wx.cell? ⟨b, off + k * 4, none⟩ = some (.string y.path) := hw
                go_simp
              simp only [Act.put, List.setIfInBounds_toArray, List.set_cons_zero, List.set_cons_succ]
              refine a_value (some 101) (.slice da dead.length dc) rfl rfl (by rfl) (fun wx hw => ?_) ?_
              · go_simp
              simp only [Act.put, List.setIfInBounds_toArray, List.set_cons_zero, List.set_cons_succ]
              refine a_value (some 102) (.slice (some ⟨b, off, none⟩) i lc) rfl rfl (by rfl) (fun wx hw => ?_) ?_
              · go_simp
              simp only [Act.put, List.setIfInBounds_toArray, List.set_cons_zero, List.set_cons_succ]
              refine a_value (some 103) (.int .i64 (k : Int)) rfl rfl (by rfl) (fun wx hw => ?_) ?_
              · go_simp
              simp only [Act.put, List.setIfInBounds_toArray, List.set_cons_zero, List.set_cons_succ]
              refine a_value (some 104) (.pointer (some ⟨b, off + k * 4, none⟩)) rfl rfl (by rfl) (fun wx hw => ?_) ?_
              · go_simp
              simp only [Act.put, List.setIfInBounds_toArray, List.set_cons_zero, List.set_cons_succ]
              refine a_value (some 105) (.pointer (some ⟨b, off + k * 4, none⟩)) rfl rfl (by rfl) (fun wx hw => ?_) ?_
              · go_simp
              simp only [Act.put, List.setIfInBounds_toArray, List.set_cons_zero, List.set_cons_succ]
              refine a_value (some 106) (.string y.path) rfl rfl (by rfl) (fun wx hw => ?_) ?_
              · have h0 : wx.cell? ⟨b, off + k * 4, none⟩ = some (.string y.path) := hw
                go_simp
              simp only [Act.put, List.setIfInBounds_toArray, List.set_cons_zero, List.set_cons_succ]
              refine a_call (some 100) rfl rfl (by rfl) 25 #[.slice va live.length vc, .string y.path] (by kernel_rfl) ?_
              refine hh1.mono ?_
              rintro e w7 ⟨rfl, rfl⟩
              refine ⟨_, rfl, hsd, ?_⟩
              simp only [Act.put, List.setIfInBounds_toArray, List.set_cons_zero, List.set_cons_succ]
              refine a_call (some 107) rfl rfl (by rfl) 25 #[.slice da dead.length dc, .string y.path] (by kernel_rfl) ?_
              refine hh2.mono ?_
              rintro e w8 ⟨rfl, rfl⟩
              refine ⟨_, rfl, hsd, ?_⟩
              simp only [Act.put, List.setIfInBounds_toArray, List.set_cons_zero, List.set_cons_succ]
              refine a_alone (some 108) (.bool false) wr.drew rfl rfl (by rfl) (by cases b1 <;> kernel_rfl) hsd ?_
              simp only [Act.put, List.setIfInBounds_toArray, List.set_cons_zero, List.set_cons_succ]
              refine a_done ?_
              try simp only [Exit.then]
              clear hh1 hh2 hsd qp q3
              have HBd : Hid (Below w6.heap.size w6 wr.drew) := HB7.out.trans ((Below.refl _ _).drew.mono HB7.out.size)
              have hml := HIf.out.refs.len
              unfold big at hml
              obtain ⟨m, hm⟩ : ∃ m, m = y.refs.length := ⟨_, rfl⟩
              have HM : Hid _ := hm
              rw [← hm] at hml
              clear hm HIf
              go_wp2
              go_loopw [14] (fun iv wx => ∃ j : Nat, iv = .int .i64 j ∧ j ≤ m ∧ Below w6.heap.size w6 wx) (fun iv _ => m - (intOf iv).toNat)
              case atStart => exact ⟨0, rfl, Nat.zero_le _, HBd.out⟩
              case round =>
                obtain ⟨j, rfl, hj, hB8⟩ := hrel
                have hBw8 : Below w1.heap.size w1 wr := HB6.out.trans (hB8.mono HB6.out.size)
                obtain ⟨ya, yc, hrg, hif⟩ := HC.out wr hBw8 k hkl
                rw [← HY.out] at hrg hif
                have qp : wr.cell? ⟨b, off + k * 4, none⟩ = some (.string y.path) := hrg 0 _ rfl
                have q3 : wr.cell? ⟨b, off + k * 4 + 3, none⟩ = some (.slice ya y.refs.length yc) := hrg 3 _ rfl
                rw [← HM.out] at q3
                have hyl := hif.refs.le
                rw [← HM.out] at hyl
                have HB8 : Hid _ := hB8
                by_cases hjm : j < m
                · have hjm' : (j : Int) < (m : Int) := by omega
                  have hjl : j < y.refs.length := by have := HM.out; omega
                  obtain ⟨rb, ro, hra, hrcell⟩ := hif.refs.ex
                  obtain rfl := hra (by omega)
                  have qr := hrcell j hjl
                  obtain ⟨z, hz⟩ : ∃ z, z = y.refs[j] := ⟨_, rfl⟩
                  rw [← hz] at qr
                  have HZ : Hid _ := hz
                  have hh1 := HH3.out wr hB8 y.path
                  obtain ⟨b3, hb3⟩ : ∃ b3, b3 = decide (y.path ∈ live) := ⟨_, rfl⟩
                  rw [← hb3] at hh1
                  have HB3' : Hid _ := hb3
                  have hh2 := HH3.out wr hB8 z
                  clear hrg hif hra hrcell hz hB8 hBw8 hb3
                  cases b3 with
                  | true =>
                    have hzl : z ∈ live := HCl.out (of_decide_eq_true HB3'.out.symm) z (by rw [HZ.out]; exact List.getElem_mem _)
                    rw [decide_eq_true hzl] at hh2
                    clear hzl
                    go_wp2_with fail
                    refine hh1.mono ?_
                    rintro e w9 ⟨rfl, rfl⟩
                    clear hh1
                    go_wp2_with fail
                    refine hh2.mono ?_
                    rintro e w9 ⟨rfl, rfl⟩
                    clear hh2
                    go_wp2
                    go_roundw
                    case rel => exact ⟨j + 1, by go_num, by omega, HB8.out⟩
                    case measure => simp [intOf]; omega
                  | false =>
                    clear hh2
                    go_wp2_with fail
                    refine hh1.mono ?_
                    rintro e w9 ⟨rfl, rfl⟩
                    clear hh1
                    go_wp2
                    go_roundw
                    case rel => exact ⟨j + 1, by go_num, by omega, HB8.out⟩
                    case measure => simp [intOf]; omega
                · have hjm' : ¬ (j : Int) < (m : Int) := by omega
                  clear hrg hif hB8 hBw8
                  go_wp2
                  go_roundw
                  case rel => exact ⟨k + 1, by go_num, by omega, HB8.out⟩
                  case measure => simp [intOf]; omega
            · have hlt2' : ¬ (k : Int) < (i : Int) := by omega
              have hcl2 := closure_ok g P dv live E va vc wr (HG6.out.keep hB7) hPn hEb (HSl.out.keep hB7)
              have HBe : Hid _ := hBw7
              clear hB7 hBw7
              go_wp2_with fail
              refine hcl2.mono ?_
              rintro e w9 hcp9
              clear hcl2
              rcases hcp9 with ⟨⟨x, hx, hxn⟩, _, _⟩ | ⟨_, vv, V3, rfl, hV3, hT3⟩
              · rw [HLv.out] at hx
                exact absurd (sel_mem hx) hxn
              have hsame : selN V3 P = live := by
                rw [HLv.out] at hV3 ⊢
                exact live_again HG6.out.up HV.out hV3
              rw [hsame] at hT3
              obtain ⟨xa, xc, rfl, hSx⟩ := hT3.strs (by rw [HLv.out]; exact Nat.le_trans (sel_le _ P) hPn) (fun x hx => by rw [HLv.out] at hx; exact HG6.out.big x (sel_mem hx))
              have hsm := same_ok xa va live xc vc w9 hSx ((HSl.out.keep HB7.out).keep hT3.old)
              have HBz : Hid (Below w1.heap.size w1 w9) := HBe.out.trans (hT3.old.mono HBe.out.size)
              clear hT3 hSx hsame hV3
              go_wp2_with fail
              refine hsm.mono ?_
              rintro e wz ⟨rfl, hbz⟩
              clear hsm
              go_wp2
              go_ret
              exact ⟨rfl, HBz.out.trans (hbz.mono HBz.out.size)⟩
end Go.Proofs.Ytafdinfbeolmmaa
