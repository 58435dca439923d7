/- My own work: the document's Reach, by contract. -/
import Derived.Test.YtkbhckjpmgkgjaaG31
namespace Go.Proofs.Ytkbhckjpmgkgjaa
open Go.RowKit
open Classical

theorem Asked.zero (L : List Inf) (O : List ByteArray) : Asked L O 0 := fun _ _ ht => absurd ht (Nat.not_lt_zero _)
theorem Asked.more {L : List Inf} {O : List ByteArray} {i : Nat} (h : Asked L O i) (hi : i ≤ O.length) (x : ByteArray) : Asked L (O ++ [x]) i := fun t ht hti y hy hp r hr => by
  have h1 : t < O.length := by omega
  rw [List.getElem_append_left h1] at hp
  exact List.mem_append_left _ (h t h1 hti y hy hp r hr)
theorem Asked.go {L : List Inf} (hf : (L.map (·.path)).Nodup) {O : List ByteArray} {i : Nat} (h : Asked L O i) (hi : i < O.length) {x : Inf} (hx : x ∈ L) (hp : x.path = O[i]) (ha : ∀ r ∈ x.refs, r ∈ O) : Asked L O (i + 1) := fun t ht hti y hy hyp r hr => by
  by_cases e : t = i
  · subst e
    obtain rfl := inf_one hf hy hx (hyp.trans hp.symm)
    exact ha r hr
  · exact h t ht (by omega) y hy hyp r hr
theorem row_grown {w w' : World} {kx B n : Nat} {C : Array Value} {t : TypeId} {v : Value} {xs : List Value} (h : Row w kx C t) (ho : w.ownsRow B 9 1 v n xs) (ht : t ≠ 9) (hg : w.grownBy w' v.ownBlock) : Row w' kx C t :=
  (hg.block kx h.lt fun e => by
    obtain ⟨D, hD⟩ := ownsRow_row ho kx e.symm
    have h2 := (show w.heap[kx]? = some (.cells C t (0, 0)) from h).symm.trans hD
    simp only [Option.some.injEq, Obj.cells.injEq] at h2
    exact ht h2.2.1).trans h
def ReachD (L : List Inf) (R : List ByteArray) (w : World) (e : Ending) (w' : World) : Prop := ∃ v Y, e = .returned v ∧ Up Y ∧ (∀ x, x ∈ Y ↔ RchP L R x) ∧ Told w w' v Y
/-- The first loop's state. -/
structure R1St (L : List Inf) (R O : List ByteArray) (j : Nat) : Prop where
  st : ReSt L R O
  rt : ∀ x ∈ R.take j, x ∈ L.map (·.path) → x ∈ O
theorem R1St.skip {L : List Inf} {R O : List ByteArray} {j : Nat} (h : R1St L R O j) (hj : j < R.length) (hs : R[j] ∉ L.map (·.path) ∨ R[j] ∈ O) : R1St L R O (j + 1) :=
  ⟨h.st, fun x hx hp => by
    rcases take_mem_succ hj hx with h1 | rfl
    · exact h.rt x h1 hp
    · exact hs.elim (fun h2 => absurd hp h2) id⟩
theorem R1St.take {L : List Inf} {R O : List ByteArray} {j : Nat} (h : R1St L R O j) (hj : j < R.length) (hp : R[j] ∈ L.map (·.path)) (hn : R[j] ∉ O) : R1St L R (O ++ [R[j]]) (j + 1) :=
  ⟨h.st.more (.root (List.getElem_mem hj) hp) hn, fun x hx hp => by
    rcases take_mem_succ hj hx with h1 | rfl
    · exact List.mem_append_left _ (h.rt x h1 hp)
    · simp⟩
/-- The second loop's state: i were asked; of the next one's references k. -/
structure R2St (L : List Inf) (R O : List ByteArray) (i : Nat) : Prop where
  st : ReSt L R O
  rt : ∀ x ∈ R, x ∈ L.map (·.path) → x ∈ O
  ask : Asked L O i
  le : i ≤ O.length
structure R3St (L : List Inf) (R O : List ByteArray) (i : Nat) (y : Inf) (k : Nat) : Prop where
  st : R2St L R O i
  at' : O[i]? = some y.path
  rf : ∀ r ∈ y.refs.take k, r ∈ O
theorem R3St.skip {L : List Inf} {R O : List ByteArray} {i k : Nat} {y : Inf} (h : R3St L R O i y k) (hk : k < y.refs.length) (hs : y.refs[k] ∈ O) : R3St L R O i y (k + 1) :=
  ⟨h.st, h.at', fun x hx => by
    rcases take_mem_succ hk hx with h1 | rfl
    · exact h.rf x h1
    · exact hs⟩
theorem R3St.take {L : List Inf} {R O : List ByteArray} {i k : Nat} {y : Inf} (h : R3St L R O i y k) (hy : y ∈ L) (hk : k < y.refs.length) (hn : y.refs[k] ∉ O) : R3St L R (O ++ [y.refs[k]]) i y (k + 1) := by
  have hi := (List.getElem?_eq_some_iff.1 h.at').1
  have hyO : y.path ∈ O := List.mem_of_getElem? h.at'
  refine ⟨⟨h.st.st.more (.step (h.st.st.sub _ hyO) hy rfl (List.getElem_mem hk)) hn, fun x hx hp => List.mem_append_left _ (h.st.rt x hx hp), h.st.ask.more h.st.le _, by rw [List.length_append]; have := h.st.le; omega⟩, by rw [List.getElem?_append_left hi]; exact h.at', fun x hx => ?_⟩
  rcases take_mem_succ hk hx with h1 | rfl
  · exact List.mem_append_left _ (h.rf x h1)
  · simp
theorem R3St.done {L : List Inf} (hf : (L.map (·.path)).Nodup) {R O : List ByteArray} {i : Nat} {y : Inf} (hy : y ∈ L) (h : R3St L R O i y y.refs.length) : R2St L R O (i + 1) := by
  obtain ⟨hi, he⟩ := List.getElem?_eq_some_iff.1 h.at'
  exact ⟨h.st.st, h.st.rt, h.st.ask.go hf hi hy he.symm fun r hr => h.rf r (by rw [List.take_length]; exact hr), hi⟩
set_option maxRecDepth 20000 in
set_option maxHeartbeats 8000000 in
theorem refReach_ok (L : List Inf) (a : Option Addr) (c : Nat) (R : List ByteArray) (ra : Option Addr) (rc : Nat) (w : World) (h : LsAt w a L c) (hL : L.length ≤ 4096) (hf : Fine L) (hr : StrsAt w ra R rc) : Calls Try.prog 32 #[.slice a L.length c, .slice ra R.length rc] w (ReachD L R w) := by
  have HLs : Hid (∀ wx, Below w.heap.size w wx → LsAt wx a L c) := fun wx hx => h.keep hx
  have hfi : ∀ x wx, Below w.heap.size w wx → Calls Try.prog 27 #[.slice a L.length c, .string x] wx fun e w' => (∃ z : Int, e = .returned (.int .i64 z) ∧ FindP L x z) ∧ w' = wx := fun x wx hx => refFind_ok L a c x wx (h.keep hx) (by omega)
  obtain ⟨b, off, ha, hc⟩ := h.ex
  have hle := h.le
  have HA : Hid _ := ha
  have HC : Hid (∀ wx, Below w.heap.size w wx → ∀ i (h : i < L.length), ∃ ra rc, wx.rangeAt b (off + i * 4) (infV L[i] ra rc).toList ∧ InfAt w L[i] ra rc) := fun wx hx i hi => by
    obtain ⟨ra, rc, h3, h4⟩ := hc i hi
    exact ⟨ra, rc, rangeAt_keep h3 hx, h4⟩
  obtain ⟨rb, ro, hra, hrcl⟩ := hr.ex
  have hrle := hr.le
  have hrl := hr.len
  unfold big at hrl
  have HREa : Hid (∀ x ∈ R, x.size ≤ big) := hr.each
  have HRA : Hid _ := hra
  have HRC : Hid (∀ wx, Below w.heap.size w wx → ∀ i (h : i < R.length), wx.cell? ⟨rb, ro + i, none⟩ = some (.string R[i])) := fun wx hx i hi => (hx.cell (p := ⟨rb, ro + i, none⟩) (World.block_lt_of_cell? _ _ (hrcl i hi))).trans (hrcl i hi)
  have HPb : Hid (∀ y ∈ L, y.path.size ≤ big ∧ ∀ r ∈ y.refs, r.size ≤ big) := fun y hy => by
    obtain ⟨t, ht, rfl⟩ := List.getElem_of_mem hy
    obtain ⟨_, _, _, h4⟩ := hc t ht
    exact ⟨h4.path, h4.refs.each⟩
  have HOb : Hid (∀ O, ReSt L R O → ∀ x ∈ O, x.size ≤ big) := fun O hO x hx => by
    obtain ⟨y, hy, rfl⟩ := List.mem_map.1 ((hO.sub x hx).there hf)
    exact (HPb.out y hy).1
  have HF : Hid (Fine L) := hf
  obtain ⟨n, hN⟩ : ∃ n, n = L.length := ⟨_, rfl⟩
  have HN : Hid _ := hN
  obtain ⟨m, hM⟩ : ∃ m, m = R.length := ⟨_, rfl⟩
  have HM : Hid _ := hM
  rw [← hN] at hL hle hfi ⊢
  rw [← hM] at hrle hrl ⊢
  have HFi : Hid _ := hfi
  have HOl : Hid (∀ O, ReSt L R O → O.length ≤ n) := fun O hO => by rw [HN.out]; exact hO.len HF.out
  obtain ⟨RP, hRP⟩ : ∃ RP, RP = ReachD L R w := ⟨_, rfl⟩
  have HRP : Hid (∀ v Y w', Up Y → (∀ x, x ∈ Y ↔ RchP L R x) → Told w w' v Y → RP (.returned v) w') := fun v Y w' h1 h2 h3 => by rw [hRP]; exact ⟨v, Y, rfl, h1, h2, h3⟩
  rw [← hRP]
  have HT0 : Hid (Told w w (.slice none 0 0) []) := told_start w
  clear h ha hc hr hra hrcl hN hM hfi hf hRP
  go_enter Try.func32, Try.ntmps32
  go_wp2
  go_loopw [5, 6] (fun ov iv wr => ∃ (j : Nat) (O : List ByteArray), iv = .int .i64 j ∧ j ≤ m ∧ Hid (R1St L R O j) ∧ Hid (Told w wr ov O)) (fun _ iv _ => m - (intOf iv).toNat)
  case atStart => exact ⟨0, [], rfl, Nat.zero_le _, ⟨ReSt.start L R, fun x hx => by simp at hx⟩, HT0.out⟩
  case round =>
    obtain ⟨j, O, rfl, hj, HS, HT⟩ := hrel
    obtain ⟨oa, oc, rfl⟩ := HT.out.slice
    obtain ⟨no, hno⟩ : ∃ no, no = O.length := ⟨_, rfl⟩
    have hol := HOl.out O HS.out.st
    rw [← hno] at hol HT ⊢
    have HNo : Hid _ := hno
    have hOs := HT.out.strs (by have := HNo.out; omega) (HOb.out O HS.out.st)
    obtain ⟨a', c', hea, hOS⟩ := hOs
    simp only [Value.slice.injEq] at hea
    obtain ⟨rfl, -, rfl⟩ := hea
    have HOS : Hid (StrsAt wr oa O oc) := hOS
    clear hno hOS HT0
    by_cases hlt : j < m
    · have hlt' : (j : Int) < (m : Int) := by omega
      have hjR : j < R.length := by have := HM.out; omega
      obtain rfl := HRA.out (by omega)
      have hcell := HRC.out wr HT.out.old j hjR
      obtain ⟨y, hy⟩ : ∃ y, y = R[j] := ⟨_, rfl⟩
      rw [← hy] at hcell
      have HY : Hid _ := hy
      have hfx := HFi.out y wr HT.out.old
      clear hy
      go_wp2_with fail
      refine hfx.mono ?_
      rintro e w2 ⟨⟨z, rfl, hz⟩, hw2⟩
      rw [hw2]
      clear hw2 hfx
      rcases hz with ⟨rfl, hno⟩ | ⟨q, hq, rfl, hq1, _⟩
      · have HNx : Hid (R1St L R O (j + 1)) := HS.out.skip hjR (.inl (by rw [← HY.out]; exact hno))
        clear hno
        go_wp2
        go_roundw
        case rel => exact ⟨j + 1, O, by go_num, by omega, HNx, by rw [← HNo.out] at *; exact HT⟩
        case measure => simp [intOf]; omega
      · have hq0 : (0 : Int) ≤ (q : Int) := by omega
        have HYp : Hid (y ∈ L.map (·.path)) := by show _ ∈ _; rw [← hq1]; exact paths_at hq
        have hhas := refHas_ok O oa oc y wr HOS.out
        rw [← HNo.out] at hhas
        obtain ⟨bo, hbo⟩ : ∃ bo, bo = decide (y ∈ O) := ⟨_, rfl⟩
        rw [← hbo] at hhas
        have HBo : Hid _ := hbo
        clear hq1 hbo
        go_wp2_with fail
        refine hhas.mono ?_
        rintro e w3 ⟨rfl, hw3⟩
        rw [hw3]
        clear hw3 hhas
        cases bo with
        | true =>
          have HNx : Hid (R1St L R O (j + 1)) := HS.out.skip hjR (.inr (by rw [← HY.out]; exact of_decide_eq_true HBo.out.symm))
          go_wp2
          go_roundw
          case rel => exact ⟨j + 1, O, by go_num, by omega, HNx, HT⟩
          case measure => simp [intOf]; omega
        | false =>
          have hyO : y ∉ O := of_decide_eq_false HBo.out.symm
          have HNx : Hid (R1St L R (O ++ [y]) (j + 1)) := by
            show R1St _ _ _ _
            rw [HY.out]
            exact HS.out.take hjR (by rw [← HY.out]; exact HYp.out) (by rw [← HY.out]; exact hyO)
          have hoa : (wr.alloc (.cells #[.string y] 9)).ownsRow w.heap.size 9 1 (.slice oa no oc) no (O.map Value.string) := by
            have := (HT.out.next ((Below.refl _ _).alloc (Nat.le_refl _) (.cells #[.string y] 9))).own
            rw [← HNo.out] at this
            exact this
          have hBs := HT.out.old.size
          have HOa : Hid _ := hoa
          have HTw : Hid (Told w wr (.slice oa no oc) O) := HT
          clear hoa hyO
          go_wp2_with (at_builtin; refine wpList_plain rfl fun K' hK' => ?_; refine ap_one (some 38) rfl (.tmp 32) (.tmp 37) rfl w.heap.size _ no _ rfl y HOa.out rfl hBs (by omega) ?_; intro v6 w6 hown6 hg6; refine hK' _ _ ?_; have HT6 : Hid (Told w w6 v6 (O ++ [y])) := HTw.out.more (by rw [← HNo.out]; exact hown6) hg6; clear hown6 hg6)
          go_roundw
          case rel => exact ⟨j + 1, _, by go_num, by omega, HNx, HT6⟩
          case measure => simp [intOf]; omega
    · have hlt' : ¬ (j : Int) < (m : Int) := by omega
      have HS2 : Hid (R2St L R O 0) := ⟨HS.out.st, fun x hx hp => HS.out.rt x (by rw [List.take_of_length_le (by have := HM.out; omega)]; exact hx) hp, Asked.zero L O, Nat.zero_le _⟩
      obtain ⟨wF, rfl⟩ : ∃ x, x = wr := ⟨wr, rfl⟩
      have HT1 : Hid (Told w wF (.slice oa no oc) O) := HT
      clear HOS HS HT
      go_wp2
      go_loopw [5, 7] (fun ov iv wr => ∃ (j : Nat) (O : List ByteArray), iv = .int .i64 j ∧ Hid (R2St L R O j) ∧ Hid (Told w wr ov O)) (fun _ iv _ => n - (intOf iv).toNat)
      case atStart => exact ⟨0, O, rfl, HS2, HT1⟩
      case round =>
        obtain ⟨i, O, rfl, HS, HT⟩ := hrel
        clear HS2 HT1 HNo
        obtain ⟨oa, oc, rfl⟩ := HT.out.slice
        obtain ⟨no, hno⟩ : ∃ no, no = O.length := ⟨_, rfl⟩
        have hol := HOl.out O HS.out.st
        have hile := HS.out.le
        rw [← hno] at hol hile HT ⊢
        have HNo : Hid _ := hno
        obtain ⟨a', c', hea, hOS⟩ := HT.out.strs (by have := HNo.out; omega) (HOb.out O HS.out.st)
        simp only [Value.slice.injEq] at hea
        obtain ⟨rfl, -, rfl⟩ := hea
        clear hno
        by_cases hlt : i < no
        · have hlt' : (i : Int) < (no : Int) := by omega
          have hiO : i < O.length := by have := HNo.out; omega
          obtain ⟨ob, oo, hoa, hoc⟩ := hOS.ex
          obtain rfl := hoa (by omega)
          have hcell := hoc i hiO
          have hocl := hOS.le
          rw [← HNo.out] at hocl
          obtain ⟨y, hy⟩ : ∃ y, y = O[i] := ⟨_, rfl⟩
          rw [← hy] at hcell
          have HY : Hid _ := hy
          have hyp : y ∈ L.map (·.path) := by rw [hy]; exact (HS.out.st.sub _ (List.getElem_mem hiO)).there HF.out
          have HYp : Hid _ := hyp
          have hfx := HFi.out y wr HT.out.old
          have hL0 : 0 < L.length := by
            obtain ⟨z, hz, _⟩ := List.mem_map.1 hyp
            exact List.length_pos_of_mem hz
          obtain rfl := HA.out hL0
          obtain ⟨q, hq, hq1⟩ : ∃ q, ∃ h : q < L.length, L[q].path = y := by
            obtain ⟨z, hz, hzp⟩ := List.mem_map.1 hyp
            obtain ⟨q, hq, rfl⟩ := List.getElem_of_mem hz
            exact ⟨q, hq, hzp⟩
          obtain ⟨fa, fc, hrg, hif⟩ := HC.out wr HT.out.old q hq
          obtain ⟨x, hx⟩ : ∃ x, x = L[q] := ⟨_, rfl⟩
          rw [← hx] at hrg hif hq1
          have HXm : Hid (x ∈ L) := by show _ ∈ _; rw [hx]; exact List.getElem_mem hq
          have HXp : Hid (x.path = y) := hq1
          have HRG : Hid _ := hrg
          have hqn : (q : Int) < (n : Int) := by have := HN.out; omega
          have HFQ : Hid (∀ z, FindP L y z → z = (q : Int)) := fun z hz => by
            obtain ⟨q2, hq2, rfl, h2, _⟩ := hz.yes HYp.out
            have hnd := List.pairwise_iff_getElem.1 HF.out.1
            rcases Nat.lt_trichotomy q2 q with h3 | h3 | h3
            · exact absurd (by rw [List.getElem_map, List.getElem_map, h2, ← hx, hq1]) (hnd q2 q (by simpa using hq2) (by simpa using hq) h3)
            · rw [h3]
            · exact absurd (by rw [List.getElem_map, List.getElem_map, h2, ← hx, hq1]) (hnd q q2 (by simpa using hq) (by simpa using hq2) h3)
          have hsi : (Try.prog.info? 33).map (·.size) = some (infV x fa fc).toList.length := infoI
          have hi33 := infV_size x fa fc
          have hone := infV_one x fa fc
          have hbA : Below wr.heap.size wr (wr.alloc (.cells (infV x fa fc) 33)) := (Below.refl _ _).alloc (Nat.le_refl _) _
          have HRA : Hid (Row (wr.alloc (.cells (infV x fa fc) 33)) wr.heap.size (infV x fa fc) 33) := Row.new wr _ _
          have HTA : Hid (Told w (wr.alloc (.cells (infV x fa fc) 33)) (.slice (some ⟨ob, oo, none⟩) no oc) O) := HT.out.next hbA
          have HIf : Hid (InfAt w x fa fc) := hif
          obtain ⟨fb, fo, hfa, hfc⟩ := hif.refs.ex
          have HXA : Hid _ := hfa
          have HXC : Hid (∀ wx, Below w.heap.size w wx → ∀ i (h : i < x.refs.length), wx.cell? ⟨fb, fo + i, none⟩ = some (.string x.refs[i])) := fun wx hx i hi => (hx.cell (p := ⟨fb, fo + i, none⟩) (World.block_lt_of_cell? _ _ (hfc i hi))).trans (hfc i hi)
          have hxl := hif.refs.len
          have hxc := hif.refs.le
          unfold big at hxl
          have HS3 : Hid (R3St L R O i x 0) := ⟨HS.out, by rw [List.getElem?_eq_getElem hiO, ← HY.out, HXp.out], fun r hr => by simp at hr⟩
          have HB0 := HT.out.old.size
          clear hy hOS hoa hoc hyp hL0 hx hrg hif hq1 hbA hfa hfc hq
          generalize hwA : wr.alloc (.cells (infV x fa fc) 33) = wA at *
          obtain ⟨kx, hkx⟩ : ∃ k, k = wr.heap.size := ⟨_, rfl⟩
          have hkx' := hkx.symm
          have HKx : Hid (w.heap.size ≤ kx) := by show _ ≤ _; rw [hkx]; exact HB0
          rw [hkx'] at HRA
          obtain ⟨mx, hmx⟩ : ∃ mx, mx = x.refs.length := ⟨_, rfl⟩
          have HMx : Hid _ := hmx
          rw [← hmx] at hxl hxc
          clear hmx hkx HB0
          go_wp2_with (first
            | (refine wpList_load_mid rfl 33 _ rfl b (off + q * 4) rfl (infV x fa fc).toList _ HRG.out Try.underlying33 rfl hsi ?_)
            | (refine wpList_store_new rfl 33 _ _ rfl wr info00 (infV x fa fc) 33 rfl wr.heap.size rfl rfl rfl hi33 rfl hone ?_; rw [hwA]; rw [hkx'])
            | (go_at_call 27; refine hfx.mono ?_; rintro e w2 ⟨⟨z, rfl, hz⟩, hw2⟩; rw [hw2, HFQ.out z hz]; clear hw2 hz hfx z))
          go_loopw [5, 9] (fun ov kv wi => ∃ (k : Nat) (O : List ByteArray), kv = .int .i64 k ∧ k ≤ mx ∧ Hid (R3St L R O i x k) ∧ Hid (Told w wi ov O) ∧ Hid (Row wi kx (infV x fa fc) 33)) (fun _ kv _ => mx - (intOf kv).toNat)
          case atStart => exact ⟨0, O, rfl, Nat.zero_le _, HS3, HTA, HRA⟩
          case round =>
            have hin : i < n := by omega
            obtain ⟨k, O, rfl, hk, HS, HT, HR⟩ := hrel
            clear HS3 HTA HRA HNo
            obtain ⟨oa, oc, rfl⟩ := HT.out.slice
            obtain ⟨no, hno⟩ : ∃ no, no = O.length := ⟨_, rfl⟩
            have hol := HOl.out O HS.out.st.st
            rw [← hno] at hol HT ⊢
            have HNo : Hid _ := hno
            obtain ⟨a', c', hea, hOS⟩ := HT.out.strs (by have := HNo.out; omega) (HOb.out O HS.out.st.st)
            simp only [Value.slice.injEq] at hea
            obtain ⟨rfl, -, rfl⟩ := hea
            have hx3 : wr.cell? ⟨kx, 3, none⟩ = some (.slice fa mx fc) := by
              rw [HMx.out]
              exact (Row.cell HR.out 3).trans rfl
            clear hno
            by_cases hkm : k < mx
            · have hkm' : (k : Int) < (mx : Int) := by omega
              have hkL : k < x.refs.length := by have := HMx.out; omega
              obtain rfl := HXA.out (by omega)
              have hcell := HXC.out wr HT.out.old k hkL
              obtain ⟨y, hy⟩ : ∃ y, y = x.refs[k] := ⟨_, rfl⟩
              rw [← hy] at hcell
              have HY : Hid _ := hy
              have hhas := refHas_ok O oa oc y wr hOS
              rw [← HNo.out] at hhas
              obtain ⟨bo, hbo⟩ : ∃ bo, bo = decide (y ∈ O) := ⟨_, rfl⟩
              rw [← hbo] at hhas
              have HBo : Hid _ := hbo
              clear hy hbo hOS
              go_wp2_with fail
              refine hhas.mono ?_
              rintro e w3 ⟨rfl, hw3⟩
              rw [hw3]
              clear hw3 hhas
              cases bo with
              | true =>
                have HNx : Hid (R3St L R O i x (k + 1)) := HS.out.skip hkL (by rw [← HY.out]; exact of_decide_eq_true HBo.out.symm)
                go_wp2
                go_roundw
                case rel => exact ⟨k + 1, O, by go_num, by omega, HNx, HT, HR⟩
                case measure => simp [intOf]; omega
              | false =>
                have hyO : y ∉ O := of_decide_eq_false HBo.out.symm
                have HNx : Hid (R3St L R (O ++ [y]) i x (k + 1)) := by
                  show R3St _ _ _ _ _ _
                  rw [HY.out]
                  exact HS.out.take HXm.out hkL (by rw [← HY.out]; exact hyO)
                have hoa : (wr.alloc (.cells #[.string y] 9)).ownsRow w.heap.size 9 1 (.slice oa no oc) no (O.map Value.string) := by
                  have := (HT.out.next ((Below.refl _ _).alloc (Nat.le_refl _) (.cells #[.string y] 9))).own
                  rw [← HNo.out] at this
                  exact this
                have hBs := HT.out.old.size
                have HOa : Hid _ := hoa
                have HTw : Hid (Told w wr (.slice oa no oc) O) := HT
                have HRw : Hid (Row (wr.alloc (.cells #[.string y] 9)) kx (infV x (some ⟨fb, fo, none⟩) fc) 33) := Row.alloc HR.out _
                clear hoa hyO
                go_wp2_with (at_builtin; refine wpList_plain rfl fun K' hK' => ?_; refine ap_one (some 76) rfl (.tmp 69) (.tmp 75) rfl w.heap.size _ no _ rfl y HOa.out rfl hBs (by omega) ?_; intro v6 w6 hown6 hg6; refine hK' _ _ ?_; have HT6 : Hid (Told w w6 v6 (O ++ [y])) := HTw.out.more (by rw [← HNo.out]; exact hown6) hg6; have HR6 : Hid (Row w6 kx (infV x (some ⟨fb, fo, none⟩) fc) 33) := row_grown HRw.out HOa.out (by decide) hg6; clear hown6 hg6)
                go_roundw
                case rel => exact ⟨k + 1, _, by go_num, by omega, HNx, HT6, HR6⟩
                case measure => simp [intOf]; omega
            · have hkm' : ¬ (k : Int) < (mx : Int) := by omega
              have HNx : Hid (R2St L R O (i + 1)) := by
                have h := HS.out
                rw [show k = x.refs.length by have := HMx.out; omega] at h
                exact h.done HF.out.1 HXm.out
              clear hOS
              go_wp2
              go_roundw
              case rel => exact ⟨i + 1, O, by go_num, HNx, HT⟩
              case measure => simp [intOf]; omega
        · have hlt' : ¬ (i : Int) < (no : Int) := by omega
          have HAll : Hid (∀ x, x ∈ O ↔ RchP L R x) := HS.out.st.all HS.out.rt (by have h := HS.out.ask; rw [show i = O.length by have := HNo.out; have := HS.out.le; omega] at h; exact h)
          have hso := refSorted_ok O oa oc wr hOS (by have := HNo.out; omega)
          rw [← HNo.out] at hso
          clear hOS
          go_wp2_with fail
          refine hso.mono ?_
          rintro e w5 ⟨v, Y, rfl, hY, hT5⟩
          have HD := HRP.out v Y w5 hY.up (fun x => by rw [hY.mem, HAll.out]) ⟨(by
            obtain ⟨h1, h2⟩ := hT5.own
            refine ⟨h1, h2.imp id ?_⟩
            rintro ⟨g', cap, cur, e1, e2, e3⟩
            exact ⟨g', cap, cur, e1, Nat.le_trans HT.out.old.size e2, e3⟩), HT.out.old.trans (hT5.old.mono HT.out.old.size)⟩
          have HDD : Hid (RP (.returned v) w5) := HD
          clear hso hY hT5 HD
          go_wp2
          exact HDD.out
end Go.Proofs.Ytkbhckjpmgkgjaa
