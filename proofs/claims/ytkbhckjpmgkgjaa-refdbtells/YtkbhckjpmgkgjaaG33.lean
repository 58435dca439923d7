/- My own work: the document's Closure, Referrers, Dead and Derived, by contract. -/
import Derived.Test.YtkbhckjpmgkgjaaG32
namespace Go.Proofs.Ytkbhckjpmgkgjaa
open Go.RowKit
open Classical

theorem Told.lift {w wr w' : World} {v : Value} {Y : List ByteArray} (hb : Below w.heap.size w wr) (h : Told wr w' v Y) : Told w w' v Y := by
  refine ⟨?_, hb.trans (h.old.mono hb.size)⟩
  obtain ⟨h1, h2⟩ := h.own
  refine ⟨h1, h2.imp id ?_⟩
  rintro ⟨g', cap, cur, e1, e2, e3⟩
  exact ⟨g', cap, cur, e1, Nat.le_trans hb.size e2, e3⟩
/-- A list that rises, told. -/
def ListD (S : ByteArray → Prop) (w : World) (e : Ending) (w' : World) : Prop := ∃ v Y, e = .returned v ∧ Up Y ∧ (∀ x, x ∈ Y ↔ S x) ∧ Told w w' v Y
def ListD2 (bad : Prop) (S : ByteArray → Prop) (w : World) (e : Ending) (w' : World) : Prop := (bad ∧ e = .returned (.tuple #[.slice none 0 0, .int .i64 14]) ∧ Below w.heap.size w w') ∨ (¬ bad ∧ ∃ v Y, e = .returned (.tuple #[v, .int .i64 0]) ∧ Up Y ∧ (∀ x, x ∈ Y ↔ S x) ∧ Told w w' v Y)
/-- Paths of infos of which something holds, so far. -/
noncomputable def selL (L : List Inf) (S : Inf → Prop) (i : Nat) : List ByteArray := ((L.take i).filter fun y => decide (S y)).map (·.path)
theorem selL_yes {L : List Inf} {S : Inf → Prop} {i : Nat} (hi : i < L.length) (h : S L[i]) : selL L S (i + 1) = selL L S i ++ [L[i].path] := by
  unfold selL
  rw [List.take_succ_eq_append_getElem hi, List.filter_append, List.map_append]
  simp [h]
theorem selL_no {L : List Inf} {S : Inf → Prop} {i : Nat} (hi : i < L.length) (h : ¬ S L[i]) : selL L S (i + 1) = selL L S i := by
  unfold selL
  rw [List.take_succ_eq_append_getElem hi, List.filter_append, List.map_append]
  simp [h]
theorem selL_len (L : List Inf) (S : Inf → Prop) (i : Nat) : (selL L S i).length ≤ L.length := by
  unfold selL
  rw [List.length_map]
  exact Nat.le_trans (List.length_filter_le _ _) (by rw [List.length_take]; omega)
theorem selL_mem {L : List Inf} {S : Inf → Prop} {x : ByteArray} : x ∈ selL L S L.length ↔ ∃ y ∈ L, y.path = x ∧ S y := by
  unfold selL
  rw [List.take_length, List.mem_map]
  constructor
  · rintro ⟨y, hy, rfl⟩
    rw [List.mem_filter] at hy
    exact ⟨y, hy.1, rfl, of_decide_eq_true hy.2⟩
  · rintro ⟨y, h1, h2, h3⟩
    exact ⟨y, List.mem_filter.2 ⟨h1, decide_eq_true h3⟩, h2⟩
theorem selL_sub {L : List Inf} {S : Inf → Prop} {i : Nat} {x : ByteArray} (h : x ∈ selL L S i) : ∃ y ∈ L, y.path = x := by
  unfold selL at h
  obtain ⟨y, hy, rfl⟩ := List.mem_map.1 h
  exact ⟨y, List.mem_of_mem_take (List.mem_filter.1 hy).1, rfl⟩
set_option maxRecDepth 20000 in
set_option maxHeartbeats 8000000 in
theorem refClosure_ok (L : List Inf) (a : Option Addr) (c : Nat) (R : List ByteArray) (ra : Option Addr) (rc : Nat) (w : World) (h : LsAt w a L c) (hL : L.length ≤ 4096) (hf : Fine L) (hr : StrsAt w ra R rc) : Calls Try.prog 10 #[.slice a L.length c, .slice ra R.length rc] w (ListD2 (∃ x ∈ R, x ∉ L.map (·.path)) (RchP L R) w) := by
  have hfi : ∀ x, Calls Try.prog 27 #[.slice a L.length c, .string x] w fun e w' => (∃ z : Int, e = .returned (.int .i64 z) ∧ FindP L x z) ∧ w' = w := fun x => refFind_ok L a c x w h (by omega)
  have hre := refReach_ok L a c R ra rc w h hL hf hr
  obtain ⟨rb, ro, hra, hrcl⟩ := hr.ex
  have hrle := hr.le
  have hrl := hr.len
  unfold big at hrl
  have hle := h.le
  have HRA : Hid _ := hra
  have HRC : Hid _ := hrcl
  obtain ⟨n, hN⟩ : ∃ n, n = L.length := ⟨_, rfl⟩
  have HN : Hid _ := hN
  obtain ⟨m, hM⟩ : ∃ m, m = R.length := ⟨_, rfl⟩
  have HM : Hid _ := hM
  rw [← hN] at hL hle hfi
  rw [← hN, ← hM] at hre
  rw [← hN, ← hM]
  rw [← hM] at hrle hrl
  have HFi : Hid _ := hfi
  obtain ⟨RP, hRP⟩ : ∃ RP, RP = ListD2 (∃ x ∈ R, x ∉ L.map (·.path)) (RchP L R) w := ⟨_, rfl⟩
  have HRP1 : Hid ((∃ x ∈ R, x ∉ L.map (·.path)) → RP (.returned (.tuple #[.slice none 0 0, .int .i64 14])) w) := fun h1 => by rw [hRP]; exact .inl ⟨h1, rfl, Below.refl _ _⟩
  have HRP2 : Hid (¬ (∃ x ∈ R, x ∉ L.map (·.path)) → ∀ v Y w', Up Y → (∀ x, x ∈ Y ↔ RchP L R x) → Told w w' v Y → RP (.returned (.tuple #[v, .int .i64 0])) w') := fun h1 v Y w' h2 h3 h4 => by rw [hRP]; exact .inr ⟨h1, v, Y, rfl, h2, h3, h4⟩
  rw [← hRP]
  clear h hr hra hrcl hN hM hfi hf hRP
  go_enter Try.func10, Try.ntmps10
  go_wp2
  go_loopw [6] (fun iv wr => ∃ j : Nat, iv = .int .i64 j ∧ j ≤ m ∧ wr = w ∧ ∀ t (ht : t < R.length), t < j → R[t] ∈ L.map (·.path)) (fun iv _ => m - (intOf iv).toNat)
  case atStart => exact ⟨0, rfl, Nat.zero_le _, rfl, fun t _ ht => absurd ht (Nat.not_lt_zero _)⟩
  case round =>
    obtain ⟨j, rfl, hj, hwe, hall⟩ := hrel
    subst hwe
    have HAl : Hid _ := hall
    clear hall
    by_cases hlt : j < m
    · have hlt' : (j : Int) < (m : Int) := by omega
      have hjR : j < R.length := by have := HM.out; omega
      obtain rfl := HRA.out (by omega)
      have hcell := HRC.out j hjR
      obtain ⟨y, hy⟩ : ∃ y, y = R[j] := ⟨_, rfl⟩
      rw [← hy] at hcell
      have HY : Hid _ := hy
      have hfx := HFi.out y
      clear hy
      go_wp2_with fail
      refine hfx.mono ?_
      rintro e w2 ⟨⟨z, rfl, hz⟩, hw2⟩
      rw [hw2]
      clear hw2 hfx
      rcases hz with ⟨rfl, hno⟩ | ⟨q, hq, rfl, hq1, _⟩
      · have HD := HRP1.out ⟨y, by rw [HY.out]; exact List.getElem_mem hjR, hno⟩
        have HDD : Hid _ := HD
        clear HD hno
        go_wp2
        exact HDD.out
      · have hq0 : ¬ (q : Int) < 0 := by omega
        have HNx : Hid (∀ t (ht : t < R.length), t < j + 1 → R[t] ∈ L.map (·.path)) := fun t ht htj => by
          by_cases e : t = j
          · subst e
            rw [← HY.out, ← hq1]
            exact paths_at hq
          · exact HAl.out t ht (by omega)
        clear hq1
        go_wp2
        go_roundw
        case rel => exact ⟨j + 1, by go_num, by omega, trivial, HNx.out⟩
        case measure => simp [intOf]; omega
    · have hlt' : ¬ (j : Int) < (m : Int) := by omega
      have HNo : Hid (¬ ∃ x ∈ R, x ∉ L.map (·.path)) := by
        rintro ⟨x, hx, hn⟩
        obtain ⟨t, ht, rfl⟩ := List.getElem_of_mem hx
        exact hn (HAl.out t ht (by have := HM.out; omega))
      go_wp2_with fail
      refine hre.mono ?_
      rintro e w5 ⟨v, Y, rfl, h1, h2, h3⟩
      have HD := HRP2.out HNo.out v Y w5 h1 h2 h3
      have HDD : Hid _ := HD
      clear hre h1 h2 h3 HD
      go_wp2
      exact HDD.out
set_option maxRecDepth 20000 in
set_option maxHeartbeats 8000000 in
theorem refReferrers_ok (L : List Inf) (a : Option Addr) (c : Nat) (p : ByteArray) (w : World) (h : LsAt w a L c) (hL : L.length ≤ 4096) : Calls Try.prog 12 #[.slice a L.length c, .string p] w (ListD2 (p ∉ L.map (·.path)) (fun x => ∃ y ∈ L, y.path = x ∧ p ∈ y.refs) w) := by
  have hfi := refFind_ok L a c p w h (by omega)
  obtain ⟨b, off, ha, hc⟩ := h.ex
  have hle := h.le
  have HA : Hid _ := ha
  have HC : Hid (∀ wx, Below w.heap.size w wx → ∀ i (h : i < L.length), ∃ ra rc, wx.rangeAt b (off + i * 4) (infV L[i] ra rc).toList ∧ InfAt w L[i] ra rc) := fun wx hx i hi => by
    obtain ⟨ra, rc, h3, h4⟩ := hc i hi
    exact ⟨ra, rc, rangeAt_keep h3 hx, h4⟩
  have HPb : Hid (∀ y ∈ L, y.path.size ≤ big) := fun y hy => by
    obtain ⟨t, ht, rfl⟩ := List.getElem_of_mem hy
    obtain ⟨_, _, _, h4⟩ := hc t ht
    exact h4.path
  obtain ⟨n, hN⟩ : ∃ n, n = L.length := ⟨_, rfl⟩
  have HN : Hid _ := hN
  rw [← hN] at hL hle hfi
  rw [← hN]
  obtain ⟨RP, hRP⟩ : ∃ RP, RP = ListD2 (p ∉ L.map (·.path)) (fun x => ∃ y ∈ L, y.path = x ∧ p ∈ y.refs) w := ⟨_, rfl⟩
  have HRP1 : Hid (p ∉ L.map (·.path) → RP (.returned (.tuple #[.slice none 0 0, .int .i64 14])) w) := fun h1 => by rw [hRP]; exact .inl ⟨h1, rfl, Below.refl _ _⟩
  have HRP2 : Hid (¬ p ∉ L.map (·.path) → ∀ v Y w', Up Y → (∀ x, x ∈ Y ↔ ∃ y ∈ L, y.path = x ∧ p ∈ y.refs) → Told w w' v Y → RP (.returned (.tuple #[v, .int .i64 0])) w') := fun h1 v Y w' h2 h3 h4 => by rw [hRP]; exact .inr ⟨h1, v, Y, rfl, h2, h3, h4⟩
  rw [← hRP]
  clear h ha hc hN hRP
  go_enter Try.func12, Try.ntmps12
  go_wp2_with fail
  refine hfi.mono ?_
  rintro e w2 ⟨⟨z, rfl, hz⟩, hw2⟩
  rw [hw2]
  clear hw2 hfi
  rcases hz with ⟨rfl, hno⟩ | ⟨q, hq, rfl, hq1, -⟩
  · have HD := HRP1.out hno
    have HDD : Hid _ := HD
    clear HD hno
    go_wp2
    exact HDD.out
  have hq0 : ¬ (q : Int) < 0 := by omega
  have HPi : Hid (¬ p ∉ L.map (·.path)) := fun h => h (by rw [← hq1]; exact paths_at hq)
  clear hq1 hq
  obtain ⟨wB, hwB⟩ : ∃ x, x = w := ⟨_, rfl⟩
  have HWB : Hid (Below w.heap.size w wB) := by rw [hwB]; exact Below.refl _ _
  have HEq : Hid (wB = w) := hwB
  rw [← hwB]
  clear hwB
  go_wp2
  go_loopw [6, 7] (fun ov iv wr => ∃ i : Nat, iv = .int .i64 i ∧ i ≤ n ∧ Hid (Told wB wr ov (selL L (fun y => p ∈ y.refs) i))) (fun _ iv _ => n - (intOf iv).toNat)
  case atStart => exact ⟨0, rfl, Nat.zero_le _, told_start wB⟩
  case round =>
    obtain ⟨i, rfl, hi, HT⟩ := hrel
    obtain ⟨X, hX⟩ : ∃ X, X = selL L (fun y => p ∈ y.refs) i := ⟨_, rfl⟩
    have HX : Hid _ := hX
    rw [← hX] at HT
    obtain ⟨oa, oc, rfl⟩ := HT.out.slice
    have HXe : Hid (∀ x ∈ X, x.size ≤ big) := fun x hx => by
      rw [hX] at hx
      obtain ⟨y, hy, rfl⟩ := selL_sub hx
      exact HPb.out y hy
    obtain ⟨no, hno⟩ : ∃ no, no = X.length := ⟨_, rfl⟩
    have hol : no ≤ n := by rw [hno, hX, HN.out]; exact selL_len L _ i
    rw [← hno] at HT ⊢
    have HNo : Hid _ := hno
    obtain ⟨a', c', hea, hOS⟩ := HT.out.strs (by have := HNo.out; omega) HXe.out
    simp only [Value.slice.injEq] at hea
    obtain ⟨rfl, -, rfl⟩ := hea
    have HOS : Hid _ := hOS
    have HBw : Hid (Below w.heap.size w wr) := HWB.out.trans (HT.out.old.mono HWB.out.size)
    clear hno hX hOS
    by_cases hlt : i < n
    · have hlt' : (i : Int) < (n : Int) := by omega
      have hiL : i < L.length := by have := HN.out; omega
      obtain rfl := HA.out (by omega)
      obtain ⟨fa, fc, hrg, hif⟩ := HC.out wr HBw.out i hiL
      have hcell : wr.cell? ⟨b, off + i * 4, none⟩ = some (.string L[i].path) := hrg 0 _ rfl
      have hder : wr.cell? ⟨b, off + i * 4 + 2, none⟩ = some (.string L[i].der) := hrg 2 _ rfl
      have hrfs : wr.cell? ⟨b, off + i * 4 + 3, none⟩ = some (.slice fa L[i].refs.length fc) := hrg 3 _ rfl
      have hrs : StrsAt wr fa L[i].refs fc := hif.refs.keep HBw.out
      obtain ⟨y, hy⟩ : ∃ y, y = L[i].path := ⟨_, rfl⟩
      rw [← hy] at hcell
      have HY : Hid _ := hy
      have hhas := refHas_ok L[i].refs fa fc p wr hrs
      obtain ⟨rl, hrl⟩ : ∃ rl, rl = L[i].refs.length := ⟨_, rfl⟩
      rw [← hrl] at hhas hrfs
      have HRl : Hid _ := hrl
      clear hrl
      by_cases hs : p ∈ L[i].refs
      case pos =>
        have HNx : Hid (selL L (fun y => p ∈ y.refs) (i + 1) = X ++ [y]) := by
          show _ = _
          rw [selL_yes hiL (hs), HX.out, HY.out]
        have hoa : (wr.alloc (.cells #[.string y] 9)).ownsRow wB.heap.size 9 1 (.slice oa no oc) no (X.map Value.string) := by
          have := (HT.out.next ((Below.refl _ _).alloc (Nat.le_refl _) (.cells #[.string y] 9))).own
          rw [← HNo.out] at this
          exact this
        have hBs := HT.out.old.size
        have HOa : Hid _ := hoa
        have HTw : Hid (Told wB wr (.slice oa no oc) X) := HT
        rw [decide_eq_true hs] at hhas
        clear hs
        clear hoa hy hrg hif hrs
        go_wp2_with (first | (go_at_call 36; refine hhas.mono ?_; rintro e w3 ⟨rfl, hw3⟩; rw [hw3]; clear hw3 hhas) | (at_builtin; refine wpList_plain rfl fun K' hK' => ?_; refine ap_one (some 32) rfl (.tmp 25) (.tmp 31) rfl wB.heap.size _ no _ rfl y HOa.out rfl hBs (by omega) ?_; intro v6 w6 hown6 hg6; refine hK' _ _ ?_; have HT6 : Hid (Told wB w6 v6 (X ++ [y])) := HTw.out.more (by rw [← HNo.out]; exact hown6) hg6; clear hown6 hg6))
        go_roundw
        case rel => exact ⟨i + 1, by go_num, by omega, by rw [HNx.out]; exact HT6⟩
        case measure => simp [intOf]; omega
      case neg =>
        have HNx : Hid (selL L (fun y => p ∈ y.refs) (i + 1) = X) := by
          show _ = _
          rw [selL_no hiL (hs), HX.out]
        rw [decide_eq_false hs] at hhas
        clear hs
        clear hy hrg hif hrs
        go_wp2_with (first | (go_at_call 36; refine hhas.mono ?_; rintro e w3 ⟨rfl, hw3⟩; rw [hw3]; clear hw3 hhas) | fail)
        go_roundw
        case rel => exact ⟨i + 1, by go_num, by omega, by rw [HNx.out]; exact HT⟩
        case measure => simp [intOf]; omega
    · have hlt' : ¬ (i : Int) < (n : Int) := by omega
      have HXL : Hid (X = selL L (fun y => p ∈ y.refs) L.length) := by
        show _ = _
        rw [HX.out, show i = L.length by have := HN.out; omega]
      have hso := refSorted_ok X oa oc wr HOS.out (by have := HNo.out; omega)
      rw [← HNo.out] at hso
      go_wp2_with fail
      refine hso.mono ?_
      rintro e w5 ⟨v, Y, rfl, hY, hT5⟩
      have HD := HRP2.out HPi.out v Y w5 hY.up (fun x => by rw [hY.mem, HXL.out, selL_mem]) (Told.lift HBw.out hT5)
      have HDD : Hid _ := HD
      clear hso hY hT5 HD
      go_wp2
      exact HDD.out
set_option maxRecDepth 20000 in
set_option maxHeartbeats 8000000 in
theorem refDerived_ok (L : List Inf) (a : Option Addr) (c : Nat) (p : ByteArray) (w : World) (h : LsAt w a L c) (hL : L.length ≤ 4096) : Calls Try.prog 19 #[.slice a L.length c, .string p] w (ListD (fun x => ∃ y ∈ L, y.path = x ∧ y.der = p) w) := by
  obtain ⟨b, off, ha, hc⟩ := h.ex
  have hle := h.le
  have HA : Hid _ := ha
  have HC : Hid (∀ wx, Below w.heap.size w wx → ∀ i (h : i < L.length), ∃ ra rc, wx.rangeAt b (off + i * 4) (infV L[i] ra rc).toList ∧ InfAt w L[i] ra rc) := fun wx hx i hi => by
    obtain ⟨ra, rc, h3, h4⟩ := hc i hi
    exact ⟨ra, rc, rangeAt_keep h3 hx, h4⟩
  have HPb : Hid (∀ y ∈ L, y.path.size ≤ big) := fun y hy => by
    obtain ⟨t, ht, rfl⟩ := List.getElem_of_mem hy
    obtain ⟨_, _, _, h4⟩ := hc t ht
    exact h4.path
  obtain ⟨n, hN⟩ : ∃ n, n = L.length := ⟨_, rfl⟩
  have HN : Hid _ := hN
  rw [← hN] at hL hle
  rw [← hN]
  obtain ⟨RP, hRP⟩ : ∃ RP, RP = ListD (fun x => ∃ y ∈ L, y.path = x ∧ y.der = p) w := ⟨_, rfl⟩
  have HRP2 : Hid (∀ v Y w', Up Y → (∀ x, x ∈ Y ↔ ∃ y ∈ L, y.path = x ∧ y.der = p) → Told w w' v Y → RP (.returned v) w') := fun v Y w' h2 h3 h4 => by rw [hRP]; exact ⟨v, Y, rfl, h2, h3, h4⟩
  rw [← hRP]
  clear h ha hc hN hRP
  obtain ⟨wB, hwB⟩ : ∃ x, x = w := ⟨_, rfl⟩
  have HWB : Hid (Below w.heap.size w wB) := by rw [hwB]; exact Below.refl _ _
  have HEq : Hid (wB = w) := hwB
  rw [← hwB]
  clear hwB
  go_enter Try.func19, Try.ntmps19
  go_wp2
  go_loopw [5, 6] (fun ov iv wr => ∃ i : Nat, iv = .int .i64 i ∧ i ≤ n ∧ Hid (Told wB wr ov (selL L (fun y => y.der = p) i))) (fun _ iv _ => n - (intOf iv).toNat)
  case atStart => exact ⟨0, rfl, Nat.zero_le _, told_start wB⟩
  case round =>
    obtain ⟨i, rfl, hi, HT⟩ := hrel
    obtain ⟨X, hX⟩ : ∃ X, X = selL L (fun y => y.der = p) i := ⟨_, rfl⟩
    have HX : Hid _ := hX
    rw [← hX] at HT
    obtain ⟨oa, oc, rfl⟩ := HT.out.slice
    have HXe : Hid (∀ x ∈ X, x.size ≤ big) := fun x hx => by
      rw [hX] at hx
      obtain ⟨y, hy, rfl⟩ := selL_sub hx
      exact HPb.out y hy
    obtain ⟨no, hno⟩ : ∃ no, no = X.length := ⟨_, rfl⟩
    have hol : no ≤ n := by rw [hno, hX, HN.out]; exact selL_len L _ i
    rw [← hno] at HT ⊢
    have HNo : Hid _ := hno
    obtain ⟨a', c', hea, hOS⟩ := HT.out.strs (by have := HNo.out; omega) HXe.out
    simp only [Value.slice.injEq] at hea
    obtain ⟨rfl, -, rfl⟩ := hea
    have HOS : Hid _ := hOS
    have HBw : Hid (Below w.heap.size w wr) := HWB.out.trans (HT.out.old.mono HWB.out.size)
    clear hno hX hOS
    by_cases hlt : i < n
    · have hlt' : (i : Int) < (n : Int) := by omega
      have hiL : i < L.length := by have := HN.out; omega
      obtain rfl := HA.out (by omega)
      obtain ⟨fa, fc, hrg, hif⟩ := HC.out wr HBw.out i hiL
      have hcell : wr.cell? ⟨b, off + i * 4, none⟩ = some (.string L[i].path) := hrg 0 _ rfl
      have hder : wr.cell? ⟨b, off + i * 4 + 2, none⟩ = some (.string L[i].der) := hrg 2 _ rfl
      have hrfs : wr.cell? ⟨b, off + i * 4 + 3, none⟩ = some (.slice fa L[i].refs.length fc) := hrg 3 _ rfl
      have hrs : StrsAt wr fa L[i].refs fc := hif.refs.keep HBw.out
      obtain ⟨y, hy⟩ : ∃ y, y = L[i].path := ⟨_, rfl⟩
      rw [← hy] at hcell
      have HY : Hid _ := hy
      obtain ⟨dr, hdr⟩ : ∃ dr, dr = L[i].der := ⟨_, rfl⟩
      rw [← hdr] at hder
      have HDr : Hid _ := hdr
      clear hdr
      by_cases hs : dr = p
      case pos =>
        have HNx : Hid (selL L (fun y => y.der = p) (i + 1) = X ++ [y]) := by
          show _ = _
          rw [selL_yes hiL (HDr.out.symm.trans hs), HX.out, HY.out]
        have hoa : (wr.alloc (.cells #[.string y] 9)).ownsRow wB.heap.size 9 1 (.slice oa no oc) no (X.map Value.string) := by
          have := (HT.out.next ((Below.refl _ _).alloc (Nat.le_refl _) (.cells #[.string y] 9))).own
          rw [← HNo.out] at this
          exact this
        have hBs := HT.out.old.size
        have HOa : Hid _ := hoa
        have HTw : Hid (Told wB wr (.slice oa no oc) X) := HT
        rw [hs] at hder
        clear hs
        clear hoa hy hrg hif hrs
        go_wp2_with (first | (at_builtin; refine wpList_plain rfl fun K' hK' => ?_; refine ap_one (some 27) rfl (.tmp 20) (.tmp 26) rfl wB.heap.size _ no _ rfl y HOa.out rfl hBs (by omega) ?_; intro v6 w6 hown6 hg6; refine hK' _ _ ?_; have HT6 : Hid (Told wB w6 v6 (X ++ [y])) := HTw.out.more (by rw [← HNo.out]; exact hown6) hg6; clear hown6 hg6))
        go_roundw
        case rel => exact ⟨i + 1, by go_num, by omega, by rw [HNx.out]; exact HT6⟩
        case measure => simp [intOf]; omega
      case neg =>
        have HNx : Hid (selL L (fun y => y.der = p) (i + 1) = X) := by
          show _ = _
          rw [selL_no hiL (fun e => hs (HDr.out.trans e)), HX.out]
        have hs2 : (dr.toList == p.toList) = false := by
          rw [beq_eq_false_iff_ne]
          intro e
          rw [ByteArray.toList_eq, ByteArray.toList_eq] at e
          exact hs (gb_inj e)
        clear hs
        clear hy hrg hif hrs
        go_wp2
        go_roundw
        case rel => exact ⟨i + 1, by go_num, by omega, by rw [HNx.out]; exact HT⟩
        case measure => simp [intOf]; omega
    · have hlt' : ¬ (i : Int) < (n : Int) := by omega
      have HXL : Hid (X = selL L (fun y => y.der = p) L.length) := by
        show _ = _
        rw [HX.out, show i = L.length by have := HN.out; omega]
      have hso := refSorted_ok X oa oc wr HOS.out (by have := HNo.out; omega)
      rw [← HNo.out] at hso
      go_wp2_with fail
      refine hso.mono ?_
      rintro e w5 ⟨v, Y, rfl, hY, hT5⟩
      have HD := HRP2.out v Y w5 hY.up (fun x => by rw [hY.mem, HXL.out, selL_mem]) (Told.lift HBw.out hT5)
      have HDD : Hid _ := HD
      clear hso hY hT5 HD
      go_wp2
      exact HDD.out
set_option maxRecDepth 20000 in
set_option maxHeartbeats 8000000 in
theorem refDead_ok (L : List Inf) (a : Option Addr) (c : Nat) (R : List ByteArray) (ra : Option Addr) (rc : Nat) (w : World) (h : LsAt w a L c) (hL : L.length ≤ 4096) (hf : Fine L) (hr : StrsAt w ra R rc) : Calls Try.prog 17 #[.slice a L.length c, .slice ra R.length rc] w (ListD (fun x => x ∈ L.map (·.path) ∧ ¬ RchP L R x) w) := by
  have hre := refReach_ok L a c R ra rc w h hL hf hr
  obtain ⟨b, off, ha, hc⟩ := h.ex
  have hle := h.le
  have HA : Hid _ := ha
  have HC : Hid (∀ wx, Below w.heap.size w wx → ∀ i (h : i < L.length), ∃ ra rc, wx.rangeAt b (off + i * 4) (infV L[i] ra rc).toList ∧ InfAt w L[i] ra rc) := fun wx hx i hi => by
    obtain ⟨ra, rc, h3, h4⟩ := hc i hi
    exact ⟨ra, rc, rangeAt_keep h3 hx, h4⟩
  have HPb : Hid (∀ y ∈ L, y.path.size ≤ big) := fun y hy => by
    obtain ⟨t, ht, rfl⟩ := List.getElem_of_mem hy
    obtain ⟨_, _, _, h4⟩ := hc t ht
    exact h4.path
  obtain ⟨n, hN⟩ : ∃ n, n = L.length := ⟨_, rfl⟩
  have HN : Hid _ := hN
  obtain ⟨m, hM⟩ : ∃ m, m = R.length := ⟨_, rfl⟩
  rw [← hN] at hL hle
  rw [← hN, ← hM] at hre
  rw [← hN, ← hM]
  obtain ⟨RP, hRP⟩ : ∃ RP, RP = ListD (fun x => x ∈ L.map (·.path) ∧ ¬ RchP L R x) w := ⟨_, rfl⟩
  have HRP2 : Hid (∀ v Y w', Up Y → (∀ x, x ∈ Y ↔ x ∈ L.map (·.path) ∧ ¬ RchP L R x) → Told w w' v Y → RP (.returned v) w') := fun v Y w' h2 h3 h4 => by rw [hRP]; exact ⟨v, Y, rfl, h2, h3, h4⟩
  rw [← hRP]
  have HF : Hid (Fine L) := hf
  clear h ha hc hN hM hRP hf hr
  go_enter Try.func17, Try.ntmps17
  go_wp2_with fail
  refine hre.mono ?_
  rintro e wB ⟨lv, LY, rfl, hup, hmem, hTL⟩
  have HWB : Hid (Below w.heap.size w wB) := hTL.old
  have HLY : Hid (∀ x, x ∈ LY ↔ RchP L R x) := hmem
  have HLN : Hid (LY.length ≤ n) := by
    have := len_le LY (L.map (·.path)) hup.nodup fun x hx => ((hmem x).1 hx).there HF.out
    rw [List.length_map, ← HN.out] at this
    exact this
  obtain ⟨la, lc, hlv, hLS⟩ := hTL.strs (by have := HLN.out; omega) (fun x hx => by
    obtain ⟨y, hy, rfl⟩ := List.mem_map.1 (((hmem x).1 hx).there HF.out)
    exact HPb.out y hy)
  subst hlv
  have HLS : Hid (StrsAt wB la LY lc) := hLS
  obtain ⟨nl, hnl⟩ : ∃ nl, nl = LY.length := ⟨_, rfl⟩
  have HNl : Hid _ := hnl
  rw [← hnl]
  clear hre hup hmem hTL hLS hnl
  go_wp2
  go_loopw [6, 7] (fun ov iv wr => ∃ i : Nat, iv = .int .i64 i ∧ i ≤ n ∧ Hid (Told wB wr ov (selL L (fun y => y.path ∉ LY) i))) (fun _ iv _ => n - (intOf iv).toNat)
  case atStart => exact ⟨0, rfl, Nat.zero_le _, told_start wB⟩
  case round =>
    obtain ⟨i, rfl, hi, HT⟩ := hrel
    obtain ⟨X, hX⟩ : ∃ X, X = selL L (fun y => y.path ∉ LY) i := ⟨_, rfl⟩
    have HX : Hid _ := hX
    rw [← hX] at HT
    obtain ⟨oa, oc, rfl⟩ := HT.out.slice
    have HXe : Hid (∀ x ∈ X, x.size ≤ big) := fun x hx => by
      rw [hX] at hx
      obtain ⟨y, hy, rfl⟩ := selL_sub hx
      exact HPb.out y hy
    obtain ⟨no, hno⟩ : ∃ no, no = X.length := ⟨_, rfl⟩
    have hol : no ≤ n := by rw [hno, hX, HN.out]; exact selL_len L _ i
    rw [← hno] at HT ⊢
    have HNo : Hid _ := hno
    obtain ⟨a', c', hea, hOS⟩ := HT.out.strs (by have := HNo.out; omega) HXe.out
    simp only [Value.slice.injEq] at hea
    obtain ⟨rfl, -, rfl⟩ := hea
    have HOS : Hid _ := hOS
    have HBw : Hid (Below w.heap.size w wr) := HWB.out.trans (HT.out.old.mono HWB.out.size)
    clear hno hX hOS
    by_cases hlt : i < n
    · have hlt' : (i : Int) < (n : Int) := by omega
      have hiL : i < L.length := by have := HN.out; omega
      obtain rfl := HA.out (by omega)
      obtain ⟨fa, fc, hrg, hif⟩ := HC.out wr HBw.out i hiL
      have hcell : wr.cell? ⟨b, off + i * 4, none⟩ = some (.string L[i].path) := hrg 0 _ rfl
      have hder : wr.cell? ⟨b, off + i * 4 + 2, none⟩ = some (.string L[i].der) := hrg 2 _ rfl
      have hrfs : wr.cell? ⟨b, off + i * 4 + 3, none⟩ = some (.slice fa L[i].refs.length fc) := hrg 3 _ rfl
      have hrs : StrsAt wr fa L[i].refs fc := hif.refs.keep HBw.out
      obtain ⟨y, hy⟩ : ∃ y, y = L[i].path := ⟨_, rfl⟩
      rw [← hy] at hcell
      have HY : Hid _ := hy
      have hhas := refHas_ok LY la lc y wr (HLS.out.keep HT.out.old)
      rw [← HNl.out] at hhas
      by_cases hs : y ∉ LY
      case pos =>
        have HNx : Hid (selL L (fun y => y.path ∉ LY) (i + 1) = X ++ [y]) := by
          show _ = _
          rw [selL_yes hiL (by rw [← HY.out]; exact hs), HX.out, HY.out]
        have hoa : (wr.alloc (.cells #[.string y] 9)).ownsRow wB.heap.size 9 1 (.slice oa no oc) no (X.map Value.string) := by
          have := (HT.out.next ((Below.refl _ _).alloc (Nat.le_refl _) (.cells #[.string y] 9))).own
          rw [← HNo.out] at this
          exact this
        have hBs := HT.out.old.size
        have HOa : Hid _ := hoa
        have HTw : Hid (Told wB wr (.slice oa no oc) X) := HT
        rw [decide_eq_false hs] at hhas
        clear hs
        clear hoa hy hrg hif hrs
        go_wp2_with (first | (go_at_call 36; refine hhas.mono ?_; rintro e w3 ⟨rfl, hw3⟩; rw [hw3]; clear hw3 hhas) | (at_builtin; refine wpList_plain rfl fun K' hK' => ?_; refine ap_one (some 32) rfl (.tmp 25) (.tmp 31) rfl wB.heap.size _ no _ rfl y HOa.out rfl hBs (by omega) ?_; intro v6 w6 hown6 hg6; refine hK' _ _ ?_; have HT6 : Hid (Told wB w6 v6 (X ++ [y])) := HTw.out.more (by rw [← HNo.out]; exact hown6) hg6; clear hown6 hg6))
        go_roundw
        case rel => exact ⟨i + 1, by go_num, by omega, by rw [HNx.out]; exact HT6⟩
        case measure => simp [intOf]; omega
      case neg =>
        have HNx : Hid (selL L (fun y => y.path ∉ LY) (i + 1) = X) := by
          show _ = _
          rw [selL_no hiL (by rw [← HY.out]; exact hs), HX.out]
        rw [decide_eq_true (Decidable.not_not.1 hs)] at hhas
        clear hs
        clear hy hrg hif hrs
        go_wp2_with (first | (go_at_call 36; refine hhas.mono ?_; rintro e w3 ⟨rfl, hw3⟩; rw [hw3]; clear hw3 hhas) | fail)
        go_roundw
        case rel => exact ⟨i + 1, by go_num, by omega, by rw [HNx.out]; exact HT⟩
        case measure => simp [intOf]; omega
    · have hlt' : ¬ (i : Int) < (n : Int) := by omega
      have HXL : Hid (X = selL L (fun y => y.path ∉ LY) L.length) := by
        show _ = _
        rw [HX.out, show i = L.length by have := HN.out; omega]
      have hso := refSorted_ok X oa oc wr HOS.out (by have := HNo.out; omega)
      rw [← HNo.out] at hso
      go_wp2_with fail
      refine hso.mono ?_
      rintro e w5 ⟨v, Y, rfl, hY, hT5⟩
      have HD := HRP2.out v Y w5 hY.up (fun x => by
        rw [hY.mem, HXL.out, selL_mem]
        constructor
        · rintro ⟨y, h1, rfl, h3⟩
          exact ⟨List.mem_map.2 ⟨y, h1, rfl⟩, fun h => h3 ((HLY.out _).2 h)⟩
        · rintro ⟨h1, h2⟩
          obtain ⟨y, h3, rfl⟩ := List.mem_map.1 h1
          exact ⟨y, h3, rfl, fun h => h2 ((HLY.out _).1 h)⟩) (Told.lift HBw.out hT5)
      have HDD : Hid _ := HD
      clear hso hY hT5 HD
      go_wp2
      exact HDD.out
end Go.Proofs.Ytkbhckjpmgkgjaa
