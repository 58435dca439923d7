/- My own work: few, Versions, and packages in memory of their own. My own work: packages in memory of their own. My own work: each package counted once; packages told twice, needs told twice. -/
import Derived.Test.YtdhmlcelofnkgaaGreatDoorXB
import Derived.Test.YtdhmlcelofnkgaaGreatDoorXC
import Derived.Test.YtdhmlcelofnkgaaGreatDoorVAp
import Derived.Great.BuildSlice
namespace Go.Proofs.YtdhmlcelofnkgaaGreatDoor
open Go.RowKit

theorem pack_cell {w : World} {g o : Nat} {p : Pak} {nv : Value} (h : w.rangeAt g o (encP p nv)) : w.cell? ⟨g, o + 0, none⟩ = some (.string p.nm) ∧ w.cell? ⟨g, o + 1, none⟩ = some (.string p.vr) ∧ w.cell? ⟨g, o + 2, none⟩ = some nv := ⟨h 0 _ rfl, h 1 _ rfl, h 2 _ rfl⟩
set_option maxRecDepth 20000 in
set_option maxHeartbeats 4000000 in
theorem few_ok {L : List Pak} {pv : Value} (w : World) (hL : PacksIn w pv L) (hl : L.length ≤ 140737488355328) (hnd : ∀ p ∈ L, p.nd.length ≤ 140737488355328) : Calls Tryz.prog 11 #[pv] w fun e w' => ∃ b : Bool, e = .returned (.bool b) ∧ (b = true → L.length < 300 ∧ ∀ p ∈ L, p.nd.length < 300) ∧ w' = w := by
  obtain ⟨a, g, off, c, rfl, h2, h3, h4, h5⟩ := hL.ex
  have HA1 : Hid (0 < L.length → a = some ⟨g, off, none⟩) := fun h => (h3 h).1
  have HA5 : Hid (∀ i (h : i < L.length), ∃ na nc, w.cell? ⟨g, off + i * 3 + 2, none⟩ = some (.slice na L[i].nd.length nc)) := fun i hi => by
    obtain ⟨nv, k1, k2⟩ := h5 i hi
    obtain ⟨na, _, _, nc, rfl, _⟩ := k2.ex
    exact ⟨na, nc, (pack_cell k1).2.2⟩
  have HND : Hid (∀ p ∈ L, p.nd.length ≤ 140737488355328) := hnd
  obtain ⟨RP, hRP⟩ : ∃ RP : Ending → World → Prop, RP = fun e w' => ∃ b : Bool, e = .returned (.bool b) ∧ (b = true → L.length < 300 ∧ ∀ p ∈ L, p.nd.length < 300) ∧ w' = w := ⟨_, rfl⟩
  have HRP : Hid (∀ b : Bool, (b = true → L.length < 300 ∧ ∀ p ∈ L, p.nd.length < 300) → RP (.returned (.bool b)) w) := fun b h => by rw [hRP]; exact ⟨b, rfl, h, rfl⟩
  rw [← hRP]
  clear hRP
  obtain ⟨n, hn⟩ : ∃ n, n = L.length := ⟨_, rfl⟩
  have HN : Hid (n = L.length) := hn
  have hnn : L.length = n := hn.symm
  rw [hnn]
  rw [hnn] at h2 hl
  clear hL h3 h4 h5 hn hnn hnd
  go_enter Tryz.func11, Tryz.ntmps11
  go_wp2
  go_loop [3, 4] (fun sv iv => ∃ s i : Nat, i ≤ n ∧ sv = .int .i64 s ∧ iv = .int .i64 i ∧ s ≤ 140737488356000 ∧ n ≤ s ∧ Hid (∀ j (h : j < L.length), j < i → L[j].nd.length ≤ s)) (fun _ iv => n - (intOf iv).toNat)
  case atStart => exact ⟨n, 0, Nat.zero_le _, rfl, rfl, by omega, Nat.le_refl _, fun j _ h => absurd h (by omega)⟩
  case round =>
    obtain ⟨s, i, hi, rfl, rfl, hs1, hs2, HS⟩ := hrel
    by_cases hlt : i < n
    · have hlt' : (i : Int) < (n : Int) := by omega
      by_cases h300 : s < 300
      · have h300' : (s : Int) < 300 := by omega
        have hiL : i < L.length := by have := HN.out; omega
        obtain rfl := HA1.out (by omega)
        obtain ⟨na, nc, hcell⟩ := HA5.out i hiL
        have hle := HND.out _ (List.getElem_mem hiL)
        obtain ⟨nl, hnl⟩ : ∃ nl, nl = L[i].nd.length := ⟨_, rfl⟩
        rw [← hnl] at hcell hle
        have HN2 : Hid (∀ j (h : j < L.length), j < i + 1 → L[j].nd.length ≤ s + nl) := fun j hj h => by
          by_cases e : j = i
          · subst e; rw [hnl]; omega
          · have := HS.out j hj (by omega); omega
        clear hnl
        go_wp2
        go_round
        case rel => exact ⟨s + nl, i + 1, by omega, by go_num, by go_num, by omega, by omega, HN2.out⟩
        case measure => simp [intOf]; omega
      · have h300' : ¬ (s : Int) < 300 := by omega
        go_wp2
        exact HRP.out false fun h => absurd h (by decide)
    · have hlt' : ¬ (i : Int) < (n : Int) := by omega
      by_cases h300 : s < 300
      · have h300' : (s : Int) < 300 := by omega
        have HE : Hid (L.length < 300 ∧ ∀ p ∈ L, p.nd.length < 300) := ⟨by have := HN.out; omega, fun p hp => by
          obtain ⟨j, hj, rfl⟩ := List.getElem_of_mem hp
          have := HS.out j hj (by have := HN.out; omega)
          omega⟩
        go_wp2
        exact HRP.out true fun _ => HE.out
      · have h300' : ¬ (s : Int) < 300 := by omega
        go_wp2
        exact HRP.out false fun h => absurd h (by decide)
/-- The versions' texts of a name. -/
def verOf (L : List Pak) (nm : ByteArray) : List ByteArray := L.filterMap fun p => if p.nm = nm then some p.vr else none
theorem verOf_snoc (L : List Pak) (p : Pak) (nm : ByteArray) : verOf (L ++ [p]) nm = verOf L nm ++ if p.nm = nm then [p.vr] else [] := by
  unfold verOf
  rw [List.filterMap_append]
  congr 1
  by_cases h : p.nm = nm
  · simp [h]
  · simp [h]
theorem verOf_len (L : List Pak) (nm : ByteArray) : (verOf L nm).length ≤ L.length := List.length_filterMap_le _ _
/-- What holds while the texts of a name are gathered. -/
structure VfR (w wr : World) (L : List Pak) (nm : ByteArray) (i : Nat) (tv : Value) : Prop where
  own : wr.ownsRow w.heap.size 9 1 tv (verOf (L.take i) nm).length ((verOf (L.take i) nm).map Value.string)
  old : Below w.heap.size w wr
set_option maxRecDepth 20000 in
set_option maxHeartbeats 4000000 in
theorem versions_ok {L : List Pak} {pv : Value} (nm : ByteArray) (w : World) (hL : PacksIn w pv L) (hl : L.length ≤ 1000) (hF : FitP L) (hT : Pw w) : Calls Tryz.prog 16 #[pv, .string nm] w fun e w' => ∃ a c, e = .returned (.slice a (verOf L nm).length c) ∧ Below w.heap.size w w' := by
  obtain ⟨a, g, off, c, rfl, h2, h3, h4, h5⟩ := hL.ex
  have HA1 : Hid (0 < L.length → a = some ⟨g, off, none⟩) := fun h => (h3 h).1
  have HA5 : Hid (∀ wx, Below w.heap.size w wx → ∀ i (h : i < L.length), ∃ na nl nc, wx.rangeAt g (off + i * 3) (encP L[i] (.slice na nl nc))) := fun wx hx i hi => by
    obtain ⟨nv, k1, k2⟩ := h5 i hi
    obtain ⟨na, _, _, nc, rfl, _⟩ := k2.ex
    exact ⟨na, _, nc, fun j u hj => (hx.cell (p := ⟨g, off + i * 3 + j, none⟩) (h3 (by omega)).2).trans (k1 j u hj)⟩
  obtain ⟨ql, hql⟩ : ∃ q, q = (verOf L nm).length := ⟨_, rfl⟩
  have HQL : Hid (ql = (verOf L nm).length) := hql
  rw [← hql]
  clear hql
  have HT : Hid (Pw w) := hT
  have HFt : Hid (FitP L) := hF
  obtain ⟨n, hn⟩ : ∃ n, n = L.length := ⟨_, rfl⟩
  have HN : Hid (n = L.length) := hn
  have hnn : L.length = n := hn.symm
  rw [hnn]
  rw [hnn] at h2 hl
  have H0 : Hid (VfR w w L nm 0 (.slice none 0 0)) := ⟨World.ownsRow_nil _ _ _ _, Below.refl _ _⟩
  clear hL h3 h4 h5 hn hnn hT hF
  go_enter Tryz.func16, Tryz.ntmps16
  go_wp2
  go_loopw [5, 10] (fun tv iv wr => ∃ i : Nat, i ≤ n ∧ iv = .int .i64 i ∧ VfR w wr L nm i tv) (fun _ iv _ => n - (intOf iv).toNat)
  case atStart => exact ⟨0, Nat.zero_le _, rfl, H0.out⟩
  case round =>
    obtain ⟨i, hi, rfl, hR⟩ := hrel
    have HR : Hid (VfR w wr L nm i u5) := hR
    clear hR H0
    by_cases hlt : i < n
    · have hlt' : (i : Int) < (n : Int) := by omega
      have hiL : i < L.length := by have := HN.out; omega
      obtain rfl := HA1.out (by omega)
      obtain ⟨na, nl, nc, hrg⟩ := HA5.out wr (VfR.old HR.out) i hiL
      obtain ⟨p, hp⟩ : ∃ p, p = L[i] := ⟨_, rfl⟩
      rw [← hp] at hrg
      have hrg0 := hrg
      have HTk : Hid (verOf (L.take (i + 1)) nm = verOf (L.take i) nm ++ if p.nm = nm then [p.vr] else []) := by
        show _ = _
        rw [List.take_succ_eq_append_getElem hiL, verOf_snoc, hp]
      have hb3 : Below wr.heap.size wr (wr.alloc (.cells #[.string p.nm, .string p.vr, .slice na nl nc] 44)) := (Below.refl _ _).alloc (Nat.le_refl _) _
      have hr3 : Row (wr.alloc (.cells #[.string p.nm, .string p.vr, .slice na nl nc] 44)) wr.heap.size #[.string p.nm, .string p.vr, .slice na nl nc] 44 := Row.new _ _ _
      obtain ⟨w3, hw3⟩ : ∃ x, x = wr.alloc (.cells #[.string p.nm, .string p.vr, .slice na nl nc] 44) := ⟨_, rfl⟩
      rw [← hw3] at hb3 hr3
      have hw3' := hw3.symm
      obtain ⟨k5, hk5⟩ : ∃ k, k = wr.heap.size := ⟨_, rfl⟩
      have hk5' := hk5.symm
      rw [← hk5] at hr3
      have d0 : w3.cell? ⟨k5, 0, none⟩ = some (.string p.nm) := (hr3.cell 0).trans rfl
      have d1 : w3.cell? ⟨k5, 1, none⟩ = some (.string p.vr) := (hr3.cell 1).trans rfl
      have HB3 : Hid (Below wr.heap.size wr w3) := hb3
      have hlen : (verOf (L.take i) nm).length ≤ i := Nat.le_trans (verOf_len _ _) (List.length_take_le _ _)
      obtain ⟨q, hq⟩ : ∃ q, q = p.nm := ⟨_, rfl⟩
      rw [← hq] at hw3' d0 HTk
      clear hp hw3 hk5 hb3 hr3
      by_cases he : q = nm
      · have HT2 : Hid (verOf (L.take (i + 1)) nm = verOf (L.take i) nm ++ [p.vr]) := by show _ = _; rw [HTk.out, if_pos he]
        obtain ⟨t, ht⟩ : ∃ t, t = p.vr := ⟨_, rfl⟩
        rw [← ht] at hw3' d1 HT2
        have hown4 : (w3.alloc (.cells #[.string t] 9)).ownsRow w.heap.size 9 1 u5 (verOf (L.take i) nm).length ((verOf (L.take i) nm).map Value.string) := own_below (own_below (VfR.own HR.out) HB3.out) ((Below.refl _ _).alloc (Nat.le_refl _) _)
        have hlow : w.heap.size ≤ w3.heap.size := Nat.le_trans (VfR.old HR.out).size HB3.out.size
        have hrgq : wr.rangeAt g (off + i * 3) [.string q, .string t, .slice na nl nc] := by
          rw [hq, ht]
          exact hrg0
        subst he
        clear hq ht hrg hrg0
        go_wp2_with (first | refine wpList_load_mid rfl 44 _ rfl g (off + i * 3) rfl _ _ hrgq Tryz.underlying44 rfl infoPk ?_ | (refine wpList_store_new rfl 44 _ _ rfl wr zeroPk #[.string q, .string t, .slice na nl nc] 44 rfl wr.heap.size rfl rfl rfl infoPk rfl (pk_one _ _ _ _ _) ?_; rw [hw3']; rw [hk5']) | (at_builtin; refine wpList_ap_one rfl (some 22) rfl _ _ rfl w.heap.size u5 (verOf (L.take i) q).length ((verOf (L.take i) q).map Value.string) rfl t rfl w3.heap.size rfl hown4 rfl hlow (by omega) ?_; intro v5 w5 ho5 hg5))
        have hbx : Below wr.heap.size wr (w3.alloc (.cells #[.string t] 9)) := HB3.out.alloc HB3.out.size _
        have HR5 : Hid (VfR w w5 L q (i + 1) v5) := by
          refine ⟨by rw [HT2.out, List.length_append, List.map_append]; exact ho5, (VfR.old HR.out).trans ((hbx.mono (VfR.old HR.out).size).trans (below_own' hg5 (by simp; omega) fun k hk => (own_block hown4 k hk).1))⟩
        clear ho5 hg5 hown4 hbx
        go_roundw
        case rel => exact ⟨i + 1, by omega, by go_num, HR5.out⟩
        case measure => simp [intOf]; omega
      · have HT2 : Hid (verOf (L.take (i + 1)) nm = verOf (L.take i) nm) := by show _ = _; rw [HTk.out, if_neg he, List.append_nil]
        have hne1 : ¬ q.toList = nm.toList := fun e => he (list_eq.1 e)
        have hne2 : (q.toList == nm.toList) = false := by simpa using hne1
        have hrgq : wr.rangeAt g (off + i * 3) [.string q, .string p.vr, .slice na nl nc] := by
          rw [hq]
          exact hrg0
        have HR5 : Hid (VfR w w3 L nm (i + 1) u5) := ⟨by rw [HT2.out]; exact own_below (VfR.own HR.out) HB3.out, (VfR.old HR.out).trans (HB3.out.mono (VfR.old HR.out).size)⟩
        clear hq hrg hrg0 he
        go_wp2_with (first | refine wpList_load_mid rfl 44 _ rfl g (off + i * 3) rfl _ _ hrgq Tryz.underlying44 rfl infoPk ?_ | (refine wpList_store_new rfl 44 _ _ rfl wr zeroPk #[.string q, .string p.vr, .slice na nl nc] 44 rfl wr.heap.size rfl rfl rfl infoPk rfl (pk_one _ _ _ _ _) ?_; rw [hw3']; rw [hk5']))
        go_roundw
        case rel => exact ⟨i + 1, by omega, by go_num, HR5.out⟩
        case measure => simp [intOf]; omega
    · have hlt' : ¬ (i : Int) < (n : Int) := by omega
      have hti : L.take i = L := List.take_of_length_le (by have := HN.out; omega)
      have hown := VfR.own HR.out
      rw [hti] at hown
      have hvl := verOf_len L nm
      obtain ⟨V, hV⟩ : ∃ V, V = verOf L nm := ⟨_, rfl⟩
      rw [← hV] at hown hvl
      have HQV : Hid (ql = V.length) := by show _ = _; rw [HQL.out, hV]
      have hTx : ∃ a2 c2, u5 = .slice a2 V.length c2 ∧ TxAt wr a2 V c2 := by
        have heach : ∀ x ∈ V, x.size ≤ 140737488355328 := fun x hx => by
          rw [hV] at hx
          unfold verOf at hx
          obtain ⟨p, hp1, hp2⟩ := List.mem_filterMap.1 hx
          by_cases e : p.nm = nm
          · rw [if_pos e] at hp2
            cases hp2
            exact (HFt.out p hp1).2.1
          · rw [if_neg e] at hp2
            cases hp2
        have hown' := hown
        obtain ⟨hlen, ⟨rfl, h0⟩ | ⟨gg, cap, cur, rfl, k2, k3, k4, _⟩⟩ := hown
        · exact ⟨none, 0, by rw [h0], ⟨0, 0, fun h => absurd h (by omega), fun j hj => absurd hj (by omega)⟩, by omega, heach⟩
        · refine ⟨some ⟨gg, 0, none⟩, cap, rfl, ⟨gg, 0, fun _ => rfl, fun j hj => ?_⟩, by simpa using k4, heach⟩
          rw [Nat.zero_add, hown'.cellAt j (by simpa using hj), List.getElem?_map, List.getElem?_eq_getElem hj]
          rfl
      obtain ⟨a2, c2, rfl, hTx2⟩ := hTx
      have hso := sort_ok V a2 c2 wr hTx2 (by have := HN.out; omega) (Pw.keep HT.out (VfR.old HR.out) (Pw.lt HT.out))
      have HB : Hid (Below w.heap.size w wr) := VfR.old HR.out
      obtain ⟨vn, hvn⟩ : ∃ vn, vn = V.length := ⟨_, rfl⟩
      have hvn' : V.length = vn := hvn.symm
      rw [← hvn] at hso
      have HVn : Hid (vn = V.length) := hvn
      have HQn : Hid (ql = vn) := by show _ = _; rw [HQV.out, hvn]
      clear hown hti hV hTx2 hvn hvl
      go_wp2_with fail
      refine hso.mono ?_
      rintro e w6 ⟨vs, rv, rfl, _, _, hown6, hb6⟩
      obtain ⟨a3, c3, rfl⟩ : ∃ a3 c3, rv = .slice a3 vn c3 := by
        obtain ⟨_, ⟨rfl, h0⟩ | ⟨gg, cap, cur, rfl, _⟩⟩ := hown6
        · exact ⟨none, 0, by rw [HVn.out, h0]⟩
        · exact ⟨_, cap, by rw [HVn.out]⟩
      have HB6 : Hid (Below w.heap.size w w6) := HB.out.trans (hb6.mono HB.out.size)
      clear hso hown6 hb6
      go_wp2
      go_ret
      exact ⟨a3, c3, by rw [HQn.out]; rfl, HB6.out⟩
end Go.Proofs.YtdhmlcelofnkgaaGreatDoor
namespace Go.Proofs.YtdhmlcelofnkgaaGreatDoor
open Go.RowKit

theorem infoPkz : (Tryz.prog.info? 44).map (fun i => (i.zero, i.size, i.bytes)) = some (some (.agg zeroPk), 3, 56) := by kernel_rfl
theorem infoNdz : (Tryz.prog.info? 46).map (fun i => (i.zero, i.size, i.bytes)) = some (some (.agg zeroNd), 2, 32) := by kernel_rfl
def flatN (L : List Ned) : List Value := (L.map encN).flatten
theorem flatN_len (L : List Ned) : (flatN L).length = L.length * 2 := by
  induction L with
  | nil => rfl
  | cons v L ih =>
    show (encN v ++ flatN L).length = (L.length + 1) * 2
    rw [List.length_append, ih, show (encN v).length = 2 from rfl]
    omega
theorem flatN_at : ∀ (L : List Ned) (i : Nat) (hi : i < L.length) (j : Nat), j < 2 → (flatN L)[i * 2 + j]? = (encN L[i])[j]? := by
  intro L
  induction L with
  | nil => exact fun i hi => absurd hi (by simp)
  | cons c r ih =>
    intro i hi j hj
    have h2 : (encN c).length = 2 := rfl
    show (encN c ++ flatN r)[i * 2 + j]? = _
    cases i with
    | zero => rw [Nat.zero_mul, Nat.zero_add, List.getElem?_append_left (by rw [h2]; exact hj)]; rfl
    | succ i =>
      rw [List.getElem?_append_right (by rw [h2]; omega), h2, show (i + 1) * 2 + j - 2 = i * 2 + j by omega]
      exact ih i (by simpa using hi) j hj
theorem flatN_app (A B : List Ned) : flatN (A ++ B) = flatN A ++ flatN B := by
  unfold flatN
  rw [List.map_append, List.flatten_append]
abbrev PV := Pak × Value
def flatD (D : List PV) : List Value := (D.map fun d => encP d.1 d.2).flatten
theorem flatD_len (D : List PV) : (flatD D).length = D.length * 3 := by
  induction D with
  | nil => rfl
  | cons v L ih =>
    show (encP v.1 v.2 ++ flatD L).length = (L.length + 1) * 3
    rw [List.length_append, ih, show (encP v.1 v.2).length = 3 from rfl]
    omega
theorem flatD_snoc (D : List PV) (d : PV) : flatD (D ++ [d]) = flatD D ++ encP d.1 d.2 := by
  unfold flatD
  rw [List.map_append, List.flatten_append]
  simp
theorem flatD_at : ∀ (D : List PV) (i : Nat) (hi : i < D.length) (j : Nat), j < 3 → (flatD D)[i * 3 + j]? = (encP D[i].1 D[i].2)[j]? := by
  intro D
  induction D with
  | nil => exact fun i hi => absurd hi (by simp)
  | cons c r ih =>
    intro i hi j hj
    have h3 : (encP c.1 c.2).length = 3 := rfl
    show (encP c.1 c.2 ++ flatD r)[i * 3 + j]? = _
    cases i with
    | zero => rw [Nat.zero_mul, Nat.zero_add, List.getElem?_append_left (by rw [h3]; exact hj)]; rfl
    | succ i =>
      rw [List.getElem?_append_right (by rw [h3]; omega), h3, show (i + 1) * 3 + j - 3 = i * 3 + j by omega]
      exact ih i (by simpa using hi) j hj
theorem needs_own {w : World} {B : Nat} {v : Value} {L : List Ned} (h : w.ownsRow B 46 2 v L.length (flatN L)) : NeedsIn w v L := by
  have h' := h
  obtain ⟨hl, ⟨rfl, h0⟩ | ⟨g, cap, cur, rfl, _, hr, hc, _⟩⟩ := h
  · exact ⟨none, 0, 0, 0, by rw [h0], by omega, fun h => absurd h (by omega), fun _ => rfl, fun i hi => absurd hi (by omega)⟩
  · refine ⟨some ⟨g, 0, none⟩, g, 0, cap, rfl, hc, fun _ => ⟨rfl, (Array.getElem?_eq_some_iff.1 hr).1⟩, (fun h => by cases h), fun i hi j u hj => ?_⟩
    have hj2 : j < 2 := (List.getElem?_eq_some_iff.1 hj).1
    rw [Nat.zero_add, h'.cellAt (i * 2 + j) (by omega), flatN_at L i hi j hj2]
    exact hj
theorem own_base {w : World} {B B' s n : Nat} {e : TypeId} {v : Value} {xs : List Value} (h : w.ownsRow B' e s v n xs) (hB : B ≤ B') : w.ownsRow B e s v n xs := by
  obtain ⟨h0, h1 | ⟨g, cap, cur, rfl, hb, r⟩⟩ := h
  · exact ⟨h0, Or.inl h1⟩
  · exact ⟨h0, Or.inr ⟨g, cap, cur, rfl, Nat.le_trans hB hb, r⟩⟩
/-- Packages in memory of their own: what they are, and where their needs lie. -/
structure OwR (w wr : World) (D : List PV) (ov : Value) : Prop where
  own : wr.ownsRow w.heap.size 44 3 ov D.length (flatD D)
  nds : ∀ d ∈ D, wr.ownsRow w.heap.size 46 2 d.2 d.1.nd.length (flatN d.1.nd)
  sep : D.Pairwise fun d e => ∀ a b, d.2.ownBlock = some a → e.2.ownBlock = some b → a ≠ b
  old : Below w.heap.size w wr
theorem OwR.next {w wr w' : World} {D : List PV} {ov : Value} (h : OwR w wr D ov) (hb : Below wr.heap.size wr w') : OwR w w' D ov :=
  ⟨own_below h.own hb, fun d hd => own_below (h.nds d hd) hb, h.sep, h.old.trans (hb.mono h.old.size)⟩
theorem OwR.packs {w wr : World} {D : List PV} {ov : Value} (h : OwR w wr D ov) : PacksIn wr ov (D.map (·.1)) := by
  have h' := h.own
  have hl : (D.map (·.1)).length = D.length := List.length_map _
  obtain ⟨_, ⟨rfl, h0⟩ | ⟨g, cap, cur, rfl, _, hr, hc, _⟩⟩ := h.own
  · exact ⟨none, 0, 0, 0, by rw [hl, h0], by omega, fun h => absurd h (by omega), fun _ => rfl, fun i hi => absurd hi (by omega)⟩
  · refine ⟨some ⟨g, 0, none⟩, g, 0, cap, by rw [hl], by rw [hl]; exact hc, fun _ => ⟨rfl, (Array.getElem?_eq_some_iff.1 hr).1⟩, (fun h => by cases h), fun i hi => ?_⟩
    have hiD : i < D.length := by rw [hl] at hi; exact hi
    refine ⟨D[i].2, fun j u hj => ?_, ?_⟩
    · have hj3 : j < 3 := (List.getElem?_eq_some_iff.1 hj).1
      rw [List.getElem_map] at hj
      rw [Nat.zero_add, h'.cellAt (i * 3 + j) (by omega), flatD_at D i hiD j hj3]
      exact hj
    · rw [List.getElem_map]
      exact needs_own (h.nds _ (List.getElem_mem hiD))
/-- One package more. -/
theorem OwR.more {w w8 w9 : World} {D : List PV} {ov ov' : Value} {p : Pak} {nv : Value} (h : OwR w w8 D ov) (hn : w8.ownsRow w.heap.size 46 2 nv p.nd.length (flatN p.nd)) (hsep : ∀ d ∈ D, ∀ a b, d.2.ownBlock = some a → nv.ownBlock = some b → a ≠ b) (ho : w9.ownsRow w.heap.size 44 3 ov' (D.length + 1) (flatD D ++ encP p nv)) (hg : w8.grownBy w9 ov.ownBlock) : OwR w w9 (D ++ [(p, nv)]) ov' := by
  have hrow := ownsRow_row h.own
  have keep : ∀ {v : Value} {n : Nat} {xs : List Value}, w8.ownsRow w.heap.size 46 2 v n xs → w9.ownsRow w.heap.size 46 2 v n xs := fun {v n xs} hv => own_same hv fun k hk => hg.block k (own_block hv k hk).2 fun e => by
    obtain ⟨C, hC⟩ := ownsRow_row hv k hk
    obtain ⟨E, hE⟩ := hrow k e.symm
    rw [hC] at hE
    simp at hE
  refine ⟨by rw [List.length_append, flatD_snoc]; exact ho, fun d hd => ?_, ?_, h.old.trans (below_own' hg h.old.size fun k hk => (own_block h.own k hk).1)⟩
  · rcases List.mem_append.1 hd with hd | hd
    · exact keep (h.nds d hd)
    · rw [List.mem_singleton.1 hd]; exact keep hn
  · rw [List.pairwise_append]
    refine ⟨h.sep, List.pairwise_singleton _ _, fun d hd e he => ?_⟩
    rw [List.mem_singleton.1 he]
    exact hsep d hd
theorem one_pk (nm vr : ByteArray) (na : Option Addr) (nl nc : Nat) (w : World) : (Instr.buildSlice 22 1 #[(0, .agg #[.string nm, .string vr, .slice na nl nc])]).run Tryz.prog w = .ok (.slice (some ⟨w.heap.size, 0, none⟩) 1 1) (w.alloc (.cells #[.string nm, .string vr, .slice na nl nc] 44)) := by
  obtain ⟨i0, hi, hz0, hz1, _⟩ := info_parts infoPkz
  refine run_buildSlice w 22 44 1 _ _ i0 _ Tryz.underlying22 hi hz0 (by rw [hz1]; decide) (by rw [hz1]; decide) ?_
  rw [hz1]
  kernel_rfl
theorem own_zero (w : World) : (w.alloc (.cells #[] 46)).ownsRow w.heap.size 46 2 (.slice (some ⟨w.heap.size, 0, none⟩) 0 0) 0 [] :=
  ⟨rfl, Or.inr ⟨w.heap.size, 0, #[], rfl, Nat.le_refl _, heap_alloc_new w _, Nat.le_refl _, by unfold maxLen; omega, rfl, rfl⟩⟩
theorem slice_of {w : World} {B n s : Nat} {e : TypeId} {v : Value} {xs : List Value} (h : w.ownsRow B e s v n xs) : ∃ a c, v = .slice a n c := by
  obtain ⟨_, ⟨rfl, h0⟩ | ⟨g, cap, cur, rfl, _⟩⟩ := h
  · exact ⟨none, 0, by rw [h0]⟩
  · exact ⟨_, cap, rfl⟩
set_option maxRecDepth 40000 in
set_option maxHeartbeats 8000000 in
theorem own_ok {L : List Pak} {pv : Value} (w : World) (hL : PacksIn w pv L) (hl : L.length ≤ 1000) (hnd : ∀ p ∈ L, p.nd.length ≤ 1000) : Calls Tryz.prog 13 #[pv] w fun e w' => ∃ (ov : Value) (D : List PV), e = .returned ov ∧ D.map (·.1) = L ∧ OwR w w' D ov := by
  obtain ⟨a, g, off, c, rfl, h2, h3, h4, h5⟩ := hL.ex
  have HA1 : Hid (0 < L.length → a = some ⟨g, off, none⟩) := fun h => (h3 h).1
  have HA5 : Hid (∀ i (h : i < L.length), ∃ na nc, (∀ wx, Below w.heap.size w wx → wx.rangeAt g (off + i * 3) (encP L[i] (.slice na L[i].nd.length nc))) ∧ ∀ wx, Below w.heap.size w wx → NeedsIn wx (.slice na L[i].nd.length nc) L[i].nd) := fun i hi => by
    obtain ⟨nv, k1, k2⟩ := h5 i hi
    have k2' := k2
    obtain ⟨na, _, _, nc, rfl, _⟩ := k2.ex
    exact ⟨na, nc, fun wx hx j u hj => (hx.cell (p := ⟨g, off + i * 3 + j, none⟩) (h3 (by omega)).2).trans (k1 j u hj), fun wx hx => k2'.keep (Nat.le_refl _) hx⟩
  have HND : Hid (∀ p ∈ L, p.nd.length ≤ 1000) := hnd
  obtain ⟨n, hn⟩ : ∃ n, n = L.length := ⟨_, rfl⟩
  have HN : Hid (n = L.length) := hn
  have hnn : L.length = n := hn.symm
  rw [hnn]
  rw [hnn] at h2 hl
  have H0 : Hid (OwR w w [] (.slice none 0 0)) := ⟨World.ownsRow_nil _ _ _ _, (fun d h => by cases h), List.Pairwise.nil, Below.refl _ _⟩
  obtain ⟨RP, hRP⟩ : ∃ RP : Ending → World → Prop, RP = fun e w' => ∃ (ov : Value) (D : List PV), e = .returned ov ∧ D.map (·.1) = L ∧ OwR w w' D ov := ⟨_, rfl⟩
  have HRP : Hid (∀ w' ov (D : List PV), D.map (·.1) = L → OwR w w' D ov → RP (.returned ov) w') := fun w' ov D h1 h2 => by rw [hRP]; exact ⟨ov, D, rfl, h1, h2⟩
  rw [← hRP]
  clear hL h3 h4 h5 hn hnn hnd hRP
  go_enter Tryz.func13, Tryz.ntmps13
  go_wp2
  go_loopw [3, 4] (fun ov iv wr => ∃ (i : Nat) (D : List PV), i ≤ n ∧ iv = .int .i64 i ∧ Hid (D.map (·.1) = L.take i) ∧ OwR w wr D ov) (fun _ iv _ => n - (intOf iv).toNat)
  case atStart => exact ⟨0, [], Nat.zero_le _, rfl, rfl, H0.out⟩
  case round =>
    obtain ⟨i, D, hi, rfl, HD, hR⟩ := hrel
    have HR : Hid (OwR w wr D u3) := hR
    clear hR H0
    by_cases hlt : i < n
    · have hlt' : (i : Int) < (n : Int) := by omega
      have hiL : i < L.length := by have := HN.out; omega
      have HDl : Hid (D.length = i) := by
        have h := congrArg List.length HD.out
        rw [List.length_map, List.length_take] at h
        show _ = _
        omega
      obtain rfl := HA1.out (by omega)
      obtain ⟨na, nc, hrg0, hnin0⟩ := HA5.out i hiL
      have hrg := hrg0 wr (OwR.old HR.out)
      obtain ⟨p, hp⟩ : ∃ p, p = L[i] := ⟨_, rfl⟩
      rw [← hp] at hrg hnin0
      have hpl := HND.out p (by rw [hp]; exact List.getElem_mem _)
      have HTk : Hid ((D ++ [(p, (Value.slice none 0 0))]).map (·.1) = L.take (i + 1)) := by
        show _ = _
        rw [List.map_append, HD.out, List.take_succ_eq_append_getElem hiL, hp]
        rfl
      obtain ⟨nl, hnl⟩ : ∃ nl, nl = p.nd.length := ⟨_, rfl⟩
      rw [← hnl] at hrg hnin0 hpl
      have HNl : Hid (nl = p.nd.length) := hnl
      have hb3 : Below wr.heap.size wr (wr.alloc (.cells #[.string p.nm, .string p.vr, .slice na nl nc] 44)) := (Below.refl _ _).alloc (Nat.le_refl _) _
      have hr3 : Row (wr.alloc (.cells #[.string p.nm, .string p.vr, .slice na nl nc] 44)) wr.heap.size #[.string p.nm, .string p.vr, .slice na nl nc] 44 := Row.new _ _ _
      obtain ⟨w3, hw3⟩ : ∃ x, x = wr.alloc (.cells #[.string p.nm, .string p.vr, .slice na nl nc] 44) := ⟨_, rfl⟩
      rw [← hw3] at hb3 hr3
      have hw3' := hw3.symm
      obtain ⟨k5, hk5⟩ : ∃ k, k = wr.heap.size := ⟨_, rfl⟩
      have hk5' := hk5.symm
      rw [← hk5] at hr3
      have HB3 : Hid (Below wr.heap.size wr w3) := hb3
      have hk53 : k5 < w3.heap.size := hr3.lt
      have hbz : Below w3.heap.size w3 (w3.alloc (.cells #[] 46)) := (Below.refl _ _).alloc (Nat.le_refl _) _
      have hrz : Row (w3.alloc (.cells #[] 46)) k5 #[.string p.nm, .string p.vr, .slice na nl nc] 44 := hr3.below hbz hr3.lt
      have hnz : NeedsIn (w3.alloc (.cells #[] 46)) (.slice na nl nc) p.nd := hnin0 _ ((OwR.old HR.out).trans ((HB3.out.trans (hbz.mono HB3.out.size)).mono (OwR.old HR.out).size))
      have hoz := own_zero w3
      obtain ⟨wz, hwz⟩ : ∃ x, x = w3.alloc (.cells #[] 46) := ⟨_, rfl⟩
      rw [← hwz] at hbz hrz hnz hoz
      have hwz' := hwz.symm
      have c2 : wz.cell? ⟨k5, 2, none⟩ = some (.slice na nl nc) := (hrz.cell 2).trans rfl
      have HBZ : Hid (Below w3.heap.size w3 wz) := hbz
      have HRZ : Hid (Row wz k5 #[.string p.nm, .string p.vr, .slice na nl nc] 44) := hrz
      have HOZ : Hid (wz.ownsRow w3.heap.size 46 2 (.slice (some ⟨w3.heap.size, 0, none⟩) 0 0) 0 []) := hoz
      obtain ⟨na2, b, boff, nc2, hne, hq1, hq2, hq3, hq4⟩ := hnz.ex
      simp only [Value.slice.injEq] at hne
      obtain ⟨rfl, -, rfl⟩ := hne
      have HQ2 : Hid (0 < nl → na = some ⟨b, boff, none⟩) := fun h => (hq2 (by have := HNl.out; omega)).1
      have HQ3 : Hid (na = none → nl = 0 ∧ nc = 0) := fun h => ⟨by have := hq3 h; have := HNl.out; omega, hq3 h⟩
      have HFl : Hid ((flatN p.nd).length = nl * 2) := by show _ = _; rw [flatN_len, ← HNl.out]
      have HCl : Hid (∀ j u, (flatN p.nd)[j]? = some u → wz.cell? ⟨b, boff + j, none⟩ = some u) := fun j u hj => by
        have hjl : j < (flatN p.nd).length := (List.getElem?_eq_some_iff.1 hj).1
        rw [flatN_len] at hjl
        have e : j = j / 2 * 2 + j % 2 := by omega
        have h6 := hq4 (j / 2) (by omega) (j % 2) u (by
          rw [← flatN_at p.nd (j / 2) (by omega) (j % 2) (by omega), ← e]
          exact hj)
        rw [show boff + j / 2 * 2 + j % 2 = boff + j by omega] at h6
        exact h6
      have HOne : Hid (∀ u ∈ flatN p.nd, u.oneCell' = true) := fun u hu => by
        unfold flatN at hu
        obtain ⟨l, hl1, hl2⟩ := List.mem_flatten.1 hu
        obtain ⟨x, _, rfl⟩ := List.mem_map.1 hl1
        simp at hl2
        rcases hl2 with rfl | rfl <;> rfl
      clear hp hnl hw3 hk5 hb3 hwz hbz hrz hnz hoz hq1 hq2 hq3 hq4 hnin0 hrg0 hr3
      go_upto_region 7 with (first | refine wpList_load_mid rfl 44 _ rfl g (off + i * 3) rfl _ _ hrg Tryz.underlying44 rfl infoPk ?_ | (refine wpList_store_new rfl 44 _ _ rfl wr zeroPk #[.string p.nm, .string p.vr, .slice na nl nc] 44 rfl wr.heap.size rfl rfl rfl infoPk rfl (pk_one _ _ _ _ _) ?_; rw [hw3']; rw [hk5']) | (at_builtin; refine wpList_plain rfl fun K' hK' => ?_; refine wp_append_any (some 19) rfl _ _ 42 46 (.agg zeroNd) 2 32 Tryz.underlying42 infoNdz rfl (by decide) rfl w3.heap.size (.slice (some ⟨w3.heap.size, 0, none⟩) 0 0) 0 [] rfl HOZ.out na b boff nl nc (flatN p.nd) HFl.out rfl HQ2.out HCl.out HOne.out HQ3.out (by unfold maxLen; omega) (by omega) HBZ.out.size ?_; intro v6 w6 ho6 hg6 _; refine hK' _ _ ?_; obtain ⟨ta, tc, hv6⟩ := slice_of ho6; have HO6 : Hid (w6.ownsRow w3.heap.size 46 2 v6 (0 + nl) ([] ++ flatN p.nd)) := ho6; have HB6 : Hid (Below w3.heap.size w3 w6) := HBZ.out.trans (below_own' hg6 HBZ.out.size fun k hk => (own_block HOZ.out k hk).1); have hr6 : Row w6 k5 #[.string p.nm, .string p.vr, .slice na nl nc] 44 := (hg6.block k5 HRZ.out.lt (fun e => by simp only [Value.ownBlock, Option.some.injEq] at e; omega)).trans HRZ.out; have HR6 : Hid (Row w6 k5 #[.string p.nm, .string p.vr, .slice na nl nc] 44) := hr6; have cz : w6.cell? ⟨k5, 2, none⟩ = some (.slice na nl nc) := (hr6.cell 2).trans rfl; have fz := hr6.frozen 2; rw [Nat.zero_add] at hv6; subst hv6; clear ho6 hg6 hr6))
      have HN6 : Hid (w6.ownsRow w3.heap.size 46 2 (.slice ta nl tc) nl (flatN p.nd)) := by
        have h := HO6.out
        rw [Nat.zero_add, List.nil_append] at h
        exact h
      have hr7 : Row (w6.setCell ⟨k5, 2, none⟩ (.slice ta nl tc)) k5 #[.string p.nm, .string p.vr, .slice ta nl tc] 44 := HR6.out.setCell (i := 2) (.slice ta nl tc)
      have hb7 : Below wr.heap.size wr (w6.setCell ⟨k5, 2, none⟩ (.slice ta nl tc)) := (HB3.out.trans (HB6.out.mono HB3.out.size)).trans (below_set (by rw [hk5']; exact Nat.le_refl _) _ _)
      have hn7 : (w6.setCell ⟨k5, 2, none⟩ (.slice ta nl tc)).ownsRow w3.heap.size 46 2 (.slice ta nl tc) nl (flatN p.nd) := own_same HN6.out fun j hj => Below.heap_setCell _ _ _ _ (by have := (own_block HN6.out j hj).1; show j ≠ k5; omega)
      obtain ⟨w7, hw7⟩ : ∃ x, x = w6.setCell ⟨k5, 2, none⟩ (.slice ta nl tc) := ⟨_, rfl⟩
      rw [← hw7] at hr7 hb7 hn7
      rw [← hw7]
      have HB7 : Hid (Below wr.heap.size wr w7) := hb7
      have HN7 : Hid (w7.ownsRow w3.heap.size 46 2 (.slice ta nl tc) nl (flatN p.nd)) := hn7
      have hone := one_pk p.nm p.vr ta nl tc w7
      have HR7 : Hid (OwR w w7 D u3) := OwR.next HR.out HB7.out
      have hba : Below w7.heap.size w7 (w7.alloc (.cells #[.string p.nm, .string p.vr, .slice ta nl tc] 44)) := (Below.refl _ _).alloc (Nat.le_refl _) _
      have HBa : Hid (Below w7.heap.size w7 (w7.alloc (.cells #[.string p.nm, .string p.vr, .slice ta nl tc] 44))) := hba
      have HRa : Hid (OwR w (w7.alloc (.cells #[.string p.nm, .string p.vr, .slice ta nl tc] 44)) D u3) := OwR.next HR7.out hba
      have hlow7 : w.heap.size ≤ w7.heap.size := (OwR.old HR7.out).size
      have hDl : D.length ≤ 1000 := by have := HDl.out; omega
      clear hw7 hb7 hn7 hba cz fz c2 hwz' hw3' hk53 hrg
      go_wp2_with (first | refine wpList_load_row rfl 44 _ rfl k5 rfl 44 #[.string p.nm, .string p.vr, .slice ta nl tc] (0, 0) _ hr7 Tryz.underlying44 rfl infoPk ?_ | (at_builtin; refine wpList_plain rfl fun K' hK' => ?_; refine wp_append_any (some 24) rfl _ _ 22 44 (.agg zeroPk) 3 56 Tryz.underlying22 infoPkz rfl (by decide) rfl w.heap.size u3 D.length (flatD D) rfl (OwR.own HRa.out) (some ⟨w7.heap.size, 0, none⟩) w7.heap.size 0 1 1 (encP p (.slice ta nl tc)) rfl rfl (fun _ => rfl) (fun j u hj => by rw [Nat.zero_add, (Row.new w7 #[.string p.nm, .string p.vr, .slice ta nl tc] 44).cell j, ← hj]; exact List.getElem?_toArray) (fun u hu => by simp at hu; rcases hu with rfl | rfl | rfl <;> rfl) (fun h => nomatch h) (by unfold maxLen; omega) (by omega) (by simp; omega) ?_; intro v9 w9 ho9 hg9 _; refine hK' _ _ ?_))
      have hsep : ∀ d ∈ D, ∀ x y, d.2.ownBlock = some x → (Value.slice ta nl tc).ownBlock = some y → x ≠ y := fun d hd x y hx hy => by
        have h1 := (own_block (OwR.nds HR.out d hd) x hx).2
        have h2 := (own_block HN7.out y hy).1
        have h3 := HB3.out.size
        omega
      have hn8 : (w7.alloc (.cells #[.string p.nm, .string p.vr, .slice ta nl tc] 44)).ownsRow w.heap.size 46 2 (.slice ta nl tc) p.nd.length (flatN p.nd) := by
        rw [← HNl.out]
        exact own_below (own_base HN7.out (Nat.le_trans (OwR.old HR.out).size HB3.out.size)) HBa.out
      have HR9 : Hid (OwR w w9 (D ++ [(p, .slice ta nl tc)]) v9) := OwR.more HRa.out hn8 hsep ho9 hg9
      have HD9 : Hid ((D ++ [(p, Value.slice ta nl tc)]).map (·.1) = L.take (i + 1)) := by
        have h := HTk.out
        rw [List.map_append] at h ⊢
        exact h
      clear ho9 hg9 hsep hn8 hr7 hone
      go_roundw
      case rel => exact ⟨i + 1, D ++ [(p, .slice ta nl tc)], by omega, by go_num, HD9, HR9.out⟩
      case measure => simp [intOf]; omega
    · have hlt' : ¬ (i : Int) < (n : Int) := by omega
      have HE := HRP.out wr u3 D (by rw [HD.out, List.take_of_length_le (by have := HN.out; omega)]) HR.out
      have HEE : Hid (RP (.returned u3) wr) := HE
      clear HE
      go_wp2
      exact HEE.out
end Go.Proofs.YtdhmlcelofnkgaaGreatDoor
namespace Go.Proofs.YtdhmlcelofnkgaaGreatDoor
open Go.RowKit

/-- How many packages a name has. -/
def cntN (L : List Pak) (s : ByteArray) : Nat := (verOf L s).length
theorem cntN_cons (p : Pak) (L : List Pak) (s : ByteArray) : cntN (p :: L) s = (if p.nm = s then 1 else 0) + cntN L s := by
  unfold cntN verOf
  by_cases h : p.nm = s
  · simp [h, Nat.add_comm]
  · simp [h]
theorem sum_if {S : List ByteArray} (hn : S.Nodup) (x : ByteArray) (hx : x ∈ S) : (S.map fun s => if x = s then 1 else 0).sum = 1 := by
  induction S with
  | nil => cases hx
  | cons a S ih =>
    rw [List.map_cons, List.sum_cons]
    obtain ⟨h1, h2⟩ := List.nodup_cons.1 hn
    by_cases e : x = a
    · subst e
      rw [if_pos rfl]
      have : (S.map fun s => if x = s then 1 else 0) = S.map fun _ => 0 := List.map_congr_left fun s hs => if_neg fun e => h1 (by rw [e]; exact hs)
      rw [this]
      have h0 : ∀ (l : List ByteArray), (l.map fun _ => 0).sum = 0 := fun l => by induction l with | nil => rfl | cons _ _ ih => rw [List.map_cons, List.sum_cons, ih]
      rw [h0]
    · rw [if_neg e, ih h2 ((List.mem_cons.1 hx).resolve_left e)]
theorem sum_add (S : List ByteArray) (f g : ByteArray → Nat) : (S.map fun s => f s + g s).sum = (S.map f).sum + (S.map g).sum := by
  induction S with
  | nil => rfl
  | cons a S ih => rw [List.map_cons, List.sum_cons, ih, List.map_cons, List.sum_cons, List.map_cons, List.sum_cons]; omega
/-- Each package once. -/
theorem sum_cnt {S : List ByteArray} (hn : S.Nodup) : ∀ L : List Pak, (∀ p ∈ L, p.nm ∈ S) → (S.map (cntN L)).sum = L.length
  | [], _ => by
    have h0 : ∀ (l : List ByteArray), (l.map (cntN [])).sum = 0 := fun l => by induction l with | nil => rfl | cons _ _ ih => rw [List.map_cons, List.sum_cons, ih]; rfl
    rw [h0]
    rfl
  | p :: L, h => by
    have e : S.map (cntN (p :: L)) = S.map fun s => (if p.nm = s then 1 else 0) + cntN L s := List.map_congr_left fun s _ => cntN_cons p L s
    rw [e, sum_add, sum_if hn p.nm (h p List.mem_cons_self), sum_cnt hn L fun q hq => h q (List.mem_cons_of_mem _ hq), List.length_cons, Nat.add_comm]
theorem packs_mem : ∀ {L : List Pak} {A : List Rl}, packsE A L = 0 → ∀ p ∈ L, ∃ B, packE B p = 0 := by
  intro L
  induction L with
  | nil => intro A _ p hp; cases hp
  | cons q r ih =>
    intro A h p hp
    rw [packsE_cons] at h
    by_cases hq : packE A q ≠ 0
    · rw [if_pos hq] at h; exact absurd h hq
    · rw [if_neg hq] at h
      rcases List.mem_cons.1 hp with rfl | hp
      · exact ⟨A, Decidable.not_not.1 hq⟩
      · exact ih h p hp
theorem packE_parts {A : List Rl} {p : Pak} (h : packE A p = 0) : rightP p.nm p.vr A = 0 ∧ needsE [] p.nd = 0 := by
  unfold packE at h
  by_cases h1 : rightP p.nm p.vr A ≠ 0
  · rw [if_pos h1] at h; exact absurd h h1
  · rw [if_neg h1] at h; exact ⟨Decidable.not_not.1 h1, h⟩
/-- A package that is told twice is found out. -/
theorem twice_bad {L : List Pak} {p : Pak} (h : rightL L = 0) (hp : p ∈ L) (hl : L.length + 1 ≤ 1024) : rightL (L ++ [p]) = 13 := by
  obtain ⟨⟨_, g2⟩, g3⟩ := rightL_zero.1 h
  have hb : bigL (L ++ [p]) = false := (bigL_iff _).2 ⟨by rw [List.length_append]; exact hl, fun q hq => by
    rcases List.mem_append.1 hq with hq | hq
    · exact g2 q hq
    · rw [List.mem_singleton.1 hq]; exact g2 p hp⟩
  obtain ⟨B, hB⟩ := packs_mem g3 p hp
  obtain ⟨k1, ⟨x, k2⟩, _⟩ := rightP_ok (packE_parts hB).1
  have hr : rightP p.nm p.vr (([] : List Rl) ++ L.map Pak.key) = 13 := by
    unfold rightP
    rw [if_neg (by rw [k1]; decide), k2, if_neg (by simp), if_pos]
    exact List.mem_map.2 ⟨p, hp, rfl⟩
  unfold rightL
  rw [if_neg (by rw [hb]; decide), packsE_snoc, g3, if_neg (fun k => k rfl)]
  unfold packE
  rw [hr, if_pos (by decide)]
def noneN : Ned := ⟨⟨#[110, 111, 110, 101]⟩, ⟨#[42]⟩⟩
theorem alt_oneI {x : By} {L : List Cut} (h : (44 : UInt8) ∉ x) (ht : termS x = some L) : altS x = some L := by
  unfold altS gatherS
  have : splitB 44 16 x = [x] := by rw [splitB, cutAt_none h]
  rw [this, if_neg (by rw [List.length_singleton]; omega), gath1_cons, ht]
  rfl
theorem star_range : rangeS [42] = some allC := by
  have h1 : altS [42] = some allC := alt_oneI (by simp) rfl
  have hs : splitB 124 16 [42] = [[42]] := by rw [splitB, cutAt_none (by simp)]
  unfold rangeS gatherS
  rw [hs, if_neg (by decide), gath1_cons, h1]
  rfl
theorem none_twice {A : List Ned} (h : needsE [] A = 0) : needsE [] (A ++ [noneN, noneN]) = 13 := by
  have hn : nameI (vb noneN.nm) = true := by decide
  have hr : rangeS (vb noneN.rg) = some allC := star_range
  have e : A ++ [noneN, noneN] = (A ++ [noneN]) ++ [noneN] := by simp
  have h13 : ∀ B : List Ned, noneN.nm ∈ B.map Ned.nm → rightN noneN B = 13 := fun B hB => by
    unfold rightN
    rw [if_neg (by rw [hn]; decide), hr, if_neg (by simp), if_pos hB]
  have h1 : needsE [] (A ++ [noneN]) = rightN noneN A := by rw [needsE_snoc, h, if_neg (fun k => k rfl), List.nil_append]
  rw [e, needsE_snoc, h1, List.nil_append]
  by_cases hm : noneN.nm ∈ A.map Ned.nm
  · rw [h13 A hm, if_pos (by decide)]
  · have h0 : rightN noneN A = 0 := by
      unfold rightN
      rw [if_neg (by rw [hn]; decide), hr, if_neg (by simp), if_neg hm]
    rw [h0, if_neg (fun k => k rfl)]
    exact h13 _ (by simp)
/-- A need that is told twice is found out. -/
theorem again_bad {L : List Pak} {n : Nat} (h : rightL L = 0) (hn : n < L.length) (hl : L[n].nd.length + 2 ≤ 64) : rightL (L.set n ⟨L[n].nm, L[n].vr, L[n].nd ++ [noneN, noneN]⟩) = 13 := by
  obtain ⟨⟨g1, g2⟩, g3⟩ := rightL_zero.1 h
  have hb : bigL (L.set n ⟨L[n].nm, L[n].vr, L[n].nd ++ [noneN, noneN]⟩) = false := (bigL_iff _).2 ⟨by rw [List.length_set]; exact g1, fun q hq => by
    rcases List.mem_or_eq_of_mem_set hq with hq | rfl
    · exact g2 q hq
    · show (L[n].nd ++ [noneN, noneN]).length ≤ 64
      rw [List.length_append]
      exact hl⟩
  unfold rightL
  rw [if_neg (by rw [hb]; decide)]
  have key : ∀ (L : List Pak) (n : Nat) (hn : n < L.length) (A : List Rl), packsE A L = 0 → packsE A (L.set n ⟨L[n].nm, L[n].vr, L[n].nd ++ [noneN, noneN]⟩) = 13 := by
    intro L
    induction L with
    | nil => intro n hn; exact absurd hn (by simp)
    | cons p r ih =>
      intro n hn A hA
      rw [packsE_cons] at hA
      by_cases hp : packE A p ≠ 0
      · rw [if_pos hp] at hA; exact absurd hA hp
      · rw [if_neg hp] at hA
        cases n with
        | zero =>
          obtain ⟨k1, k2⟩ := packE_parts (Decidable.not_not.1 hp)
          show packsE A (⟨p.nm, p.vr, p.nd ++ [noneN, noneN]⟩ :: r) = 13
          have e : packE A ⟨p.nm, p.vr, p.nd ++ [noneN, noneN]⟩ = 13 := by
            unfold packE
            rw [if_neg (fun k => k k1)]
            exact none_twice k2
          rw [packsE_cons, e, if_pos (by decide)]
        | succ m =>
          show packsE A (p :: r.set m ⟨(r[m]'(by simpa using hn)).nm, (r[m]'(by simpa using hn)).vr, (r[m]'(by simpa using hn)).nd ++ [noneN, noneN]⟩) = 13
          rw [packsE_cons, if_neg hp]
          exact ih m (by simpa using hn) _ hA
  exact key L n hn [] g3
theorem wrong_name : rightL [⟨⟨#[65]⟩, ⟨#[49]⟩, []⟩] = 17 := by
  unfold rightL
  rw [if_neg (by decide), packsE_cons]
  have e : packE [] ⟨⟨#[65]⟩, ⟨#[49]⟩, []⟩ = 17 := by
    unfold packE
    have h : rightP ⟨#[65]⟩ ⟨#[49]⟩ [] = 17 := by unfold rightP; rw [if_pos (by decide)]
    rw [h, if_pos (by decide)]
  rw [e, if_pos (by decide)]
end Go.Proofs.YtdhmlcelofnkgaaGreatDoor
