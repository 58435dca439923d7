/- My own work: the document's own look for signs in a text; two lists of texts compared. -/
import Derived.Test.YtpkbfljoakodoaaDoorXH
import Derived.WalkMore
namespace Go.Proofs.YtpkbfljoakodoaaDoor
open Go.RowKit
open S2 (bl bl_len bl_ex ex_size bl_inj)

theorem below_drw {B : Nat} {a w : World} (h : Below B a w) (n : Nat) : Below B a (w.drewN n) := ⟨h.os, h.tape, h.output, h.size, h.block⟩
theorem occ_iff (k l : List UInt8) : occ k l = occTo k l (l.length + 1 - 32) := rfl
set_option maxRecDepth 20000 in
set_option maxHeartbeats 2000000 in
/-- Do signs occur in a text? -/
theorem rin_ok (q t : ByteArray) (w : World) (hq : q.size = 32) (ht : t.size ≤ big) : Calls Tryd.prog 26 #[.string q, .string t] w fun e w' => e = .returned (.bool (occ (bl q) (bl t))) ∧ w' = w := by
  have hlen := bl_len t
  unfold big at ht
  have HL : Hid _ := hlen
  clear hlen
  go_enter Tryd.func26, Tryd.ntmps26
  go_wp2
  go_loopw [5] (fun i wr => ∃ n : Nat, i = .int .i64 n ∧ n ≤ t.size + 1 - 32 ∧ occTo (bl q) (bl t) n = false ∧ wr = w) (fun i _ => t.size - (intOf i).toNat)
  case atStart => exact ⟨0, rfl, Nat.zero_le _, rfl, rfl⟩
  case round =>
    obtain ⟨n, rfl, hn, ho, hw⟩ := hrel
    have HO : Hid _ := ho
    have HW : Hid _ := hw
    clear ho hw
    by_cases hlt : n + 32 ≤ t.size
    · obtain ⟨x, hx⟩ : ∃ x, x = t.extract n (n + 32) := ⟨_, rfl⟩
      have hx' := hx.symm
      have HX : Hid (bl x = win (bl t) n) := by show _ = _; rw [hx, win_ex]
      clear hx
      by_cases he : x = q
      · subst he
        go_wp2
        go_ret
        refine ⟨?_, HW.out⟩
        have : occ (bl x) (bl t) = true := by
          unfold occ
          refine List.any_eq_true.2 ⟨n, List.mem_range.2 (by rw [HL.out]; omega), ?_⟩
          rw [HX.out]
          simp
        rw [this]
        rfl
      · have h2 : (x.toList == q.toList) = false := by
          have : x.toList ≠ q.toList := fun e => he (by
            rw [ByteArray.toList_eq, ByteArray.toList_eq] at e
            exact bl_inj e)
          simpa using this
        have h3 : decide (x = q) = false := decide_eq_false he
        go_wp2
        go_roundw
        case rel =>
          refine ⟨n + 1, by go_num, by omega, ?_, HW.out⟩
          rw [occTo_succ, HO.out, ← HX.out]
          have : bl q ≠ bl x := fun e => he (bl_inj e.symm)
          simpa using this
        case measure => simp [intOf]; omega
    · go_wp2
      go_ret
      refine ⟨?_, HW.out⟩
      have e2 : n = t.size + 1 - 32 := by omega
      rw [occ_iff, HL.out, ← e2, HO.out]
      rfl
/-- A slice of texts, by its cells. -/
structure TsAt (w : World) (v : Value) (l : List ByteArray) : Prop where
  ex : ∃ (a : Option Addr) (b off c : Nat), v = .slice a l.length c ∧ (0 < l.length → a = some ⟨b, off, none⟩) ∧ (∀ i (h : i < l.length), w.cell? ⟨b, off + i, none⟩ = some (.string l[i])) ∧ (a = none → l.length = 0 ∧ c = 0) ∧ l.length ≤ c ∧ c ≤ maxLen
theorem TsAt.keep {w w' : World} {v : Value} {l : List ByteArray} (h : TsAt w v l) (hb : Below w.heap.size w w') : TsAt w' v l := by
  obtain ⟨a, b, off, c, h1, h2, h3, h4⟩ := h.ex
  exact ⟨a, b, off, c, h1, h2, fun i hi => (World.cell?_of_block (w := w) (hb.block b (World.block_lt_of_cell? _ _ (h3 i hi)))).trans (h3 i hi), h4⟩
theorem TsAt.of_strs {w : World} {a : Option Addr} {l : List ByteArray} {c : Nat} (h : StrsAt w a l c) : TsAt w (.slice a l.length c) l := by
  obtain ⟨b, off, h1, h2⟩ := h.ex
  exact ⟨a, b, off, c, rfl, h1, h2, h.nil, h.le, h.cap⟩
theorem TsAt.of_own {w : World} {B : Nat} {v : Value} {l : List ByteArray} (h : w.ownsRow B 9 1 v l.length (l.map Value.string)) : TsAt w v l := by
  rcases h.2 with ⟨rfl, h0⟩ | ⟨g, cap, cur, rfl, hb, hg, h1, h2, h3, h4⟩
  · have : l = [] := List.eq_nil_of_length_eq_zero h0
    subst this
    exact ⟨none, 0, 0, 0, rfl, fun h => absurd h (by simp), fun i hi => absurd hi (by simp), fun _ => ⟨rfl, rfl⟩, Nat.le_refl _, Nat.zero_le _⟩
  · refine ⟨some ⟨g, 0, none⟩, g, 0, cap, rfl, fun _ => rfl, fun i hi => ?_, (fun h => nomatch h), h1, h2⟩
    rw [Nat.zero_add, cell_of_row w g i cur 9 (0, 0) hg]
    have e1 : cur.toList[i]? = (l.map Value.string)[i]? := by
      rw [← h4, List.getElem?_take_of_lt (by omega)]
    rw [← Array.getElem?_toList, e1]
    simp [hi]
set_option maxRecDepth 20000 in
set_option maxHeartbeats 2000000 in
/-- Are two lists of texts the same? -/
theorem same_ok (v1 v2 : Value) (l1 l2 : List ByteArray) (w : World) (h1 : TsAt w v1 l1) (h2 : TsAt w v2 l2) : Calls Tryd.prog 8 #[v1, v2] w fun e w' => e = .returned (.bool (decide (l1 = l2))) ∧ Below w.heap.size w w' := by
  obtain ⟨a1, b1, o1, c1, rfl, ha1, hc1, hn1, hl1, hm1⟩ := h1.ex
  obtain ⟨a2, b2, o2, c2, rfl, ha2, hc2, hn2, hl2, hm2⟩ := h2.ex
  unfold maxLen at hm1 hm2
  clear h1 h2
  by_cases hlen : l1.length = l2.length
  · have HA1 : Hid _ := ha1
    have HA2 : Hid _ := ha2
    have HC1 : Hid (∀ wx, Below w.heap.size w wx → ∀ i (h : i < l1.length), wx.cell? ⟨b1, o1 + i, none⟩ = some (.string l1[i])) := fun wx hx i h => (World.cell?_of_block (w := w) (hx.block b1 (World.block_lt_of_cell? _ _ (hc1 i h)))).trans (hc1 i h)
    have HC2 : Hid (∀ wx, Below w.heap.size w wx → ∀ i (h : i < l2.length), wx.cell? ⟨b2, o2 + i, none⟩ = some (.string l2[i])) := fun wx hx i h => (World.cell?_of_block (w := w) (hx.block b2 (World.block_lt_of_cell? _ _ (hc2 i h)))).trans (hc2 i h)
    obtain ⟨L1, hL1⟩ : ∃ L, L = l1.length := ⟨_, rfl⟩
    have hL2 : l2.length = L1 := by omega
    rw [hL2, ← hL1]
    have HL1 : Hid _ := hL1
    have HL2 : Hid _ := hL2
    clear ha1 ha2 hc1 hc2 hn1 hn2 hlen
    rw [← hL1] at hl1
    rw [hL2] at hl2
    clear hL1 hL2
    go_enter Tryd.func8, Tryd.ntmps8
    go_wp2
    go_loopw [5] (fun i wr => ∃ n : Nat, i = .int .i64 n ∧ n ≤ L1 ∧ l1.take n = l2.take n ∧ Below w.heap.size w wr) (fun i _ => L1 - (intOf i).toNat)
    case atStart => exact ⟨0, rfl, Nat.zero_le _, rfl, Below.refl _ _⟩
    case round =>
      obtain ⟨n, rfl, hn, ho, hB⟩ := hrel
      have HO : Hid _ := ho
      have HB : Hid _ := hB
      clear ho hB
      by_cases hlt : n < L1
      · have g1 : n < l1.length := by have := HL1.out; omega
        have g2 : n < l2.length := by have := HL2.out; omega
        obtain rfl := HA1.out (by omega)
        obtain rfl := HA2.out (by omega)
        obtain ⟨x, hx⟩ : ∃ x, x = l1[n] := ⟨_, rfl⟩
        obtain ⟨y, hy⟩ : ∃ y, y = l2[n] := ⟨_, rfl⟩
        have k1 := HC1.out wr.drew (HB.out.trans ((Below.refl _ _).drew.mono HB.out.size)) n g1
        have k2 := HC2.out wr.drew (HB.out.trans ((Below.refl _ _).drew.mono HB.out.size)) n g2
        rw [← hx] at k1
        rw [← hy] at k2
        have k1' : wr.cell? ⟨b1, o1 + n, none⟩ = some (.string x) := k1
        have k2' : wr.cell? ⟨b2, o2 + n, none⟩ = some (.string y) := k2
        have HX : Hid _ := hx
        have HY : Hid _ := hy
        have hlt' : (n : Int) < (L1 : Int) := by omega
        clear hx hy
        by_cases he : x = y
        · subst he
          go_wp2_with fail
          go_quiet (fail)
          obtain ⟨w4, hw4⟩ : ∃ u, u = wr.drewN nq := ⟨_, rfl⟩
          rw [← hw4]
          have HB4 : Hid (Below w.heap.size w w4) := by
            rw [hw4]
            exact below_drw HB.out nq
          clear hw4 k1 k2 k1' k2'
          go_wp2
          go_roundw
          case rel =>
            refine ⟨n + 1, by go_num, by omega, ?_, HB4.out⟩
            rw [List.take_succ_eq_append_getElem g1, List.take_succ_eq_append_getElem g2, HO.out, ← HX.out, ← HY.out]
          case measure => simp [intOf]; omega
        · have h2 : (x.toList == y.toList) = false := by
            have : x.toList ≠ y.toList := fun e => he (by
              rw [ByteArray.toList_eq, ByteArray.toList_eq] at e
              exact bl_inj e)
            simpa using this
          have h3 : decide (x = y) = false := decide_eq_false he
          have HE : Hid (decide (l1 = l2) = false) := by
            refine decide_eq_false fun e => he ?_
            rw [HX.out, HY.out]
            subst e
            rfl
          go_wp2_with fail
          go_quiet (fail)
          obtain ⟨w4, hw4⟩ : ∃ u, u = wr.drewN nq := ⟨_, rfl⟩
          rw [← hw4]
          have HB4 : Hid (Below w.heap.size w w4) := by
            rw [hw4]
            exact below_drw HB.out nq
          clear hw4 k1 k2 k1' k2'
          go_wp2
          go_ret
          exact ⟨by rw [HE.out]; rfl, HB4.out⟩
      · have e1 : n = L1 := by omega
        subst e1
        have HE : Hid (decide (l1 = l2) = true) := by
          refine decide_eq_true ?_
          have := HO.out
          rwa [List.take_of_length_le (by rw [← HL1.out]; exact Nat.le_refl _), List.take_of_length_le (by rw [HL2.out]; exact Nat.le_refl _)] at this
        go_wp2
        go_ret
        exact ⟨by rw [HE.out]; rfl, HB.out⟩
  · have HE : Hid (decide (l1 = l2) = false) := decide_eq_false fun e => hlen (by rw [e])
    have hl : ¬ (l1.length : Int) = (l2.length : Int) := by omega
    have hl' : ((l1.length : Int) == (l2.length : Int)) = false := by simpa using hl
    obtain ⟨x1, hx1⟩ : ∃ x, x = l1.length := ⟨_, rfl⟩
    obtain ⟨x2, hx2⟩ : ∃ x, x = l2.length := ⟨_, rfl⟩
    rw [← hx1, ← hx2] at hl hl' ⊢
    clear hx1 hx2 hc1 hc2 ha1 ha2 hn1 hn2 hl1 hl2
    go_enter Tryd.func8, Tryd.ntmps8
    go_wp2
    go_ret
    exact ⟨by rw [HE.out]; rfl, Below.refl _ _⟩
end Go.Proofs.YtpkbfljoakodoaaDoor
