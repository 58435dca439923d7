/- My own work: the walk of the document's own Read. -/
import Derived.Test.YthidlckipiamkaaDoorOT6
import Derived.Test.YthidlckipiamkaaDoorPerm
import Derived.Laws.CopyOwn
namespace Go.Proofs.YthidlckipiamkaaDoor
open Go.RowKit
open S2 (bl bl_len bl_inj splitB splitV Tab NTab arr)

theorem isLine_lt {n : Nat} {W : List UInt8} {l : ByteArray} (h : isLine n W l = true) : n < l.size := by
  unfold isLine at h
  rw [Bool.and_eq_true] at h
  exact of_decide_eq_true h.1
theorem fin_h (l : ByteArray) (st : RSt) (n : Nat) : ({ updR l (updD l (updH l st)) with fro := n } : RSt).h = (updH l st).h := by unfold updR updD; cases isLine 4 PR l <;> cases isLine 8 PD l <;> rfl
theorem fin_d (l : ByteArray) (st : RSt) (n : Nat) : ({ updR l (updD l (updH l st)) with fro := n } : RSt).d = (updD l (updH l st)).d := by unfold updR; cases isLine 4 PR l <;> rfl
theorem fin_rs (l : ByteArray) (st : RSt) (n : Nat) : ({ updR l (updD l (updH l st)) with fro := n } : RSt).rs = if isLine 4 PR l then st.rs ++ [l.extract 4 l.size] else st.rs := by unfold updR updD updH; cases isLine 4 PR l <;> cases isLine 8 PD l <;> cases isLine 5 PH l <;> rfl
theorem old_grown {B : Nat} {w0 w w' : World} {v : Value} {n sz : Nat} {e : TypeId} {xs : List Value} (hown : w.ownsRow (B + 1) e sz v n xs) (hb : Below B w0 w) (hB : B ≤ w.heap.size) (hg : w.grownBy w' v.ownBlock) : Below B w0 w' :=
  hb.trans ⟨hg.os, hg.tape, hg.output, hg.size, fun q hq => hg.block q (by omega) (fun e1 => by have := (ownsRow_lt hown q e1.symm).2.1; omega)⟩
theorem row_grownR {w w' : World} {B s n : Nat} {e : TypeId} {v : Value} {xs : List Value} (hown : w.ownsRow B e s v n xs) (hg : w.grownBy w' v.ownBlock) {k : Nat} {C : Array Value} {t : TypeId} (hr : Row w k C t) (ht : t ≠ e) : Row w' k C t :=
  (hg.block k hr.lt (fun e1 => by
    obtain ⟨_, _, c2, r2⟩ := ownsRow_lt hown k e1.symm
    exact row_ne hr r2 ht rfl)).trans hr
theorem own_belowR {w w' : World} {B s n : Nat} {e : TypeId} {v : Value} {xs : List Value} (h : w.ownsRow B e s v n xs) (hb : Below w.heap.size w w') : w'.ownsRow B e s v n xs := ownsRow_keep h (fun k hk _ => hb.block k (ownsRow_lt h k hk).1)
theorem dr_set {w1 w3 : World} {p h d : ByteArray} {rs : List ByteArray} {v kv : Value} {y : ByteArray} (hr3 : Row w3 w1.heap.size #[.string p, .string h, .string d, v] 24) (hold3 : Below w1.heap.size w1 w3) (own' : w3.ownsRow (w1.heap.size + 1) 9 1 kv (rs.length + 1) (rs.map Value.string ++ [.string y])) : DR w1 p h d (rs ++ [y]) kv (w3.setCell ⟨w1.heap.size, 3, none⟩ kv) := by
  refine ⟨hold3.trans ⟨rfl, rfl, rfl, by simp, fun q hq => heap_setCell_other w3 ⟨w1.heap.size, 3, none⟩ q kv (by show q ≠ w1.heap.size; omega)⟩, hr3.setCell (i := 3) kv, ?_⟩
  have := ownsRow_keep (w' := w3.setCell ⟨w1.heap.size, 3, none⟩ kv) own' (fun q hq _ => heap_setCell_other w3 ⟨w1.heap.size, 3, none⟩ q kv (by have := (ownsRow_lt own' q hq).2.1; show q ≠ w1.heap.size; omega))
  rw [List.length_append, List.map_append]
  exact this
theorem ex_le (l : ByteArray) (a b : Nat) : (l.extract a b).size ≤ l.size := by rw [ByteArray.size_extract]; omega
theorem dSt_sz (s : ByteArray) : ∀ k, (dSt s k).h.size ≤ s.size ∧ (dSt s k).d.size ≤ s.size ∧ ∀ r ∈ (dSt s k).rs, r.size ≤ s.size
  | 0 => ⟨Nat.zero_le _, Nat.zero_le _, fun r hr => by cases hr⟩
  | k + 1 => by
    obtain ⟨h1, h2, h3⟩ := dSt_sz s k
    show (dStep s k (dSt s k)).h.size ≤ s.size ∧ (dStep s k (dSt s k)).d.size ≤ s.size ∧ ∀ r ∈ (dStep s k (dSt s k)).rs, r.size ≤ s.size
    unfold dStep
    split
    · generalize hl : s.extract (dSt s k).fro k = l
      have hle : l.size ≤ s.size := by rw [← hl]; exact ex_le _ _ _
      rw [fin_h, fin_d, fin_rs]
      refine ⟨?_, ?_, fun r hr => ?_⟩
      · unfold updH
        split
        · exact Nat.le_trans (ex_le _ _ _) hle
        · exact h1
      · unfold updD updH
        split
        · exact Nat.le_trans (ex_le _ _ _) hle
        · split
          · exact h2
          · exact h2
      · split at hr
        · rcases List.mem_append.1 hr with h | h
          · exact h3 r h
          · rw [List.mem_singleton.1 h]
            exact Nat.le_trans (ex_le _ _ _) hle
        · exact h3 r hr
    · exact ⟨h1, h2, h3⟩
/-- What the document's Read has read. -/
def rdI (p s : ByteArray) : Inf := ⟨p, (dSt s s.size).h, (dSt s s.size).d, (dSt s s.size).rs⟩
/-- Is a text an info's? -/
def goodB (D : ByteArray → Int) (j : Inf) (s : ByteArray) : Bool := may D j && ((⟨(txt j).toArray⟩ : ByteArray).toList == s.toList)
/-- What Read tells. -/
def ReadPost (D : ByteArray → Int) (j : Inf) (s : ByteArray) (w : World) (e : Ending) (w' : World) : Prop :=
  ((goodB D j s = true ∧ ∃ a c, e = .returned (.tuple #[.agg (infV j a c), .int .i64 0]) ∧ InfAt w' j a c) ∨ (goodB D j s = false ∧ e = .returned (.tuple #[.agg info0, .int .i64 10]))) ∧ Below w.heap.size w w'
theorem strs_own {w : World} {B c : Nat} {a : Option Addr} {ns : List ByteArray} (h : w.ownsRow B 9 1 (.slice a ns.length c) ns.length (ns.map Value.string)) (hl : ns.length * 16 ≤ big) (he : ∀ r ∈ ns, r.size ≤ big) : StrsAt w a ns c := by
  have h' := h
  obtain ⟨_, ⟨e1, z1⟩ | ⟨g1, p1, cur1, e1, l1, r1, m1, m2, _⟩⟩ := h
  · simp only [Value.slice.injEq] at e1
    obtain ⟨rfl, _, rfl⟩ := e1
    exact ⟨⟨0, 0, fun h => absurd h (by omega), fun i hi => absurd hi (by omega)⟩, fun _ => ⟨z1, rfl⟩, by omega, by unfold maxLen; omega, hl, he⟩
  · simp only [Value.slice.injEq] at e1
    obtain ⟨rfl, _, rfl⟩ := e1
    refine ⟨⟨g1, 0, fun _ => rfl, fun i hi => ?_⟩, (fun h => nomatch h), m1, m2, hl, he⟩
    rw [Nat.zero_add, h'.cellAt i (by omega), List.getElem?_map, List.getElem?_eq_getElem hi]
    rfl
set_option maxRecDepth 20000 in
set_option maxHeartbeats 16000000 in
theorem rread_ok (w0 : World) (D : ByteArray → Int) (hD : DP w0 D) (p s : ByteArray) (w : World) (hw : Below w0.heap.size w0 w) (hp : p.size ≤ big) (hs : s.size ≤ 1048576) : Calls Tryd.prog 7 #[.string p, .string s] w (ReadPost D (rdI p s) s w) := by
  have HTx : Hid (∀ a c wx, Below w.heap.size w wx → InfAt wx (rdI p s) a c → Calls Tryd.prog 5 #[.agg (infV (rdI p s) a c)] wx (TextPost D (rdI p s) wx)) := fun a c wx hb hi => rtext_ok w0 D hD (rdI p s) a c wx (hw.trans (hb.mono hw.size)) hi
  have HP : Hid (p.size ≤ big) := hp
  have HR4 : Hid (Row (w.alloc (.cells info0 24)) w.heap.size info0 24) := Row.new w _ _
  have HBw : Hid (Below w.heap.size w (w.alloc (.cells info0 24))) := (Below.refl _ _).alloc (Nat.le_refl _) _
  obtain ⟨w1, hw1⟩ : ∃ x, x = w.alloc (.cells info0 24) := ⟨_, rfl⟩
  have hw1' := hw1.symm
  rw [← hw1] at HR4 HBw
  have hi1 : (Tryd.prog.info? 24).map (·.size) = some (#[.string p, .string ⟨#[]⟩, .string ⟨#[]⟩, .slice none 0 0] : Array Value).size := infoI
  have ho1 : (#[.string p, .string ⟨#[]⟩, .string ⟨#[]⟩, .slice none 0 0] : Array Value).all (·.oneCell') = true := by simp [Value.oneCell']
  have HD0 : Hid (DR w1 p ⟨#[]⟩ ⟨#[]⟩ [] (.slice none 0 0) (w1.alloc (.cells #[.string p, .string ⟨#[]⟩, .string ⟨#[]⟩, .slice none 0 0] 24))) := ⟨(Below.refl _ _).alloc (Nat.le_refl _) _, Row.new _ _ _, World.ownsRow_nil _ _ _ _⟩
  clear hw1 hD hw hp
  go_enter Tryd.func7, Tryd.ntmps7
  go_wp2_with (refine wpList_store_new rfl 24 _ _ rfl w1 info0 #[.string p, .string ⟨#[]⟩, .string ⟨#[]⟩, .slice none 0 0] 24 rfl w1.heap.size rfl rfl rfl hi1 rfl ho1 ?_)
  go_loopw [7, 8] (fun fv kv wx => ∃ (k : Nat) (v : Value), kv = .int .i64 k ∧ k ≤ s.size ∧ fv = .int .i64 (dSt s k).fro ∧ Hid (DR w1 p (dSt s k).h (dSt s k).d (dSt s k).rs v wx)) (fun _ kv _ => s.size - (intOf kv).toNat)
  case atStart => exact ⟨0, _, rfl, Nat.zero_le _, rfl, HD0⟩
  case round =>
    obtain ⟨k, v, rfl, hk, rfl, H0⟩ := hrel
    have hbd := dSt_bd s k
    have HNx : Hid (dSt s (k + 1) = dStep s k (dSt s k)) := rfl
    obtain ⟨⟨F, h0, d0, r0⟩, hst⟩ : ∃ st, st = dSt s k := ⟨_, rfl⟩
    rw [← hst] at H0 hbd HNx
    rw [← hst]
    simp only at H0 hbd
    simp only
    obtain ⟨hF, hr⟩ := hbd
    obtain ⟨ra, rc, rfl⟩ := refs_slice H0.out.own
    by_cases hlt : k < s.size
    · clear hst
      have hlt' : (k : Int) < (s.size : Int) := by omega
      have hF' : (F : Int) ≤ (k : Int) := by omega
      by_cases h10 : s[k] = 10
      · have h10' : ((s[k].toNat : Int) == 10) = true := by rw [h10]; rfl
        obtain ⟨l, hl⟩ : ∃ l, l = s.extract F k := ⟨_, rfl⟩
        have HN : Hid (dSt s (k + 1) = { updR l (updD l (updH l ⟨F, h0, d0, r0⟩)) with fro := k + 1 }) := by
          show _ = _
          rw [HNx.out]
          unfold dStep
          rw [if_pos (by rw [List.getElem?_eq_getElem (by rw [bl_len]; exact hlt)]; exact congrArg some h10), ← hl]
        have hl' := hl.symm
        clear hl h10 HNx
        go_upto_region 9 with fail
        go_cut [37] from 14 to 66 (fun v wx => v = .bool (isLine 5 PH l) ∧ Hid (wx = wr))
        case first =>
          by_cases hn : 5 < l.size
          · have hn' : (5 : Int) < (l.size : Int) := by omega
            have hnd : decide (5 < l.size) = true := decide_eq_true hn
            obtain ⟨q, hq⟩ : ∃ q, q = l.extract 0 5 := ⟨_, rfl⟩
            have hq' := hq.symm
            have HI : Hid (isLine 5 PH l = (q.toList == [104, 97, 115, 104, 32])) := by show _ = _; unfold isLine; rw [hnd, ← hq]; rfl
            clear hq
            cases he : (q.toList == [104, 97, 115, 104, 32]) with
            | true =>
              rw [he] at HI
              go_wp2
              go_meet
              exact ⟨by rw [HI.out], rfl⟩
            | false =>
              rw [he] at HI
              go_wp2
              go_meet
              exact ⟨by rw [HI.out], rfl⟩
          · have hn' : ¬ (5 : Int) < (l.size : Int) := by omega
            have HI : Hid (isLine 5 PH l = false) := by show _ = _; unfold isLine; rw [decide_eq_false hn]; rfl
            go_wp2
            go_meet
            exact ⟨by rw [HI.out], rfl⟩
        case rest =>
          obtain ⟨rfl, HW⟩ := hcut
          obtain rfl := HW.out
          clear HW
          go_upto_if 37 with fail
          go_cut [9] from 14 to 66 (fun v9 wx => v9 = .string l ∧ ∃ h1, Hid (h1 = (updH l ⟨F, h0, d0, r0⟩).h) ∧ Hid (DR w1 p h1 d0 r0 (.slice ra r0.length rc) wx))
          case first =>
            cases hb : isLine 5 PH l with
            | true =>
              have hn := isLine_lt hb
              obtain ⟨x, hx⟩ : ∃ x, x = l.extract 5 l.size := ⟨_, rfl⟩
              have q1 := (H0.out.row.cell 1).trans (rfl : _ = some (Value.string h0))
              have f1 := H0.out.row.frozen 1
              have HD1 : Hid _ := H0.out.setH x
              have HU : Hid (x = (updH l ⟨F, h0, d0, r0⟩).h) := by show _ = _; unfold updH; rw [hb]; exact hx
              have hx' := hx.symm
              clear hx hb
              go_wp2
              go_meet
              exact ⟨rfl, x, HU, HD1⟩
            | false =>
              have HU : Hid (h0 = (updH l ⟨F, h0, d0, r0⟩).h) := by show _ = _; unfold updH; rw [hb]; rfl
              clear hb
              go_wp2
              go_meet
              exact ⟨rfl, h0, HU, H0⟩
          case rest =>
            obtain ⟨rfl, h1, HU1, H1⟩ := hcut
            obtain ⟨w2, hw2⟩ : ∃ x, x = wc := ⟨_, rfl⟩
            rw [← hw2] at H1
            rw [← hw2]
            clear hw2 H0
            go_upto_region 11 with fail
            go_cut [48] from 14 to 66 (fun v wx => v = .bool (isLine 8 PD l) ∧ Hid (wx = w2))
            case first =>
              by_cases hn : 8 < l.size
              · have hn' : (8 : Int) < (l.size : Int) := by omega
                have hnd : decide (8 < l.size) = true := decide_eq_true hn
                obtain ⟨q, hq⟩ : ∃ q, q = l.extract 0 8 := ⟨_, rfl⟩
                have hq' := hq.symm
                have HI : Hid (isLine 8 PD l = (q.toList == [100, 101, 114, 105, 118, 101, 114, 32])) := by show _ = _; unfold isLine; rw [hnd, ← hq]; rfl
                clear hq
                cases he : (q.toList == [100, 101, 114, 105, 118, 101, 114, 32]) with
                | true =>
                  rw [he] at HI
                  go_wp2
                  go_meet
                  exact ⟨by rw [HI.out], rfl⟩
                | false =>
                  rw [he] at HI
                  go_wp2
                  go_meet
                  exact ⟨by rw [HI.out], rfl⟩
              · have hn' : ¬ (8 : Int) < (l.size : Int) := by omega
                have HI : Hid (isLine 8 PD l = false) := by show _ = _; unfold isLine; rw [decide_eq_false hn]; rfl
                go_wp2
                go_meet
                exact ⟨by rw [HI.out], rfl⟩
            case rest =>
              obtain ⟨rfl, HW⟩ := hcut
              obtain rfl := HW.out
              clear HW
              go_upto_if 48 with fail
              go_cut [9] from 14 to 66 (fun v9 wx => v9 = .string l ∧ ∃ d1, Hid (d1 = (updD l (updH l ⟨F, h0, d0, r0⟩)).d) ∧ Hid (DR w1 p h1 d1 r0 (.slice ra r0.length rc) wx))
              case first =>
                cases hb : isLine 8 PD l with
                | true =>
                  have hn := isLine_lt hb
                  obtain ⟨x, hx⟩ : ∃ x, x = l.extract 8 l.size := ⟨_, rfl⟩
                  have q1 := (H1.out.row.cell 2).trans (rfl : _ = some (Value.string d0))
                  have f1 := H1.out.row.frozen 2
                  have HD1 : Hid _ := H1.out.setD x
                  have HU : Hid (x = (updD l (updH l ⟨F, h0, d0, r0⟩)).d) := by show _ = _; unfold updD; rw [hb]; exact hx
                  have hx' := hx.symm
                  clear hx hb
                  go_wp2
                  go_meet
                  exact ⟨rfl, x, HU, HD1⟩
                | false =>
                  have HU : Hid (d0 = (updD l (updH l ⟨F, h0, d0, r0⟩)).d) := by show _ = _; unfold updD updH; rw [hb]; cases isLine 5 PH l <;> rfl
                  clear hb
                  go_wp2
                  go_meet
                  exact ⟨rfl, d0, HU, H1⟩
              case rest =>
                obtain ⟨rfl, d1, HU2, H⟩ := hcut
                obtain ⟨w4, hw4⟩ : ∃ x, x = wc := ⟨_, rfl⟩
                rw [← hw4] at H
                rw [← hw4]
                clear hw4 H1
                go_upto_region 13 with fail
                go_cut [59] from 14 to 66 (fun v wx => v = .bool (isLine 4 PR l) ∧ Hid (wx = w4))
                case first =>
                  by_cases hn : 4 < l.size
                  · have hn' : (4 : Int) < (l.size : Int) := by omega
                    have hnd : decide (4 < l.size) = true := decide_eq_true hn
                    obtain ⟨q, hq⟩ : ∃ q, q = l.extract 0 4 := ⟨_, rfl⟩
                    have hq' := hq.symm
                    have HI : Hid (isLine 4 PR l = (q.toList == [114, 101, 102, 32])) := by show _ = _; unfold isLine; rw [hnd, ← hq]; rfl
                    clear hq
                    cases he : (q.toList == [114, 101, 102, 32]) with
                    | true =>
                      rw [he] at HI
                      go_wp2
                      go_meet
                      exact ⟨by rw [HI.out], rfl⟩
                    | false =>
                      rw [he] at HI
                      go_wp2
                      go_meet
                      exact ⟨by rw [HI.out], rfl⟩
                  · have hn' : ¬ (4 : Int) < (l.size : Int) := by omega
                    have HI : Hid (isLine 4 PR l = false) := by show _ = _; unfold isLine; rw [decide_eq_false hn]; rfl
                    go_wp2
                    go_meet
                    exact ⟨by rw [HI.out], rfl⟩
                case rest =>
                  obtain ⟨rfl, HW⟩ := hcut
                  obtain rfl := HW.out
                  clear HW
                  cases hb : isLine 4 PR l with
                  | true =>
                    have hn := isLine_lt hb
                    have HbR : Hid (isLine 4 PR l = true) := hb
                    obtain ⟨y, hy⟩ : ∃ y, y = l.extract 4 l.size := ⟨_, rfl⟩
                    have HY : Hid _ := hy
                    have hy' := hy.symm
                    clear hb hy
                    go_upto_region 14 with fail
                    have hS0 : Row wc.drew w1.heap.size #[.string p, .string h1, .string d1, .slice ra r0.length rc] 24 ∧ Below w1.heap.size w1 wc.drew := ⟨(H.out.drew).row, (H.out.drew).old⟩
                    refine wp_region_perm [(false, 0), (false, 1), (false, 2), (false, 3), (true, 4), (true, 5), (false, 6), (true, 7)] (fun wx => Row wx w1.heap.size #[.string p, .string h1, .string d1, .slice ra r0.length rc] 24 ∧ Below w1.heap.size w1 wx) (by kernel_rfl) (by kernel_rfl) hS0 ?_
                    refine p_value (some 60) ?_ rfl rfl (by rfl) (fun w hw => ?_) ?_
                    rotate_left
                    · go_simp
                      with_reducible rfl
                    simp only [Act.put, List.setIfInBounds_toArray, List.set_cons_zero, List.set_cons_succ]
                    refine p_value (some 61) ?_ rfl rfl (by rfl) (fun w hw => ?_) ?_
                    rotate_left
                    · have hc := (hw.1.cell 3).trans (rfl : _ = some (Value.slice ra r0.length rc))
                      go_simp
                      with_reducible rfl
                    simp only [Act.put, List.setIfInBounds_toArray, List.set_cons_zero, List.set_cons_succ]
                    refine p_move (some 62) _ rfl rfl rfl (by rfl) ?_
                    simp only [Act.put, List.setIfInBounds_toArray, List.set_cons_zero, List.set_cons_succ]
                    have hn4 : ¬ (l.size : Int) < 4 := by omega
                    refine p_value (some 63) (.string y) rfl rfl (by rfl) (fun w hw => ?_) ?_
                    · go_simp
                    simp only [Act.put, List.setIfInBounds_toArray, List.set_cons_zero, List.set_cons_succ]
                    have hba : Below wc.drew.heap.size wc.drew (wc.drew.alloc (.cells #[.string y] 9)) := (Below.refl _ _).alloc (Nat.le_refl _) _
                    have hS2 : Row (wc.drew.alloc (.cells #[.string y] 9)) w1.heap.size #[.string p, .string h1, .string d1, .slice ra r0.length rc] 24 ∧ Below w1.heap.size w1 (wc.drew.alloc (.cells #[.string y] 9)) := ⟨hS0.1.below hba hS0.1.lt, hS0.2.trans (hba.mono hS0.2.size)⟩
                    refine p_alone (some 64) (.slice (some ⟨wc.heap.size, 0, none⟩) 1 1) (wc.drew.alloc (.cells #[.string y] 9)) rfl rfl (by rfl) (by kernel_rfl) (fun _ => hS2) ?_
                    simp only [Act.put, List.setIfInBounds_toArray, List.set_cons_zero, List.set_cons_succ]
                    have hown2 := own_belowR (H.out.drew).own hba
                    refine p_wp rfl (by rfl) ?_
                    refine wp_append_any (some 65) rfl (.tmp 61) (.tmp 64) 22 9 (.string ⟨#[]⟩) 1 16 Tryd.underlying22 Try.info9 rfl (by decide) rfl (w1.heap.size + 1) _ r0.length _ rfl hown2 (some ⟨wc.heap.size, 0, none⟩) wc.heap.size 0 1 1 [.string y] (by simp) rfl (fun _ => rfl) (fun j u hj => by
                      rw [Nat.zero_add]
                      show (wc.drew.alloc (.cells #[.string y] 9)).cell? ⟨wc.drew.heap.size, j, none⟩ = some u
                      rw [(Row.new wc.drew #[.string y] 9).cell j, ← Array.getElem?_toList]
                      exact hj) (fun u hu => by rw [List.mem_singleton.1 hu]; rfl) (fun h => nomatch h) (by unfold maxLen; omega) (by omega) (Nat.le_trans hS0.1.lt hba.size) ?_
                    intro kv' w3 own' grow' hor'
                    have hr3 : Row w3 w1.heap.size #[.string p, .string h1, .string d1, .slice ra r0.length rc] 24 := row_grownR hown2 grow' hS2.1 (by decide)
                    have hold3 : Below w1.heap.size w1 w3 := old_grown hown2 hS2.2 hS2.2.size grow'
                    refine ⟨fun _ => ⟨hr3, hold3⟩, ?_⟩
                    have HA : Hid (DR w1 p h1 d1 (r0 ++ [y]) kv' (w3.setCell ⟨w1.heap.size, 3, none⟩ kv')) := dr_set hr3 hold3 own'
                    obtain ⟨ra3, rc3, rfl⟩ := refs_slice own'
                    clear own' grow' hor' hown2 hS2 hba
                    simp only [Act.put, List.setIfInBounds_toArray, List.set_cons_zero, List.set_cons_succ]
                    refine p_value (some 66) ?_ rfl rfl (by rfl) (fun w hw => ?_) ?_
                    rotate_left
                    · go_simp
                      with_reducible rfl
                    simp only [Act.put, List.setIfInBounds_toArray, List.set_cons_zero, List.set_cons_succ]
                    have q4 := (hr3.cell 3).trans (rfl : _ = some (Value.slice ra r0.length rc))
                    have f4 := hr3.frozen 3
                    refine p_store (w3.setCell ⟨w1.heap.size, 3, none⟩ (.slice ra3 (r0.length + 1) rc3)) rfl rfl (by rfl) (by go_simp) (fun h => absurd rfl h) ?_
                    refine p_done ?_
                    try simp only [Exit.then]
                    clear q4 f4 hr3 hold3 hS0
                    go_wp2
                    go_roundw
                    case rel => exact ⟨k + 1, _, by go_num, by omega, by rw [HN.out]; exact congrArg (Value.int .i64) (by show (k : Int) + 1 = ((k + 1 : Nat) : Int); omega), by rw [HN.out, fin_h, fin_d, fin_rs, ← HU1.out, ← HU2.out, HbR.out, if_pos rfl, ← HY.out]; exact HA⟩
                    case measure => simp [intOf]; omega
                  | false =>
                    have HbR : Hid (isLine 4 PR l = false) := hb
                    clear hb
                    go_wp2
                    go_roundw
                    case rel => exact ⟨k + 1, _, by go_num, by omega, by rw [HN.out]; exact congrArg (Value.int .i64) (by show (k : Int) + 1 = ((k + 1 : Nat) : Int); omega), by rw [HN.out, fin_h, fin_d, fin_rs, ← HU1.out, ← HU2.out, HbR.out]; exact H⟩
                    case measure => simp [intOf]; omega
      · have h10' : ((s[k].toNat : Int) == 10) = false := by
          simp only [beq_eq_false_iff_ne]
          exact fun e => h10 (UInt8.toNat_inj.1 (by simpa using (by omega : s[k].toNat = 10)))
        have HN : Hid (dSt s (k + 1) = ⟨F, h0, d0, r0⟩) := by
          show _ = _
          rw [HNx.out]
          unfold dStep
          rw [if_neg (by rw [List.getElem?_eq_getElem (by rw [bl_len]; exact hlt)]; exact fun e => h10 (Option.some.inj e))]
        clear h10 HNx
        go_wp2
        go_roundw
        case rel => exact ⟨k + 1, _, by go_num, by omega, by rw [HN.out], by rw [HN.out]; exact H0⟩
        case measure => simp [intOf]; omega
    · have hlt' : ¬ (k : Int) < (s.size : Int) := by omega
      obtain rfl : k = s.size := by omega
      have hsz := dSt_sz s s.size
      rw [← hst] at hsz
      simp only at hsz
      have HJ : Hid (rdI p s = ⟨p, h0, d0, r0⟩) := by show _ = _; unfold rdI; rw [← hst]
      have HIn : Hid (InfAt wr ⟨p, h0, d0, r0⟩ ra rc) := ⟨strs_own H0.out.own (by simp only [big]; omega) (fun r hr => by have := hsz.2.2 r hr; simp only [big]; omega), HP.out, by have := hsz.1; show h0.size ≤ big; simp only [big]; omega, by have := hsz.2.1; show d0.size ≤ big; simp only [big]; omega⟩
      rw [HJ.out] at HTx
      have HBr : Hid (Below w.heap.size w wr) := HBw.out.trans (H0.out.old.mono HBw.out.size)
      have htx := HTx.out ra rc wr HBr.out HIn.out
      have HR4r : Hid (∀ wx, Below wr.heap.size wr wx → Row wx w.heap.size info0 24) := fun wx hx => Row.below HR4.out (H0.out.old.trans (hx.mono H0.out.old.size)) (Row.lt HR4.out)
      have HR6r : Hid (∀ wx, Below wr.heap.size wr wx → Row wx w1.heap.size (infV ⟨p, h0, d0, r0⟩ ra rc) 24) := fun wx hx => Row.below H0.out.row hx (Row.lt H0.out.row)
      have HR6 : Hid _ := H0.out.row
      have hne : w.heap.size ≠ w1.heap.size := by have := Row.lt HR4.out; omega
      have HIs : Hid (∀ wx C, Below wr.heap.size wr wx → InfAt (wx.setRow w.heap.size C) ⟨p, h0, d0, r0⟩ ra rc) := fun wx C hx => ⟨strs_own (ownsRow_keep (own_belowR H0.out.own hx) (fun q hq _ => setRow_other wx w.heap.size q C (by have := (ownsRow_lt (own_belowR H0.out.own hx) q hq).2.1; have := Row.lt HR4.out; omega))) HIn.out.refs.len HIn.out.refs.each, HIn.out.path, HIn.out.hash, HIn.out.der⟩
      clear hsz hst HNx hF hr
      generalize hJ : (⟨p, h0, d0, r0⟩ : Inf) = J at *
      cases hm : may D J with
      | false =>
        have HG : Hid (goodB D J s = false) := by show _ = _; unfold goodB; rw [hm]; rfl
        go_wp2_with (refine wpList_load_row rfl 24 _ rfl w1.heap.size rfl 24 (infV J ra rc) (0, 0) _ (HR6r.out wr (Below.refl _ _)) Tryd.underlying24 rfl (infV_size J ra rc) ?_)
        refine htx.mono ?_
        rintro e w2 ⟨rfl, hb2⟩
        rw [hm]
        simp only [Bool.false_eq_true, if_false]
        have HR42 : Hid _ := HR4r.out w2 hb2
        have HBE : Hid _ := below_setRow (HBr.out.trans (hb2.mono HBr.out.size)) (Nat.le_refl _) info0
        clear htx hb2 hm
        go_wp2_with (refine wpList_store_row rfl 24 _ _ rfl w.heap.size info0 rfl rfl 24 info0 HR42.out infoI rfl info0_one ?_)
        exact bodyPost_ret (results_cell_row2 resRead _ _ w.heap.size 24 info0 (0, 0) _ rfl (Row.setRow HR42.out) Tryd.underlying24 rfl infoI) rfl ⟨.inr ⟨by rw [HJ.out]; exact HG.out, rfl⟩, HBE.out⟩
      | true =>
        obtain ⟨T, hT⟩ : ∃ T : ByteArray, T = ⟨(txt J).toArray⟩ := ⟨_, rfl⟩
        have HGe : Hid (goodB D J s = (T.toList == s.toList)) := by show _ = _; unfold goodB; rw [hm, hT]; rfl
        cases hE : (T.toList == s.toList) with
        | true =>
          have HG : Hid _ := HGe.out.trans hE
          go_wp2_with (refine wpList_load_row rfl 24 _ rfl w1.heap.size rfl 24 (infV J ra rc) (0, 0) _ (HR6r.out wr (Below.refl _ _)) Tryd.underlying24 rfl (infV_size J ra rc) ?_)
          refine htx.mono ?_
          rintro e w2 ⟨rfl, hb2⟩
          rw [hm]
          simp only [if_true]
          rw [← hT]
          have HR42 : Hid _ := HR4r.out w2 hb2
          have HR62 : Hid _ := HR6r.out w2 hb2
          have HBE : Hid _ := below_setRow (HBr.out.trans (hb2.mono HBr.out.size)) (Nat.le_refl _) (infV J ra rc)
          have HIS : Hid (InfAt (w2.setRow w.heap.size (infV J ra rc)) J ra rc) := HIs.out w2 _ hb2
          clear htx hb2 hm hT
          go_wp2_with (first
            | refine wpList_load_row rfl 24 _ rfl w1.heap.size rfl 24 (infV J ra rc) (0, 0) _ HR62.out Tryd.underlying24 rfl (infV_size J ra rc) ?_
            | refine wpList_store_row rfl 24 _ _ rfl w.heap.size (infV J ra rc) rfl rfl 24 info0 HR42.out (infV_size J ra rc) rfl (infV_one J ra rc) ?_)
          exact bodyPost_ret (results_cell_row2 resRead _ _ w.heap.size 24 (infV J ra rc) (0, 0) _ rfl (Row.setRow HR42.out) Tryd.underlying24 rfl (infV_size J ra rc)) rfl ⟨.inl ⟨by rw [HJ.out]; exact HG.out, ra, rc, by rw [HJ.out]; rfl, by rw [HJ.out]; exact HIS.out⟩, HBE.out⟩
        | false =>
          have HG : Hid _ := HGe.out.trans hE
          go_wp2_with (refine wpList_load_row rfl 24 _ rfl w1.heap.size rfl 24 (infV J ra rc) (0, 0) _ (HR6r.out wr (Below.refl _ _)) Tryd.underlying24 rfl (infV_size J ra rc) ?_)
          refine htx.mono ?_
          rintro e w2 ⟨rfl, hb2⟩
          rw [hm]
          simp only [if_true]
          rw [← hT]
          have HR42 : Hid _ := HR4r.out w2 hb2
          have HBE : Hid _ := below_setRow (HBr.out.trans (hb2.mono HBr.out.size)) (Nat.le_refl _) info0
          clear htx hb2 hm hT
          go_wp2_with (refine wpList_store_row rfl 24 _ _ rfl w.heap.size info0 rfl rfl 24 info0 HR42.out infoI rfl info0_one ?_)
          exact bodyPost_ret (results_cell_row2 resRead _ _ w.heap.size 24 info0 (0, 0) _ rfl (Row.setRow HR42.out) Tryd.underlying24 rfl infoI) rfl ⟨.inr ⟨by rw [HJ.out]; exact HG.out, rfl⟩, HBE.out⟩
end Go.Proofs.YthidlckipiamkaaDoor
