/- The walk of the document's own After. -/
import Derived.Test.YtpdcmhfmicemnaaRefNew
namespace Go.Proofs.Ytpdcmhfmicemnaa
open Go.RowKit

def Rk.ev (R : Rk) (i : Nat) : Rv := R.L.getD i ⟨-1, ⟨#[]⟩⟩
/-- The last flush among the first k events; 0 if there is none. -/
def lastR (R : Rk) : Nat → Nat
  | 0 => 0
  | k + 1 => if (R.ev k).n < 0 then k else lastR R k
theorem lastR_le (R : Rk) (k : Nat) : lastR R k ≤ k := by
  induction k with
  | zero => exact Nat.le_refl _
  | succ k ih => unfold lastR; split <;> omega
/-- The texts, and how many later writes were looked at, behind the first i events. -/
def refA (R : Rk) (last klen : Nat) (kf : Nat → Bool) : Nat → List ByteArray × Nat
  | 0 => (R.F, 0)
  | i + 1 =>
    let p := refA R last klen kf i
    if (R.ev i).n < 0 then p
    else if i < last then (p.1.set (R.ev i).n.toNat (R.ev i).t, p.2)
    else (if keptB klen kf p.2 then p.1.set (R.ev i).n.toNat (R.ev i).t else p.1, p.2 + 1)
theorem refA_len (R : Rk) (last klen : Nat) (kf : Nat → Bool) (i : Nat) : (refA R last klen kf i).1.length = R.F.length ∧ (refA R last klen kf i).2 ≤ i := by
  induction i with
  | zero => exact ⟨rfl, Nat.le_refl _⟩
  | succ i ih =>
    simp only [refA]
    split
    · exact ⟨ih.1, by omega⟩
    · split
      · exact ⟨by simp [ih.1], by show (refA R last klen kf i).2 ≤ i + 1; omega⟩
      · refine ⟨?_, by show (refA R last klen kf i).2 + 1 ≤ i + 1; omega⟩
        split
        · simp [ih.1]
        · exact ih.1

theorem refAfter_bad {w : World} {base g : Nat} {fv lv : Value} {R : Rk} (h : RefAt w base g fv lv R) (k : Int) (hk : k < 0 ∨ (R.L.length : Int) < k) (K : Value) :
    Calls Try.prog 16 #[.pointer (some ⟨g, 0, none⟩), .int .i64 k, K] w fun e w' => e = .returned (.tuple #[.pointer none, .int .i64 2]) ∧ w' = w := by
  have hc := (h.row.cell 1).trans (rfl : _ = some lv)
  obtain ⟨a, c, rfl, _⟩ := own_slice h.evs
  generalize R.L.length = n at *
  clear h
  by_cases hk0 : k < 0
  · clear hk
    go_enter Try.func16, Try.ntmps16
    go_wp2
    go_ret2
    exact ⟨rfl, rfl⟩
  · have hk1 : (n : Int) < k := by omega
    clear hk
    go_enter Try.func16, Try.ntmps16
    go_wp2
    go_ret2
    exact ⟨rfl, rfl⟩

theorem RefAt.evAt {w : World} {base g gl c n : Nat} {fv : Value} {R : Rk} (h : RefAt w base g fv (.slice (some ⟨gl, 0, none⟩) n c) R) (i : Nat) (hi : i < R.L.length) : w.cell? ⟨gl, i * 2, none⟩ = some (.int .i64 (R.ev i).n) ∧ w.cell? ⟨gl, i * 2 + 1, none⟩ = some (.string (R.ev i).t) := by
  have hev : R.L[i]? = some (R.ev i) := by simp [Rk.ev, List.getD, List.getElem?_eq_getElem hi]
  obtain ⟨e1, e2⟩ := rvCells_at R.L i _ hev
  obtain ⟨_, hn, _⟩ := ownsRow_slice h.evs
  have he := h.evs
  rw [hn] at he
  exact ⟨(he.cellAt (i * 2) (by omega)).trans e1, (he.cellAt (i * 2 + 1) (by omega)).trans e2⟩

theorem ownsRow_set {w : World} {base g c n : Nat} {e : TypeId} {xs : List Value} (h : w.ownsRow base e 1 (.slice (some ⟨g, 0, none⟩) n c) n xs) (j : Nat) (v : Value) : (w.setCell ⟨g, j, none⟩ v).ownsRow base e 1 (.slice (some ⟨g, 0, none⟩) n c) n (xs.set j v) := by
  have hl := h.1
  obtain ⟨h1, _, h3, h4, cur, hr, hs, ht⟩ := ownsRow_slice h
  refine ⟨by rw [List.length_set]; exact hl, .inr ⟨g, c, _, rfl, h1, hr.setCell (i := j) v, h3, h4, by simpa using hs, ?_⟩⟩
  rw [Array.toList_setIfInBounds, List.take_set, ht]

theorem map_set (l : List ByteArray) (j : Nat) (t : ByteArray) : (l.map Value.string).set j (.string t) = (l.set j t).map Value.string := by
  rw [List.map_set]

set_option maxRecDepth 20000 in
set_option maxHeartbeats 4000000 in
theorem refAfter_ok {w : World} {base g : Nat} {fv lv : Value} {R : Rk} (h : RefAt w base g fv lv R) (k : Nat) (hk : k ≤ R.L.length) (hL : R.L.length ≤ 1000000) (hF0 : 1 ≤ R.F.length) (hF : R.F.length ≤ 1000000) (hok : ∀ i, i < k → (R.ev i).n < 0 ∨ (0 ≤ (R.ev i).n ∧ (R.ev i).n < R.F.length))
    (ka : Option Addr) (kb koff klen kcap : Nat) (kf : Nat → Bool) (hK : Bl w ka kb koff klen kf) (hkl : klen ≤ 140737488351232) :
    Calls Try.prog 16 #[.pointer (some ⟨g, 0, none⟩), .int .i64 k, .slice ka klen kcap] w fun e w' => ∃ g' fv', e = .returned (.tuple #[.pointer (some ⟨g', 0, none⟩), .int .i64 0]) ∧
      RefAt w' w.heap.size g' fv' (.slice none 0 0) ⟨(refA R (lastR R k) klen kf k).1, []⟩ ∧ Below w.heap.size w w' := by
  obtain ⟨i0, hi, hz0, hz1, hz2⟩ := info_parts Try.info9
  have c0 := (h.row.cell 0).trans (rfl : _ = some fv)
  have c1 := (h.row.cell 1).trans (rfl : _ = some lv)
  obtain ⟨la, lc, rfl, hla⟩ := own_slice h.evs
  obtain ⟨fa, fc, rfl, hfa⟩ := own_slice h.first
  obtain ⟨gf, rfl⟩ := hfa (by omega)
  have HR : Hid _ := h
  have hb1 : Below w.heap.size w (w.alloc (.cells #[] 9)) := (Below.refl _ _).alloc (Nat.le_refl _) _
  have own0 : (w.alloc (.cells #[] 9)).ownsRow w.heap.size 9 1 (.slice (some ⟨w.heap.size, 0, none⟩) 0 0) 0 [] := World.ownsRow_lit (base := w.heap.size) (e := 9) (size := 1) w #[] 0 (Nat.le_refl _) (by decide) rfl
  have hnews : ∀ j u, (R.F.map Value.string)[j]? = some u → (w.alloc (.cells #[] 9)).cell? ((⟨gf, 0, none⟩ : Addr).add j) = some u := fun j u hj => by
    have hj' : j < R.F.length := by simpa using (List.getElem?_eq_some_iff.1 hj).1
    rw [Addr.add_mid, Nat.zero_add, (ownsRow_below h.first hb1).cellAt j (by omega), hj]
  have d0 := ((h.below hb1).row.cell 0).trans (rfl : _ = some (Value.slice (some ⟨gf, 0, none⟩) R.F.length fc))
  have HN : Hid _ := hnews
  clear h hnews
  go_enter Try.func16, Try.ntmps16
  go_wp2_with (at_builtin; refine wpList_append_own_wide _ rfl (.tmp 25) (.tmp 29) 51 rfl w.heap.size 9 i0 (.string ⟨#[]⟩) 1 16 Try.underlying51 hi hz0 hz1 hz2 rfl (by decide) _ 0 [] rfl own0 ⟨gf, 0, none⟩ R.F.length fc (R.F.map Value.string) rfl (by simp) HN.out (fun u hu => by simp at hu; obtain ⟨_, _, rfl⟩ := hu; rfl) (by unfold maxLen; omega) (by omega) (by simp) ?_)
  intro fv' w2 own2 grow2 _
  have own2' : w2.ownsRow w.heap.size 9 1 fv' R.F.length (R.F.map Value.string) := by simpa using own2
  have hb2 : Below w.heap.size w w2 := own_grown own0 hb1 (by simp) grow2
  have hs2 := hb2.size
  obtain ⟨fx, fcx, rfl, hfx⟩ := own_slice own2'
  obtain ⟨gn, rfl⟩ := hfx (by omega)
  have hb3 : Below w.heap.size w (w2.alloc (.cells #[.slice (some ⟨gn, 0, none⟩) R.F.length fcx, .slice none 0 0] 60)) := hb2.alloc hs2 _
  have own3 := own2'.alloc (.cells #[.slice (some ⟨gn, 0, none⟩) R.F.length fcx, .slice none 0 0] 60)
  have hG3 := Row.new w2 #[.slice (some ⟨gn, 0, none⟩) R.F.length fcx, .slice none 0 0] 60
  have HO3 : Hid _ := own3
  have HG3 : Hid _ := hG3
  clear own2 own2' grow2 own0 hb1 own3 hG3 HN c0 d0 hfx hfa
  have hq1 : ¬ ((R.L.length : Int) < k) := by omega
  go_wp2
  go_loopw [9, 10] (fun lv iv wq => ∃ i : Nat, i ≤ k ∧ iv = .int .i64 i ∧ lv = .int .i64 (lastR R i) ∧ wq = w2.alloc (.cells #[.slice (some ⟨gn, 0, none⟩) R.F.length fcx, .slice none 0 0] 60)) (fun _ iv _ => k - (intOf iv).toNat)
  case atStart => exact ⟨0, Nat.zero_le _, rfl, rfl, rfl⟩
  case round =>
    obtain ⟨i, hi', rfl, rfl, rfl⟩ := hrel
    by_cases hlt : i < k
    · obtain ⟨gl, rfl⟩ := hla (by omega)
      have hR3 := HR.out.below hb3
      obtain ⟨e1, _⟩ := hR3.evAt i (by omega)
      have cL := (hR3.row.cell 1).trans (rfl : _ = some (Value.slice (some ⟨gl, 0, none⟩) R.L.length lc))
      have hst : lastR R (i + 1) = if (R.ev i).n < 0 then i else lastR R i := rfl
      have HST : Hid _ := hst
      have hiL : i < R.L.length := by omega
      clear hst hR3
      by_cases hneg : (R.ev i).n < 0
      · go_wp2
        go_roundw
        case rel => exact ⟨i + 1, by omega, by go_num, by rw [show lastR R (i + 1) = _ from HST.out, if_pos hneg], by first | rfl | trivial⟩
        case measure => simp [intOf]; omega
      · go_wp2
        go_roundw
        case rel => exact ⟨i + 1, by omega, by go_num, by rw [show lastR R (i + 1) = _ from HST.out, if_neg hneg], by first | rfl | trivial⟩
        case measure => simp [intOf]; omega
    · have hik : k = i := by omega
      subst hik
      have hll := lastR_le R k
      generalize hlast : lastR R k = last at *
      have HLA : Hid _ := hlast
      clear hlast
      generalize w2.alloc (.cells #[.slice (some ⟨gn, 0, none⟩) R.F.length fcx, .slice none 0 0] 60) = W3 at *
      go_wp2
      go_loopw [11, 12] (fun kv iv wq => ∃ i : Nat, i ≤ k ∧ iv = .int .i64 i ∧ kv = .int .i64 (refA R last klen kf i).2 ∧ Hid (wq.ownsRow w.heap.size 9 1 (.slice (some ⟨gn, 0, none⟩) R.F.length fcx) R.F.length ((refA R last klen kf i).1.map Value.string)) ∧ Hid (Row wq w2.heap.size #[.slice (some ⟨gn, 0, none⟩) R.F.length fcx, .slice none 0 0] 60) ∧ Below w.heap.size w wq) (fun _ iv _ => k - (intOf iv).toNat)
      case atStart => exact ⟨0, Nat.zero_le _, rfl, rfl, HO3, HG3, hb3⟩
      case round =>
        obtain ⟨i, hi', rfl, rfl, hO, hG, hb⟩ := hrel
        by_cases hlt : i < k
        · obtain ⟨gl, rfl⟩ := hla (by omega)
          have hRr := HR.out.below hb
          have hiL : i < R.L.length := by omega
          obtain ⟨e1, e2⟩ := hRr.evAt i hiL
          have cL := (hRr.row.cell 1).trans (rfl : _ = some (Value.slice (some ⟨gl, 0, none⟩) R.L.length lc))
          have cG := (Row.cell hG.out 0).trans (rfl : _ = some (Value.slice (some ⟨gn, 0, none⟩) R.F.length fcx))
          have hO0 : wr.ownsRow w.heap.size 9 1 (.slice (some ⟨gn, 0, none⟩) R.F.length fcx) R.F.length ((refA R last klen kf i).1.map Value.string) := hO
          have hlenA := refA_len R last klen kf i
          clear hRr
          by_cases hneg : (R.ev i).n < 0
          · have hst : refA R last klen kf (i + 1) = refA R last klen kf i := by simp only [refA]; rw [if_pos hneg]
            have HST : Hid _ := hst
            clear hst
            go_wp2
            go_roundw
            case rel => exact ⟨i + 1, by omega, by go_num, by rw [show refA R last klen kf (i + 1) = _ from HST.out], by rw [show refA R last klen kf (i + 1) = _ from HST.out]; exact hO, hG, hb⟩
            case measure => simp [intOf]; omega
          · obtain ⟨nn, hnn⟩ : ∃ nn : Nat, (R.ev i).n = nn := ⟨(R.ev i).n.toNat, by omega⟩
            have hnF : nn < R.F.length := by
              rcases hok i hlt with h | h <;> omega
            obtain ⟨hge, _, _, _, cur, hcur, _⟩ := ownsRow_slice hO0
            have hcx : wr.cell? ⟨gn, nn, none⟩ = some (.string ((refA R last klen kf i).1.getD nn ⟨#[]⟩)) := by
              rw [hO0.cellAt nn (by omega)]
              have : nn < (refA R last klen kf i).1.length := by omega
              simp [List.getD, List.getElem?_eq_getElem this]
            have hfz := hcur.frozen nn
            have hO5 := ownsRow_set hO0 nn (.string (R.ev i).t)
            rw [map_set] at hO5
            have HO5 : Hid _ := hO5
            have HG5 : Hid (Row (wr.setCell ⟨gn, nn, none⟩ (.string (R.ev i).t)) w2.heap.size #[.slice (some ⟨gn, 0, none⟩) R.F.length fcx, .slice none 0 0] 60) := Row.setCell_other hG.out (row_ne hG.out hcur (by decide)) _
            have hb5 : Below w.heap.size w (wr.setCell ⟨gn, nn, none⟩ (.string (R.ev i).t)) := hb.setCell hge _
            rw [hnn] at e1
            have hneg' : ¬ ((nn : Int) < 0) := by omega
            clear hO5 hcur hge
            generalize hsl : (refA R last klen kf i).1.getD nn ⟨#[]⟩ = st at *
            by_cases hil : i < last
            · have hst : refA R last klen kf (i + 1) = ((refA R last klen kf i).1.set nn (R.ev i).t, (refA R last klen kf i).2) := by simp only [refA]; rw [if_neg hneg, if_pos hil, hnn]; rfl
              have HST : Hid _ := hst
              clear hst
              go_wp2_with fail
              refine wp_region_perm [(false, 0), (false, 1), (false, 2), (false, 3), (false, 4), (false, 5), (false, 6), (false, 7), (false, 8), (false, 9), (false, 10), (false, 11), (false, 12), (false, 13), (false, 14), (false, 15), (false, 16), (false, 17), (false, 18), (false, 19), (true, 20), (true, 21)] (fun wx => wx.cell? ⟨w2.heap.size, 0, none⟩ = some (.slice (some ⟨gn, 0, none⟩) R.F.length fcx) ∧ wx.cell? ⟨g, 1, none⟩ = some (.slice (some ⟨gl, 0, none⟩) R.L.length lc) ∧ wx.cell? ⟨gl, i * 2, none⟩ = some (.int .i64 nn) ∧ wx.cell? ⟨gl, i * 2 + 1, none⟩ = some (.string (R.ev i).t)) (by kernel_rfl) (by kernel_rfl) ⟨cG, cL, e1, e2⟩ ?_
              refine p_move (some 80) _ rfl rfl rfl (by rfl) ?_
              simp only [Act.put, List.setIfInBounds_toArray, List.set_cons_zero, List.set_cons_succ]
              refine p_value (some 81) ?_ rfl rfl (by rfl) (fun w hw => ?_) ?_
              rotate_left
              · go_simp
                with_reducible rfl
              simp only [Act.put, List.setIfInBounds_toArray, List.set_cons_zero, List.set_cons_succ]
              refine p_value (some 82) ?_ rfl rfl (by rfl) (fun w hw => ?_) ?_
              rotate_left
              · go_simp
                with_reducible rfl
              simp only [Act.put, List.setIfInBounds_toArray, List.set_cons_zero, List.set_cons_succ]
              refine p_value (some 83) ?_ rfl rfl (by rfl) (fun w hw => ?_) ?_
              rotate_left
              · obtain ⟨s1, s2, s3, s4⟩ := hw
                go_simp
                with_reducible rfl
              simp only [Act.put, List.setIfInBounds_toArray, List.set_cons_zero, List.set_cons_succ]
              refine p_move (some 84) _ rfl rfl rfl (by rfl) ?_
              simp only [Act.put, List.setIfInBounds_toArray, List.set_cons_zero, List.set_cons_succ]
              refine p_value (some 85) ?_ rfl rfl (by rfl) (fun w hw => ?_) ?_
              rotate_left
              · go_simp
                with_reducible rfl
              simp only [Act.put, List.setIfInBounds_toArray, List.set_cons_zero, List.set_cons_succ]
              refine p_value (some 86) ?_ rfl rfl (by rfl) (fun w hw => ?_) ?_
              rotate_left
              · go_simp
                with_reducible rfl
              simp only [Act.put, List.setIfInBounds_toArray, List.set_cons_zero, List.set_cons_succ]
              refine p_value (some 87) ?_ rfl rfl (by rfl) (fun w hw => ?_) ?_
              rotate_left
              · obtain ⟨s1, s2, s3, s4⟩ := hw
                go_simp
                with_reducible rfl
              simp only [Act.put, List.setIfInBounds_toArray, List.set_cons_zero, List.set_cons_succ]
              refine p_move (some 88) _ rfl rfl rfl (by rfl) ?_
              simp only [Act.put, List.setIfInBounds_toArray, List.set_cons_zero, List.set_cons_succ]
              refine p_value (some 89) ?_ rfl rfl (by rfl) (fun w hw => ?_) ?_
              rotate_left
              · go_simp
                with_reducible rfl
              simp only [Act.put, List.setIfInBounds_toArray, List.set_cons_zero, List.set_cons_succ]
              refine p_value (some 90) ?_ rfl rfl (by rfl) (fun w hw => ?_) ?_
              rotate_left
              · go_simp
                with_reducible rfl
              simp only [Act.put, List.setIfInBounds_toArray, List.set_cons_zero, List.set_cons_succ]
              refine p_value (some 91) ?_ rfl rfl (by rfl) (fun w hw => ?_) ?_
              rotate_left
              · obtain ⟨s1, s2, s3, s4⟩ := hw
                go_simp
                with_reducible rfl
              simp only [Act.put, List.setIfInBounds_toArray, List.set_cons_zero, List.set_cons_succ]
              refine p_move (some 92) _ rfl rfl rfl (by rfl) ?_
              simp only [Act.put, List.setIfInBounds_toArray, List.set_cons_zero, List.set_cons_succ]
              refine p_value (some 93) ?_ rfl rfl (by rfl) (fun w hw => ?_) ?_
              rotate_left
              · go_simp
                with_reducible rfl
              simp only [Act.put, List.setIfInBounds_toArray, List.set_cons_zero, List.set_cons_succ]
              refine p_value (some 94) ?_ rfl rfl (by rfl) (fun w hw => ?_) ?_
              rotate_left
              · go_simp
                with_reducible rfl
              simp only [Act.put, List.setIfInBounds_toArray, List.set_cons_zero, List.set_cons_succ]
              refine p_value (some 95) ?_ rfl rfl (by rfl) (fun w hw => ?_) ?_
              rotate_left
              · obtain ⟨s1, s2, s3, s4⟩ := hw
                go_simp
                with_reducible rfl
              simp only [Act.put, List.setIfInBounds_toArray, List.set_cons_zero, List.set_cons_succ]
              refine p_move (some 96) _ rfl rfl rfl (by rfl) ?_
              simp only [Act.put, List.setIfInBounds_toArray, List.set_cons_zero, List.set_cons_succ]
              refine p_value (some 97) ?_ rfl rfl (by rfl) (fun w hw => ?_) ?_
              rotate_left
              · go_simp
                with_reducible rfl
              simp only [Act.put, List.setIfInBounds_toArray, List.set_cons_zero, List.set_cons_succ]
              refine p_value (some 98) ?_ rfl rfl (by rfl) (fun w hw => ?_) ?_
              rotate_left
              · go_simp
                with_reducible rfl
              simp only [Act.put, List.setIfInBounds_toArray, List.set_cons_zero, List.set_cons_succ]
              refine p_value (some 99) ?_ rfl rfl (by rfl) (fun w hw => ?_) ?_
              rotate_left
              · obtain ⟨s1, s2, s3, s4⟩ := hw
                go_simp
                with_reducible rfl
              simp only [Act.put, List.setIfInBounds_toArray, List.set_cons_zero, List.set_cons_succ]
              refine p_alone (some 100) (.pointer (some ⟨gn, nn, none⟩)) wr.drew rfl rfl (by rfl) (by go_simp) (fun _ => ⟨cG, cL, e1, e2⟩) ?_
              simp only [Act.put, List.setIfInBounds_toArray, List.set_cons_zero, List.set_cons_succ]
              refine p_store (wr.drew.setCell ⟨gn, nn, none⟩ (.string (R.ev i).t)) rfl rfl (by rfl) (by go_simp) (fun h => absurd rfl h) ?_
              refine p_done ?_
              go_wp2
              go_roundw
              case rel => exact ⟨i + 1, by omega, by go_num, by rw [show refA R last klen kf (i + 1) = _ from HST.out], by rw [show refA R last klen kf (i + 1) = _ from HST.out]; exact HO5, HG5, hb5.drew⟩
              case measure => simp [intOf]; omega
            · cases hkp : keptB klen kf (refA R last klen kf i).2 with
              | true =>
                have hst : refA R last klen kf (i + 1) = ((refA R last klen kf i).1.set nn (R.ev i).t, (refA R last klen kf i).2 + 1) := by simp only [refA]; rw [if_neg hneg, if_neg hil, hkp, hnn]; rfl
                have HST : Hid _ := hst
                have hkc : (refA R last klen kf i).2 < klen ∧ kf (refA R last klen kf i).2 = true := by simpa [keptB] using hkp
                obtain ⟨hk1, hk2⟩ := hkc
                obtain rfl := hK.at' (by omega)
                have ck := (hK.belowAll hb).cell _ hk1
                rw [hk2] at ck
                clear hst hkp
                have hcn : (refA R last klen kf i).2 ≤ i := hlenA.2
                generalize hcc : (refA R last klen kf i).2 = cn at *
                go_wp2_with fail
                refine wp_region_perm [(false, 0), (false, 1), (false, 2), (false, 3), (false, 4), (false, 5), (false, 6), (false, 7), (false, 8), (false, 9), (false, 10), (false, 11), (false, 12), (false, 13), (false, 14), (false, 15), (false, 16), (false, 17), (false, 18), (false, 19), (true, 20), (true, 21)] (fun wx => wx.cell? ⟨w2.heap.size, 0, none⟩ = some (.slice (some ⟨gn, 0, none⟩) R.F.length fcx) ∧ wx.cell? ⟨g, 1, none⟩ = some (.slice (some ⟨gl, 0, none⟩) R.L.length lc) ∧ wx.cell? ⟨gl, i * 2, none⟩ = some (.int .i64 nn) ∧ wx.cell? ⟨gl, i * 2 + 1, none⟩ = some (.string (R.ev i).t)) (by kernel_rfl) (by kernel_rfl) ⟨cG, cL, e1, e2⟩ ?_
                refine p_move (some 80) _ rfl rfl rfl (by rfl) ?_
                simp only [Act.put, List.setIfInBounds_toArray, List.set_cons_zero, List.set_cons_succ]
                refine p_value (some 81) ?_ rfl rfl (by rfl) (fun w hw => ?_) ?_
                rotate_left
                · go_simp
                  with_reducible rfl
                simp only [Act.put, List.setIfInBounds_toArray, List.set_cons_zero, List.set_cons_succ]
                refine p_value (some 82) ?_ rfl rfl (by rfl) (fun w hw => ?_) ?_
                rotate_left
                · go_simp
                  with_reducible rfl
                simp only [Act.put, List.setIfInBounds_toArray, List.set_cons_zero, List.set_cons_succ]
                refine p_value (some 83) ?_ rfl rfl (by rfl) (fun w hw => ?_) ?_
                rotate_left
                · obtain ⟨s1, s2, s3, s4⟩ := hw
                  go_simp
                  with_reducible rfl
                simp only [Act.put, List.setIfInBounds_toArray, List.set_cons_zero, List.set_cons_succ]
                refine p_move (some 84) _ rfl rfl rfl (by rfl) ?_
                simp only [Act.put, List.setIfInBounds_toArray, List.set_cons_zero, List.set_cons_succ]
                refine p_value (some 85) ?_ rfl rfl (by rfl) (fun w hw => ?_) ?_
                rotate_left
                · go_simp
                  with_reducible rfl
                simp only [Act.put, List.setIfInBounds_toArray, List.set_cons_zero, List.set_cons_succ]
                refine p_value (some 86) ?_ rfl rfl (by rfl) (fun w hw => ?_) ?_
                rotate_left
                · go_simp
                  with_reducible rfl
                simp only [Act.put, List.setIfInBounds_toArray, List.set_cons_zero, List.set_cons_succ]
                refine p_value (some 87) ?_ rfl rfl (by rfl) (fun w hw => ?_) ?_
                rotate_left
                · obtain ⟨s1, s2, s3, s4⟩ := hw
                  go_simp
                  with_reducible rfl
                simp only [Act.put, List.setIfInBounds_toArray, List.set_cons_zero, List.set_cons_succ]
                refine p_move (some 88) _ rfl rfl rfl (by rfl) ?_
                simp only [Act.put, List.setIfInBounds_toArray, List.set_cons_zero, List.set_cons_succ]
                refine p_value (some 89) ?_ rfl rfl (by rfl) (fun w hw => ?_) ?_
                rotate_left
                · go_simp
                  with_reducible rfl
                simp only [Act.put, List.setIfInBounds_toArray, List.set_cons_zero, List.set_cons_succ]
                refine p_value (some 90) ?_ rfl rfl (by rfl) (fun w hw => ?_) ?_
                rotate_left
                · go_simp
                  with_reducible rfl
                simp only [Act.put, List.setIfInBounds_toArray, List.set_cons_zero, List.set_cons_succ]
                refine p_value (some 91) ?_ rfl rfl (by rfl) (fun w hw => ?_) ?_
                rotate_left
                · obtain ⟨s1, s2, s3, s4⟩ := hw
                  go_simp
                  with_reducible rfl
                simp only [Act.put, List.setIfInBounds_toArray, List.set_cons_zero, List.set_cons_succ]
                refine p_move (some 92) _ rfl rfl rfl (by rfl) ?_
                simp only [Act.put, List.setIfInBounds_toArray, List.set_cons_zero, List.set_cons_succ]
                refine p_value (some 93) ?_ rfl rfl (by rfl) (fun w hw => ?_) ?_
                rotate_left
                · go_simp
                  with_reducible rfl
                simp only [Act.put, List.setIfInBounds_toArray, List.set_cons_zero, List.set_cons_succ]
                refine p_value (some 94) ?_ rfl rfl (by rfl) (fun w hw => ?_) ?_
                rotate_left
                · go_simp
                  with_reducible rfl
                simp only [Act.put, List.setIfInBounds_toArray, List.set_cons_zero, List.set_cons_succ]
                refine p_value (some 95) ?_ rfl rfl (by rfl) (fun w hw => ?_) ?_
                rotate_left
                · obtain ⟨s1, s2, s3, s4⟩ := hw
                  go_simp
                  with_reducible rfl
                simp only [Act.put, List.setIfInBounds_toArray, List.set_cons_zero, List.set_cons_succ]
                refine p_move (some 96) _ rfl rfl rfl (by rfl) ?_
                simp only [Act.put, List.setIfInBounds_toArray, List.set_cons_zero, List.set_cons_succ]
                refine p_value (some 97) ?_ rfl rfl (by rfl) (fun w hw => ?_) ?_
                rotate_left
                · go_simp
                  with_reducible rfl
                simp only [Act.put, List.setIfInBounds_toArray, List.set_cons_zero, List.set_cons_succ]
                refine p_value (some 98) ?_ rfl rfl (by rfl) (fun w hw => ?_) ?_
                rotate_left
                · go_simp
                  with_reducible rfl
                simp only [Act.put, List.setIfInBounds_toArray, List.set_cons_zero, List.set_cons_succ]
                refine p_value (some 99) ?_ rfl rfl (by rfl) (fun w hw => ?_) ?_
                rotate_left
                · obtain ⟨s1, s2, s3, s4⟩ := hw
                  go_simp
                  with_reducible rfl
                simp only [Act.put, List.setIfInBounds_toArray, List.set_cons_zero, List.set_cons_succ]
                refine p_alone (some 100) (.pointer (some ⟨gn, nn, none⟩)) wr.drew rfl rfl (by rfl) (by go_simp) (fun _ => ⟨cG, cL, e1, e2⟩) ?_
                simp only [Act.put, List.setIfInBounds_toArray, List.set_cons_zero, List.set_cons_succ]
                refine p_store (wr.drew.setCell ⟨gn, nn, none⟩ (.string (R.ev i).t)) rfl rfl (by rfl) (by go_simp) (fun h => absurd rfl h) ?_
                refine p_done ?_
                go_wp2
                go_roundw
                case rel => exact ⟨i + 1, by omega, by go_num, by rw [show refA R last klen kf (i + 1) = _ from HST.out]; go_num, by rw [show refA R last klen kf (i + 1) = _ from HST.out]; exact HO5, HG5, hb5.drew⟩
                case measure => simp [intOf]; omega
              | false =>
                have hst : refA R last klen kf (i + 1) = ((refA R last klen kf i).1, (refA R last klen kf i).2 + 1) := by simp only [refA]; rw [if_neg hneg, if_neg hil, hkp]; rfl
                have HST : Hid _ := hst
                have hcn : (refA R last klen kf i).2 ≤ i := hlenA.2
                clear hst
                by_cases hk1 : (refA R last klen kf i).2 < klen
                · have hk2 : kf (refA R last klen kf i).2 = false := by simpa [keptB, hk1] using hkp
                  obtain rfl := hK.at' (by omega)
                  have ck := (hK.belowAll hb).cell _ hk1
                  rw [hk2] at ck
                  clear hkp
                  generalize hcc : (refA R last klen kf i).2 = cn at *
                  go_wp2
                  go_roundw
                  case rel => exact ⟨i + 1, by omega, by go_num, by rw [show refA R last klen kf (i + 1) = _ from HST.out]; go_num, by rw [show refA R last klen kf (i + 1) = _ from HST.out]; exact hO, hG, hb⟩
                  case measure => simp [intOf]; omega
                · clear hkp
                  generalize hcc : (refA R last klen kf i).2 = cn at *
                  go_wp2
                  go_roundw
                  case rel => exact ⟨i + 1, by omega, by go_num, by rw [show refA R last klen kf (i + 1) = _ from HST.out]; go_num, by rw [show refA R last klen kf (i + 1) = _ from HST.out]; exact hO, hG, hb⟩
                  case measure => simp [intOf]; omega
        · have hik : k = i := by omega
          subst hik
          have hlenA := (refA_len R last klen kf k).1
          go_wp2
          go_ret2
          refine ⟨w2.heap.size, _, rfl, ⟨hG, ?_, World.ownsRow_nil _ _ _ _, hs2⟩, hb⟩
          rw [show lastR R k = last from HLA.out]
          show World.ownsRow _ _ _ _ _ (refA R last klen kf k).1.length _
          rw [hlenA]
          exact hO
end Go.Proofs.Ytpdcmhfmicemnaa
