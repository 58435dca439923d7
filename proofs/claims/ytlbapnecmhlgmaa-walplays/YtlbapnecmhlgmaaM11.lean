/- The walk of the document's own After. What a sector may be behind a power loss: one of the texts that were written there, none older than the last one ahead of the last flush. The program's disk beside the document's: the same texts, before and behind a power loss. Both disks; each stays where the other changes. -/
import Derived.Test.YtlbapnecmhlgmaaM10
import Derived.Test.YtlbapnecmhlgmaaM6
namespace Go.Proofs.Ytlbapnecmhlgmaa
open Go.RowKit

def Rk.ev (R : Rk) (i : Nat) : Rv := R.L.getD i ⟨-1, ⟨#[]⟩⟩
/-- The last flush among the first k events; 0 if there is none. -/
def lastR (R : Rk) : Nat → Nat
  | 0 => 0
  | k + 1 => if (R.ev k).n < 0 then k else lastR R k
theorem lastR_le (R : Rk) (k : Nat) : lastR R k ≤ k := by
  induction k with
  | zero => exact Nat.le_refl _
  | succ k ih => unfold lastR; split <;> omega
/-- The texts, and how many later writes were looked at, behind the first i events. -/
def refA (R : Rk) (last klen : Nat) (kf : Nat → Bool) : Nat → List ByteArray × Nat
  | 0 => (R.F, 0)
  | i + 1 =>
    let p := refA R last klen kf i
    if (R.ev i).n < 0 then p
    else if i < last then (p.1.set (R.ev i).n.toNat (R.ev i).t, p.2)
    else (if keptB klen kf p.2 then p.1.set (R.ev i).n.toNat (R.ev i).t else p.1, p.2 + 1)
theorem refA_len (R : Rk) (last klen : Nat) (kf : Nat → Bool) (i : Nat) : (refA R last klen kf i).1.length = R.F.length ∧ (refA R last klen kf i).2 ≤ i := by
  induction i with
  | zero => exact ⟨rfl, Nat.le_refl _⟩
  | succ i ih =>
    simp only [refA]
    split
    · exact ⟨ih.1, by omega⟩
    · split
      · exact ⟨by simp [ih.1], by show (refA R last klen kf i).2 ≤ i + 1; omega⟩
      · refine ⟨?_, by show (refA R last klen kf i).2 + 1 ≤ i + 1; omega⟩
        split
        · simp [ih.1]
        · exact ih.1

theorem refAfter_bad {w : World} {base g : Nat} {fv lv : Value} {R : Rk} (h : RefAt w base g fv lv R) (k : Int) (hk : k < 0 ∨ (R.L.length : Int) < k) (K : Value) :
    Calls Try.prog 45 #[.pointer (some ⟨g, 0, none⟩), .int .i64 k, K] w fun e w' => e = .returned (.tuple #[.pointer none, .int .i64 2]) ∧ w' = w := by
  have hc := (h.row.cell 1).trans (rfl : _ = some lv)
  obtain ⟨a, c, rfl, _⟩ := own_slice h.evs
  generalize R.L.length = n at *
  clear h
  by_cases hk0 : k < 0
  · clear hk
    go_enter Try.func45, Try.ntmps45
    go_wp2
    go_ret2
    exact ⟨rfl, rfl⟩
  · have hk1 : (n : Int) < k := by omega
    clear hk
    go_enter Try.func45, Try.ntmps45
    go_wp2
    go_ret2
    exact ⟨rfl, rfl⟩

theorem RefAt.evAt {w : World} {base g gl c n : Nat} {fv : Value} {R : Rk} (h : RefAt w base g fv (.slice (some ⟨gl, 0, none⟩) n c) R) (i : Nat) (hi : i < R.L.length) : w.cell? ⟨gl, i * 2, none⟩ = some (.int .i64 (R.ev i).n) ∧ w.cell? ⟨gl, i * 2 + 1, none⟩ = some (.string (R.ev i).t) := by
  have hev : R.L[i]? = some (R.ev i) := by simp [Rk.ev, List.getD, List.getElem?_eq_getElem hi]
  obtain ⟨e1, e2⟩ := rvCells_at R.L i _ hev
  obtain ⟨_, hn, _⟩ := ownsRow_slice h.evs
  have he := h.evs
  rw [hn] at he
  exact ⟨(he.cellAt (i * 2) (by omega)).trans e1, (he.cellAt (i * 2 + 1) (by omega)).trans e2⟩

theorem ownsRow_set {w : World} {base g c n : Nat} {e : TypeId} {xs : List Value} (h : w.ownsRow base e 1 (.slice (some ⟨g, 0, none⟩) n c) n xs) (j : Nat) (v : Value) : (w.setCell ⟨g, j, none⟩ v).ownsRow base e 1 (.slice (some ⟨g, 0, none⟩) n c) n (xs.set j v) := by
  have hl := h.1
  obtain ⟨h1, _, h3, h4, cur, hr, hs, ht⟩ := ownsRow_slice h
  refine ⟨by rw [List.length_set]; exact hl, .inr ⟨g, c, _, rfl, h1, hr.setCell (i := j) v, h3, h4, by simpa using hs, ?_⟩⟩
  rw [Array.toList_setIfInBounds, List.take_set, ht]

theorem map_set (l : List ByteArray) (j : Nat) (t : ByteArray) : (l.map Value.string).set j (.string t) = (l.set j t).map Value.string := by
  rw [List.map_set]

set_option maxRecDepth 20000 in
set_option maxHeartbeats 4000000 in
theorem refAfter_ok {w : World} {base g : Nat} {fv lv : Value} {R : Rk} (h : RefAt w base g fv lv R) (k : Nat) (hk : k ≤ R.L.length) (hL : R.L.length ≤ 1000000) (hF0 : 1 ≤ R.F.length) (hF : R.F.length ≤ 1000000) (hok : ∀ i, i < k → (R.ev i).n < 0 ∨ (0 ≤ (R.ev i).n ∧ (R.ev i).n < R.F.length))
    (ka : Option Addr) (kb koff klen kcap : Nat) (kf : Nat → Bool) (hK : Bl w ka kb koff klen kf) (hkl : klen ≤ 140737488351232) :
    Calls Try.prog 45 #[.pointer (some ⟨g, 0, none⟩), .int .i64 k, .slice ka klen kcap] w fun e w' => ∃ g' fv', e = .returned (.tuple #[.pointer (some ⟨g', 0, none⟩), .int .i64 0]) ∧
      RefAt w' w.heap.size g' fv' (.slice none 0 0) ⟨(refA R (lastR R k) klen kf k).1, []⟩ ∧ Below w.heap.size w w' := by
  obtain ⟨i0, hi, hz0, hz1, hz2⟩ := info_parts Try.info9
  have c0 := (h.row.cell 0).trans (rfl : _ = some fv)
  have c1 := (h.row.cell 1).trans (rfl : _ = some lv)
  obtain ⟨la, lc, rfl, hla⟩ := own_slice h.evs
  obtain ⟨fa, fc, rfl, hfa⟩ := own_slice h.first
  obtain ⟨gf, rfl⟩ := hfa (by omega)
  have HR : Hid _ := h
  have hb1 : Below w.heap.size w (w.alloc (.cells #[] 9)) := (Below.refl _ _).alloc (Nat.le_refl _) _
  have own0 : (w.alloc (.cells #[] 9)).ownsRow w.heap.size 9 1 (.slice (some ⟨w.heap.size, 0, none⟩) 0 0) 0 [] := World.ownsRow_lit (base := w.heap.size) (e := 9) (size := 1) w #[] 0 (Nat.le_refl _) (by decide) rfl
  have hnews : ∀ j u, (R.F.map Value.string)[j]? = some u → (w.alloc (.cells #[] 9)).cell? ((⟨gf, 0, none⟩ : Addr).add j) = some u := fun j u hj => by
    have hj' : j < R.F.length := by simpa using (List.getElem?_eq_some_iff.1 hj).1
    rw [Addr.add_mid, Nat.zero_add, (ownsRow_below h.first hb1).cellAt j (by omega), hj]
  have d0 := ((h.below hb1).row.cell 0).trans (rfl : _ = some (Value.slice (some ⟨gf, 0, none⟩) R.F.length fc))
  have HN : Hid _ := hnews
  clear h hnews
  go_enter Try.func45, Try.ntmps45
  go_wp2_with (at_builtin; refine wpList_append_own_wide _ rfl (.tmp 25) (.tmp 29) 67 rfl w.heap.size 9 i0 (.string ⟨#[]⟩) 1 16 Try.underlying67 hi hz0 hz1 hz2 rfl (by decide) _ 0 [] rfl own0 ⟨gf, 0, none⟩ R.F.length fc (R.F.map Value.string) rfl (by simp) HN.out (fun u hu => by simp at hu; obtain ⟨_, _, rfl⟩ := hu; rfl) (by unfold maxLen; omega) (by omega) (by simp) ?_)
  intro fv' w2 own2 grow2 _
  have own2' : w2.ownsRow w.heap.size 9 1 fv' R.F.length (R.F.map Value.string) := by simpa using own2
  have hb2 : Below w.heap.size w w2 := own_grown own0 hb1 (by simp) grow2
  have hs2 := hb2.size
  obtain ⟨fx, fcx, rfl, hfx⟩ := own_slice own2'
  obtain ⟨gn, rfl⟩ := hfx (by omega)
  have hb3 : Below w.heap.size w (w2.alloc (.cells #[.slice (some ⟨gn, 0, none⟩) R.F.length fcx, .slice none 0 0] 75)) := hb2.alloc hs2 _
  have own3 := own2'.alloc (.cells #[.slice (some ⟨gn, 0, none⟩) R.F.length fcx, .slice none 0 0] 75)
  have hG3 := Row.new w2 #[.slice (some ⟨gn, 0, none⟩) R.F.length fcx, .slice none 0 0] 75
  have HO3 : Hid _ := own3
  have HG3 : Hid _ := hG3
  clear own2 own2' grow2 own0 hb1 own3 hG3 HN c0 d0 hfx hfa
  have hq1 : ¬ ((R.L.length : Int) < k) := by omega
  go_wp2
  go_loopw [9, 10] (fun lv iv wq => ∃ i : Nat, i ≤ k ∧ iv = .int .i64 i ∧ lv = .int .i64 (lastR R i) ∧ wq = w2.alloc (.cells #[.slice (some ⟨gn, 0, none⟩) R.F.length fcx, .slice none 0 0] 75)) (fun _ iv _ => k - (intOf iv).toNat)
  case atStart => exact ⟨0, Nat.zero_le _, rfl, rfl, rfl⟩
  case round =>
    obtain ⟨i, hi', rfl, rfl, rfl⟩ := hrel
    by_cases hlt : i < k
    · obtain ⟨gl, rfl⟩ := hla (by omega)
      have hR3 := HR.out.below hb3
      obtain ⟨e1, _⟩ := hR3.evAt i (by omega)
      have cL := (hR3.row.cell 1).trans (rfl : _ = some (Value.slice (some ⟨gl, 0, none⟩) R.L.length lc))
      have hst : lastR R (i + 1) = if (R.ev i).n < 0 then i else lastR R i := rfl
      have HST : Hid _ := hst
      have hiL : i < R.L.length := by omega
      clear hst hR3
      by_cases hneg : (R.ev i).n < 0
      · go_wp2
        go_roundw
        case rel => exact ⟨i + 1, by omega, by go_num, by rw [show lastR R (i + 1) = _ from HST.out, if_pos hneg], by first | rfl | trivial⟩
        case measure => simp [intOf]; omega
      · go_wp2
        go_roundw
        case rel => exact ⟨i + 1, by omega, by go_num, by rw [show lastR R (i + 1) = _ from HST.out, if_neg hneg], by first | rfl | trivial⟩
        case measure => simp [intOf]; omega
    · have hik : k = i := by omega
      subst hik
      have hll := lastR_le R k
      generalize hlast : lastR R k = last at *
      have HLA : Hid _ := hlast
      clear hlast
      generalize w2.alloc (.cells #[.slice (some ⟨gn, 0, none⟩) R.F.length fcx, .slice none 0 0] 75) = W3 at *
      go_wp2
      go_loopw [11, 12] (fun kv iv wq => ∃ i : Nat, i ≤ k ∧ iv = .int .i64 i ∧ kv = .int .i64 (refA R last klen kf i).2 ∧ Hid (wq.ownsRow w.heap.size 9 1 (.slice (some ⟨gn, 0, none⟩) R.F.length fcx) R.F.length ((refA R last klen kf i).1.map Value.string)) ∧ Hid (Row wq w2.heap.size #[.slice (some ⟨gn, 0, none⟩) R.F.length fcx, .slice none 0 0] 75) ∧ Below w.heap.size w wq) (fun _ iv _ => k - (intOf iv).toNat)
      case atStart => exact ⟨0, Nat.zero_le _, rfl, rfl, HO3, HG3, hb3⟩
      case round =>
        obtain ⟨i, hi', rfl, rfl, hO, hG, hb⟩ := hrel
        by_cases hlt : i < k
        · obtain ⟨gl, rfl⟩ := hla (by omega)
          have hRr := HR.out.below hb
          have hiL : i < R.L.length := by omega
          obtain ⟨e1, e2⟩ := hRr.evAt i hiL
          have cL := (hRr.row.cell 1).trans (rfl : _ = some (Value.slice (some ⟨gl, 0, none⟩) R.L.length lc))
          have cG := (Row.cell hG.out 0).trans (rfl : _ = some (Value.slice (some ⟨gn, 0, none⟩) R.F.length fcx))
          have hO0 : wr.ownsRow w.heap.size 9 1 (.slice (some ⟨gn, 0, none⟩) R.F.length fcx) R.F.length ((refA R last klen kf i).1.map Value.string) := hO
          have hlenA := refA_len R last klen kf i
          clear hRr
          by_cases hneg : (R.ev i).n < 0
          · have hst : refA R last klen kf (i + 1) = refA R last klen kf i := by simp only [refA]; rw [if_pos hneg]
            have HST : Hid _ := hst
            clear hst
            go_wp2
            go_roundw
            case rel => exact ⟨i + 1, by omega, by go_num, by rw [show refA R last klen kf (i + 1) = _ from HST.out], by rw [show refA R last klen kf (i + 1) = _ from HST.out]; exact hO, hG, hb⟩
            case measure => simp [intOf]; omega
          · obtain ⟨nn, hnn⟩ : ∃ nn : Nat, (R.ev i).n = nn := ⟨(R.ev i).n.toNat, by omega⟩
            have hnF : nn < R.F.length := by
              rcases hok i hlt with h | h <;> omega
            obtain ⟨hge, _, _, _, cur, hcur, _⟩ := ownsRow_slice hO0
            have hcx : wr.cell? ⟨gn, nn, none⟩ = some (.string ((refA R last klen kf i).1.getD nn ⟨#[]⟩)) := by
              rw [hO0.cellAt nn (by omega)]
              have : nn < (refA R last klen kf i).1.length := by omega
              simp [List.getD, List.getElem?_eq_getElem this]
            have hfz := hcur.frozen nn
            have hO5 := ownsRow_set hO0 nn (.string (R.ev i).t)
            rw [map_set] at hO5
            have HO5 : Hid _ := hO5
            have HG5 : Hid (Row (wr.setCell ⟨gn, nn, none⟩ (.string (R.ev i).t)) w2.heap.size #[.slice (some ⟨gn, 0, none⟩) R.F.length fcx, .slice none 0 0] 75) := Row.setCell_other hG.out (row_ne hG.out hcur (by decide)) _
            have hb5 : Below w.heap.size w (wr.setCell ⟨gn, nn, none⟩ (.string (R.ev i).t)) := hb.setCell hge _
            rw [hnn] at e1
            have hneg' : ¬ ((nn : Int) < 0) := by omega
            clear hO5 hcur hge
            generalize hsl : (refA R last klen kf i).1.getD nn ⟨#[]⟩ = st at *
            by_cases hil : i < last
            · have hst : refA R last klen kf (i + 1) = ((refA R last klen kf i).1.set nn (R.ev i).t, (refA R last klen kf i).2) := by simp only [refA]; rw [if_neg hneg, if_pos hil, hnn]; rfl
              have HST : Hid _ := hst
              clear hst
              go_wp2_with fail
              refine wp_region_perm [(false, 0), (false, 1), (false, 2), (false, 3), (false, 4), (false, 5), (false, 6), (false, 7), (false, 8), (false, 9), (false, 10), (false, 11), (false, 12), (false, 13), (false, 14), (false, 15), (false, 16), (false, 17), (false, 18), (false, 19), (true, 20), (true, 21)] (fun wx => wx.cell? ⟨w2.heap.size, 0, none⟩ = some (.slice (some ⟨gn, 0, none⟩) R.F.length fcx) ∧ wx.cell? ⟨g, 1, none⟩ = some (.slice (some ⟨gl, 0, none⟩) R.L.length lc) ∧ wx.cell? ⟨gl, i * 2, none⟩ = some (.int .i64 nn) ∧ wx.cell? ⟨gl, i * 2 + 1, none⟩ = some (.string (R.ev i).t)) (by kernel_rfl) (by kernel_rfl) ⟨cG, cL, e1, e2⟩ ?_
              refine p_move (some 80) _ rfl rfl rfl (by rfl) ?_
              simp only [Act.put, List.setIfInBounds_toArray, List.set_cons_zero, List.set_cons_succ]
              refine p_value (some 81) ?_ rfl rfl (by rfl) (fun w hw => ?_) ?_
              rotate_left
              · go_simp
                with_reducible rfl
              simp only [Act.put, List.setIfInBounds_toArray, List.set_cons_zero, List.set_cons_succ]
              refine p_value (some 82) ?_ rfl rfl (by rfl) (fun w hw => ?_) ?_
              rotate_left
              · go_simp
                with_reducible rfl
              simp only [Act.put, List.setIfInBounds_toArray, List.set_cons_zero, List.set_cons_succ]
              refine p_value (some 83) ?_ rfl rfl (by rfl) (fun w hw => ?_) ?_
              rotate_left
              · obtain ⟨s1, s2, s3, s4⟩ := hw
                go_simp
                with_reducible rfl
              simp only [Act.put, List.setIfInBounds_toArray, List.set_cons_zero, List.set_cons_succ]
              refine p_move (some 84) _ rfl rfl rfl (by rfl) ?_
              simp only [Act.put, List.setIfInBounds_toArray, List.set_cons_zero, List.set_cons_succ]
              refine p_value (some 85) ?_ rfl rfl (by rfl) (fun w hw => ?_) ?_
              rotate_left
              · go_simp
                with_reducible rfl
              simp only [Act.put, List.setIfInBounds_toArray, List.set_cons_zero, List.set_cons_succ]
              refine p_value (some 86) ?_ rfl rfl (by rfl) (fun w hw => ?_) ?_
              rotate_left
              · go_simp
                with_reducible rfl
              simp only [Act.put, List.setIfInBounds_toArray, List.set_cons_zero, List.set_cons_succ]
              refine p_value (some 87) ?_ rfl rfl (by rfl) (fun w hw => ?_) ?_
              rotate_left
              · obtain ⟨s1, s2, s3, s4⟩ := hw
                go_simp
                with_reducible rfl
              simp only [Act.put, List.setIfInBounds_toArray, List.set_cons_zero, List.set_cons_succ]
              refine p_move (some 88) _ rfl rfl rfl (by rfl) ?_
              simp only [Act.put, List.setIfInBounds_toArray, List.set_cons_zero, List.set_cons_succ]
              refine p_value (some 89) ?_ rfl rfl (by rfl) (fun w hw => ?_) ?_
              rotate_left
              · go_simp
                with_reducible rfl
              simp only [Act.put, List.setIfInBounds_toArray, List.set_cons_zero, List.set_cons_succ]
              refine p_value (some 90) ?_ rfl rfl (by rfl) (fun w hw => ?_) ?_
              rotate_left
              · go_simp
                with_reducible rfl
              simp only [Act.put, List.setIfInBounds_toArray, List.set_cons_zero, List.set_cons_succ]
              refine p_value (some 91) ?_ rfl rfl (by rfl) (fun w hw => ?_) ?_
              rotate_left
              · obtain ⟨s1, s2, s3, s4⟩ := hw
                go_simp
                with_reducible rfl
              simp only [Act.put, List.setIfInBounds_toArray, List.set_cons_zero, List.set_cons_succ]
              refine p_move (some 92) _ rfl rfl rfl (by rfl) ?_
              simp only [Act.put, List.setIfInBounds_toArray, List.set_cons_zero, List.set_cons_succ]
              refine p_value (some 93) ?_ rfl rfl (by rfl) (fun w hw => ?_) ?_
              rotate_left
              · go_simp
                with_reducible rfl
              simp only [Act.put, List.setIfInBounds_toArray, List.set_cons_zero, List.set_cons_succ]
              refine p_value (some 94) ?_ rfl rfl (by rfl) (fun w hw => ?_) ?_
              rotate_left
              · go_simp
                with_reducible rfl
              simp only [Act.put, List.setIfInBounds_toArray, List.set_cons_zero, List.set_cons_succ]
              refine p_value (some 95) ?_ rfl rfl (by rfl) (fun w hw => ?_) ?_
              rotate_left
              · obtain ⟨s1, s2, s3, s4⟩ := hw
                go_simp
                with_reducible rfl
              simp only [Act.put, List.setIfInBounds_toArray, List.set_cons_zero, List.set_cons_succ]
              refine p_move (some 96) _ rfl rfl rfl (by rfl) ?_
              simp only [Act.put, List.setIfInBounds_toArray, List.set_cons_zero, List.set_cons_succ]
              refine p_value (some 97) ?_ rfl rfl (by rfl) (fun w hw => ?_) ?_
              rotate_left
              · go_simp
                with_reducible rfl
              simp only [Act.put, List.setIfInBounds_toArray, List.set_cons_zero, List.set_cons_succ]
              refine p_value (some 98) ?_ rfl rfl (by rfl) (fun w hw => ?_) ?_
              rotate_left
              · go_simp
                with_reducible rfl
              simp only [Act.put, List.setIfInBounds_toArray, List.set_cons_zero, List.set_cons_succ]
              refine p_value (some 99) ?_ rfl rfl (by rfl) (fun w hw => ?_) ?_
              rotate_left
              · obtain ⟨s1, s2, s3, s4⟩ := hw
                go_simp
                with_reducible rfl
              simp only [Act.put, List.setIfInBounds_toArray, List.set_cons_zero, List.set_cons_succ]
              refine p_alone (some 100) (.pointer (some ⟨gn, nn, none⟩)) wr.drew rfl rfl (by rfl) (by go_simp) (fun _ => ⟨cG, cL, e1, e2⟩) ?_
              simp only [Act.put, List.setIfInBounds_toArray, List.set_cons_zero, List.set_cons_succ]
              refine p_store (wr.drew.setCell ⟨gn, nn, none⟩ (.string (R.ev i).t)) rfl rfl (by rfl) (by go_simp) (fun h => absurd rfl h) ?_
              refine p_done ?_
              go_wp2
              go_roundw
              case rel => exact ⟨i + 1, by omega, by go_num, by rw [show refA R last klen kf (i + 1) = _ from HST.out], by rw [show refA R last klen kf (i + 1) = _ from HST.out]; exact HO5, HG5, hb5.drew⟩
              case measure => simp [intOf]; omega
            · cases hkp : keptB klen kf (refA R last klen kf i).2 with
              | true =>
                have hst : refA R last klen kf (i + 1) = ((refA R last klen kf i).1.set nn (R.ev i).t, (refA R last klen kf i).2 + 1) := by simp only [refA]; rw [if_neg hneg, if_neg hil, hkp, hnn]; rfl
                have HST : Hid _ := hst
                have hkc : (refA R last klen kf i).2 < klen ∧ kf (refA R last klen kf i).2 = true := by simpa [keptB] using hkp
                obtain ⟨hk1, hk2⟩ := hkc
                obtain rfl := hK.at' (by omega)
                have ck := (hK.belowAll hb).cell _ hk1
                rw [hk2] at ck
                clear hst hkp
                have hcn : (refA R last klen kf i).2 ≤ i := hlenA.2
                generalize hcc : (refA R last klen kf i).2 = cn at *
                go_wp2_with fail
                refine wp_region_perm [(false, 0), (false, 1), (false, 2), (false, 3), (false, 4), (false, 5), (false, 6), (false, 7), (false, 8), (false, 9), (false, 10), (false, 11), (false, 12), (false, 13), (false, 14), (false, 15), (false, 16), (false, 17), (false, 18), (false, 19), (true, 20), (true, 21)] (fun wx => wx.cell? ⟨w2.heap.size, 0, none⟩ = some (.slice (some ⟨gn, 0, none⟩) R.F.length fcx) ∧ wx.cell? ⟨g, 1, none⟩ = some (.slice (some ⟨gl, 0, none⟩) R.L.length lc) ∧ wx.cell? ⟨gl, i * 2, none⟩ = some (.int .i64 nn) ∧ wx.cell? ⟨gl, i * 2 + 1, none⟩ = some (.string (R.ev i).t)) (by kernel_rfl) (by kernel_rfl) ⟨cG, cL, e1, e2⟩ ?_
                refine p_move (some 80) _ rfl rfl rfl (by rfl) ?_
                simp only [Act.put, List.setIfInBounds_toArray, List.set_cons_zero, List.set_cons_succ]
                refine p_value (some 81) ?_ rfl rfl (by rfl) (fun w hw => ?_) ?_
                rotate_left
                · go_simp
                  with_reducible rfl
                simp only [Act.put, List.setIfInBounds_toArray, List.set_cons_zero, List.set_cons_succ]
                refine p_value (some 82) ?_ rfl rfl (by rfl) (fun w hw => ?_) ?_
                rotate_left
                · go_simp
                  with_reducible rfl
                simp only [Act.put, List.setIfInBounds_toArray, List.set_cons_zero, List.set_cons_succ]
                refine p_value (some 83) ?_ rfl rfl (by rfl) (fun w hw => ?_) ?_
                rotate_left
                · obtain ⟨s1, s2, s3, s4⟩ := hw
                  go_simp
                  with_reducible rfl
                simp only [Act.put, List.setIfInBounds_toArray, List.set_cons_zero, List.set_cons_succ]
                refine p_move (some 84) _ rfl rfl rfl (by rfl) ?_
                simp only [Act.put, List.setIfInBounds_toArray, List.set_cons_zero, List.set_cons_succ]
                refine p_value (some 85) ?_ rfl rfl (by rfl) (fun w hw => ?_) ?_
                rotate_left
                · go_simp
                  with_reducible rfl
                simp only [Act.put, List.setIfInBounds_toArray, List.set_cons_zero, List.set_cons_succ]
                refine p_value (some 86) ?_ rfl rfl (by rfl) (fun w hw => ?_) ?_
                rotate_left
                · go_simp
                  with_reducible rfl
                simp only [Act.put, List.setIfInBounds_toArray, List.set_cons_zero, List.set_cons_succ]
                refine p_value (some 87) ?_ rfl rfl (by rfl) (fun w hw => ?_) ?_
                rotate_left
                · obtain ⟨s1, s2, s3, s4⟩ := hw
                  go_simp
                  with_reducible rfl
                simp only [Act.put, List.setIfInBounds_toArray, List.set_cons_zero, List.set_cons_succ]
                refine p_move (some 88) _ rfl rfl rfl (by rfl) ?_
                simp only [Act.put, List.setIfInBounds_toArray, List.set_cons_zero, List.set_cons_succ]
                refine p_value (some 89) ?_ rfl rfl (by rfl) (fun w hw => ?_) ?_
                rotate_left
                · go_simp
                  with_reducible rfl
                simp only [Act.put, List.setIfInBounds_toArray, List.set_cons_zero, List.set_cons_succ]
                refine p_value (some 90) ?_ rfl rfl (by rfl) (fun w hw => ?_) ?_
                rotate_left
                · go_simp
                  with_reducible rfl
                simp only [Act.put, List.setIfInBounds_toArray, List.set_cons_zero, List.set_cons_succ]
                refine p_value (some 91) ?_ rfl rfl (by rfl) (fun w hw => ?_) ?_
                rotate_left
                · obtain ⟨s1, s2, s3, s4⟩ := hw
                  go_simp
                  with_reducible rfl
                simp only [Act.put, List.setIfInBounds_toArray, List.set_cons_zero, List.set_cons_succ]
                refine p_move (some 92) _ rfl rfl rfl (by rfl) ?_
                simp only [Act.put, List.setIfInBounds_toArray, List.set_cons_zero, List.set_cons_succ]
                refine p_value (some 93) ?_ rfl rfl (by rfl) (fun w hw => ?_) ?_
                rotate_left
                · go_simp
                  with_reducible rfl
                simp only [Act.put, List.setIfInBounds_toArray, List.set_cons_zero, List.set_cons_succ]
                refine p_value (some 94) ?_ rfl rfl (by rfl) (fun w hw => ?_) ?_
                rotate_left
                · go_simp
                  with_reducible rfl
                simp only [Act.put, List.setIfInBounds_toArray, List.set_cons_zero, List.set_cons_succ]
                refine p_value (some 95) ?_ rfl rfl (by rfl) (fun w hw => ?_) ?_
                rotate_left
                · obtain ⟨s1, s2, s3, s4⟩ := hw
                  go_simp
                  with_reducible rfl
                simp only [Act.put, List.setIfInBounds_toArray, List.set_cons_zero, List.set_cons_succ]
                refine p_move (some 96) _ rfl rfl rfl (by rfl) ?_
                simp only [Act.put, List.setIfInBounds_toArray, List.set_cons_zero, List.set_cons_succ]
                refine p_value (some 97) ?_ rfl rfl (by rfl) (fun w hw => ?_) ?_
                rotate_left
                · go_simp
                  with_reducible rfl
                simp only [Act.put, List.setIfInBounds_toArray, List.set_cons_zero, List.set_cons_succ]
                refine p_value (some 98) ?_ rfl rfl (by rfl) (fun w hw => ?_) ?_
                rotate_left
                · go_simp
                  with_reducible rfl
                simp only [Act.put, List.setIfInBounds_toArray, List.set_cons_zero, List.set_cons_succ]
                refine p_value (some 99) ?_ rfl rfl (by rfl) (fun w hw => ?_) ?_
                rotate_left
                · obtain ⟨s1, s2, s3, s4⟩ := hw
                  go_simp
                  with_reducible rfl
                simp only [Act.put, List.setIfInBounds_toArray, List.set_cons_zero, List.set_cons_succ]
                refine p_alone (some 100) (.pointer (some ⟨gn, nn, none⟩)) wr.drew rfl rfl (by rfl) (by go_simp) (fun _ => ⟨cG, cL, e1, e2⟩) ?_
                simp only [Act.put, List.setIfInBounds_toArray, List.set_cons_zero, List.set_cons_succ]
                refine p_store (wr.drew.setCell ⟨gn, nn, none⟩ (.string (R.ev i).t)) rfl rfl (by rfl) (by go_simp) (fun h => absurd rfl h) ?_
                refine p_done ?_
                go_wp2
                go_roundw
                case rel => exact ⟨i + 1, by omega, by go_num, by rw [show refA R last klen kf (i + 1) = _ from HST.out]; go_num, by rw [show refA R last klen kf (i + 1) = _ from HST.out]; exact HO5, HG5, hb5.drew⟩
                case measure => simp [intOf]; omega
              | false =>
                have hst : refA R last klen kf (i + 1) = ((refA R last klen kf i).1, (refA R last klen kf i).2 + 1) := by simp only [refA]; rw [if_neg hneg, if_neg hil, hkp]; rfl
                have HST : Hid _ := hst
                have hcn : (refA R last klen kf i).2 ≤ i := hlenA.2
                clear hst
                by_cases hk1 : (refA R last klen kf i).2 < klen
                · have hk2 : kf (refA R last klen kf i).2 = false := by simpa [keptB, hk1] using hkp
                  obtain rfl := hK.at' (by omega)
                  have ck := (hK.belowAll hb).cell _ hk1
                  rw [hk2] at ck
                  clear hkp
                  generalize hcc : (refA R last klen kf i).2 = cn at *
                  go_wp2
                  go_roundw
                  case rel => exact ⟨i + 1, by omega, by go_num, by rw [show refA R last klen kf (i + 1) = _ from HST.out]; go_num, by rw [show refA R last klen kf (i + 1) = _ from HST.out]; exact hO, hG, hb⟩
                  case measure => simp [intOf]; omega
                · clear hkp
                  generalize hcc : (refA R last klen kf i).2 = cn at *
                  go_wp2
                  go_roundw
                  case rel => exact ⟨i + 1, by omega, by go_num, by rw [show refA R last klen kf (i + 1) = _ from HST.out]; go_num, by rw [show refA R last klen kf (i + 1) = _ from HST.out]; exact hO, hG, hb⟩
                  case measure => simp [intOf]; omega
        · have hik : k = i := by omega
          subst hik
          have hlenA := (refA_len R last klen kf k).1
          go_wp2
          go_ret2
          refine ⟨w2.heap.size, _, rfl, ⟨hG, ?_, World.ownsRow_nil _ _ _ _, hs2⟩, hb⟩
          rw [show lastR R k = last from HLA.out]
          show World.ownsRow _ _ _ _ _ (refA R last klen kf k).1.length _
          rw [hlenA]
          exact hO
end Go.Proofs.Ytlbapnecmhlgmaa
namespace Go.Proofs.Ytlbapnecmhlgmaa
open Go.RowKit

/-- The texts that the first n events wrote to sector k, behind the one that it had at first. -/
def wl (F : Nat → Int) (E : Nat → Ev) (k : Nat) : Nat → List ByteArray
  | 0 => [S F k]
  | n + 1 => if (E n).n = (k : Int) then wl F E k n ++ [sStr (E n).f] else wl F E k n

theorem wl_pre (F : Nat → Int) (E : Nat → Ev) (k n p : Nat) (t : ByteArray) (h : (wl F E k n)[p]? = some t) : (wl F E k (n + 1))[p]? = some t := by
  unfold wl
  split
  · rw [List.getElem?_append_left (List.getElem?_eq_some_iff.1 h).1]
    exact h
  · exact h
theorem wl_far (F : Nat → Int) (E : Nat → Ev) (k n p : Nat) (t : ByteArray) (h : (wl F E k n)[p]? = some t) : ∀ d, (wl F E k (n + d))[p]? = some t
  | 0 => h
  | d + 1 => wl_pre F E k (n + d) p t (wl_far F E k n p t h d)
theorem wl_mono1 (F : Nat → Int) (E : Nat → Ev) (k n : Nat) : (wl F E k n).length ≤ (wl F E k (n + 1)).length := by
  conv => rhs; unfold wl
  split <;> simp
theorem wl_mono (F : Nat → Int) (E : Nat → Ev) (k n : Nat) : ∀ d, (wl F E k n).length ≤ (wl F E k (n + d)).length
  | 0 => Nat.le_refl _
  | d + 1 => Nat.le_trans (wl_mono F E k n d) (wl_mono1 F E k (n + d))
theorem wl_pos (F : Nat → Int) (E : Nat → Ev) (k n : Nat) : 1 ≤ (wl F E k n).length := by
  have := wl_mono F E k 0 n
  rw [Nat.zero_add] at this
  exact this
theorem wl_congr (F : Nat → Int) (E E' : Nat → Ev) (k n : Nat) (h : ∀ i, i < n → E i = E' i) : wl F E k n = wl F E' k n := by
  induction n with
  | zero => rfl
  | succ n ih => unfold wl; rw [h n (by omega), ih (fun i hi => h i (by omega))]

theorem S_redo {s : Nat} (e : Ev) (he : e.ok s) (F : Nat → Int) (k : Nat) : S (redoF e F) k = if e.n = (k : Int) then sStr e.f else S F k := by
  unfold redoF
  rcases he.2 with rfl | h
  · rw [if_pos (by simp [Ev.isFl, flushEv]), if_neg (by simp [flushEv])]
  · rw [if_neg (by simp [Ev.isFl]; omega), S_over]
    by_cases hk : e.n = (k : Int)
    · rw [if_pos hk, if_pos (by omega)]
    · rw [if_neg hk, if_neg (by omega)]

theorem keeps_at {s : Nat} (F : Nat → Int) (E : Nat → Ev) (sf klen : Nat) (kf : Nat → Bool) (k n : Nat) (hE : ∀ i, i < n → (E i).ok s) :
    ∀ i, i ≤ n → ∃ p, (wl F E k i)[p]? = some (S (afterF F E sf klen kf i) k) ∧ (wl F E k (min i sf)).length ≤ p + 1 := by
  intro i
  induction i with
  | zero => exact fun _ => ⟨0, rfl, by simp [wl]⟩
  | succ i ih =>
    intro hi
    obtain ⟨p, h1, h2⟩ := ih (by omega)
    by_cases ha : i < sf ∨ keptB klen kf (i - sf) = true
    · have e : afterF F E sf klen kf (i + 1) = redoF (E i) (afterF F E sf klen kf i) := by rw [afterF, if_pos ha]
      rw [e, S_redo (E i) (hE i (by omega))]
      by_cases hk : (E i).n = (k : Int)
      · rw [if_pos hk]
        have ew : wl F E k (i + 1) = wl F E k i ++ [sStr (E i).f] := by rw [wl, if_pos hk]
        refine ⟨(wl F E k i).length, by rw [ew]; simp, ?_⟩
        have hm := wl_mono F E k (min (i + 1) sf) (i + 1 - min (i + 1) sf)
        rw [show min (i + 1) sf + (i + 1 - min (i + 1) sf) = i + 1 by omega, ew, List.length_append] at hm
        exact hm
      · rw [if_neg hk]
        refine ⟨p, wl_pre F E k i p _ h1, ?_⟩
        have ew : wl F E k (i + 1) = wl F E k i := by rw [wl, if_neg hk]
        by_cases hs : i < sf
        · rw [show min (i + 1) sf = i + 1 by omega, ew]
          rw [show min i sf = i by omega] at h2
          exact h2
        · rw [show min (i + 1) sf = min i sf by omega]
          exact h2
    · have e : afterF F E sf klen kf (i + 1) = afterF F E sf klen kf i := by rw [afterF, if_neg ha]
      rw [e]
      refine ⟨p, wl_pre F E k i p _ h1, ?_⟩
      rw [show min (i + 1) sf = min i sf by omega]
      exact h2
/-- At any event: some text, none older than the last one ahead of the last flush. -/
theorem keeps_some {s : Nat} (F : Nat → Int) (E : Nat → Ev) (klen : Nat) (kf : Nat → Bool) (k n N : Nat) (hn : n ≤ N) (hE : ∀ i, i < n → (E i).ok s) :
    ∃ p, (wl F E k N)[p]? = some (S (afterF F E (safeN E n) klen kf n) k) ∧ (wl F E k (safeN E n)).length - 1 ≤ p := by
  obtain ⟨p, h1, h2⟩ := keeps_at F E (safeN E n) klen kf k n hE n (Nat.le_refl _)
  rw [show min n (safeN E n) = safeN E n by have := safeN_le E n; omega] at h2
  refine ⟨p, ?_, by omega⟩
  have := wl_far F E k n p _ h1 (N - n)
  rwa [show n + (N - n) = N by omega] at this
end Go.Proofs.Ytlbapnecmhlgmaa
namespace Go.Proofs.Ytlbapnecmhlgmaa
open Go.RowKit

/-- An event as the document has it. -/
def Ev.ref (e : Ev) : Rv := ⟨e.n, if e.n < 0 then ⟨#[]⟩ else sStr e.f⟩
structure Twin (D : Dk) (R : Rk) : Prop where
  len : R.F.length = D.s
  first : ∀ k, k < D.s → R.F.getD k ⟨#[]⟩ = S D.F k
  evs : R.L = D.E.map Ev.ref
  now : D.B = redoAll D.F D.ev D.E.length

theorem Twin.llen {D : Dk} {R : Rk} (h : Twin D R) : R.L.length = D.E.length := by rw [h.evs, List.length_map]
theorem Twin.ev {D : Dk} {R : Rk} (h : Twin D R) (i : Nat) (hi : i < D.E.length) : R.ev i = (D.ev i).ref := by
  unfold Rk.ev Dk.ev
  rw [h.evs]
  simp [List.getD, List.getElem?_eq_getElem hi]
theorem Dk.ev_ok {D : Dk} (h : D.ok) (i : Nat) (hi : i < D.E.length) : (D.ev i).ok D.s := by
  refine h.E _ ?_
  have : D.E[i]? = some (D.ev i) := by simp [Dk.ev, List.getD, List.getElem?_eq_getElem hi]
  exact List.mem_of_getElem? this
theorem ok_cases {s : Nat} {e : Ev} (h : e.ok s) : (e.n < 0 ∧ e = flushEv) ∨ (0 ≤ e.n ∧ e.n < s) := by
  rcases h.2 with rfl | h
  · exact .inl ⟨by decide, rfl⟩
  · exact .inr h

theorem Twin.text {D : Dk} {R : Rk} (h : Twin D R) (ho : D.ok) (n : Nat) (hn : n < D.s) : ∀ k, k ≤ D.E.length → refText R n k = S (redoAll D.F D.ev k) n := by
  intro k
  induction k with
  | zero => exact fun _ => h.first n hn
  | succ k ih =>
    intro hk
    have he := h.ev k (by omega)
    have e : refText R n (k + 1) = if (R.ev k).n = (n : Int) then (R.ev k).t else refText R n k := rfl
    rw [e, he, ih (by omega), redoAll, S_redo (D.ev k) (D.ev_ok ho k (by omega))]
    by_cases hq : (D.ev k).n = (n : Int)
    · rw [if_pos hq]
      show (if (D.ev k).n = (n : Int) then (if (D.ev k).n < 0 then (⟨#[]⟩ : ByteArray) else sStr (D.ev k).f) else _) = _
      rw [if_pos hq, if_neg (by omega)]
    · rw [if_neg hq]
      exact if_neg hq
theorem Twin.read {D : Dk} {R : Rk} (h : Twin D R) (ho : D.ok) (n : Nat) (hn : n < D.s) : refText R n R.L.length = S D.B n := by
  rw [h.llen, h.text ho n hn _ (Nat.le_refl _), ← h.now]

theorem Twin.flush {D : Dk} {R : Rk} (h : Twin D R) (Fl : Nat → Int) (hh : Hist D Fl) : Twin D.flush { R with L := R.L ++ [⟨-1, ⟨#[]⟩⟩] } :=
  ⟨h.len, h.first, by show R.L ++ [_] = (D.E ++ [flushEv]).map Ev.ref; rw [h.evs, List.map_append]; rfl, hh.flush.now⟩
theorem Twin.write {D : Dk} {R : Rk} (h : Twin D R) (Fl : Nat → Int) (hh : Hist D Fl) (n : Nat) (f : Nat → Int) : Twin (D.write n f) { R with L := R.L ++ [⟨n, sStr f⟩] } :=
  ⟨h.len, h.first, by
    show R.L ++ [_] = (D.E ++ [(⟨n, f⟩ : Ev)]).map Ev.ref
    rw [h.evs, List.map_append]
    congr 1, (hh.write n f).now⟩

/-- The last flush, in both ways of telling it. -/
theorem safe_last {D : Dk} {R : Rk} (h : Twin D R) (k : Nat) (hk : k ≤ D.E.length) :
    (safeN D.ev k = 0 ∧ lastR R k = 0 ∧ ∀ i, i < k → ¬ (D.ev i).n < 0) ∨ (safeN D.ev k = lastR R k + 1 ∧ lastR R k < k ∧ (D.ev (lastR R k)).n < 0 ∧ ∀ i, lastR R k < i → i < k → ¬ (D.ev i).n < 0) := by
  induction k with
  | zero => exact .inl ⟨rfl, rfl, fun i hi => absurd hi (by omega)⟩
  | succ k ih =>
    have he : (R.ev k).n = (D.ev k).n := by rw [h.ev k (by omega)]; rfl
    by_cases hq : (D.ev k).n < 0
    · have e1 : safeN D.ev (k + 1) = k + 1 := by rw [safeN]; simp [Ev.isFl, hq]
      have e2 : lastR R (k + 1) = k := by rw [lastR, he, if_pos hq]
      rw [e1, e2]
      exact .inr ⟨rfl, by omega, hq, fun i h1 h2 => by omega⟩
    · have e1 : safeN D.ev (k + 1) = safeN D.ev k := by rw [safeN]; simp [Ev.isFl, hq]
      have e2 : lastR R (k + 1) = lastR R k := by rw [lastR, he, if_neg hq]
      rw [e1, e2]
      rcases ih (by omega) with ⟨a, b, c⟩ | ⟨a, b, c, d⟩
      · exact .inl ⟨a, b, fun i hi => by
          by_cases e : i = k
          · subst e; exact hq
          · exact c i (by omega)⟩
      · exact .inr ⟨a, by omega, c, fun i h1 h2 => by
          by_cases e : i = k
          · subst e; exact hq
          · exact d i h1 (by omega)⟩

/-- Behind a power loss both have the same texts. -/
theorem Twin.after {D : Dk} {R : Rk} (h : Twin D R) (ho : D.ok) (k klen : Nat) (kf : Nat → Bool) (hk : k ≤ D.E.length) :
    Twin (D.after k klen kf) ⟨(refA R (lastR R k) klen kf k).1, []⟩ := by
  have hl := refA_len R (lastR R k) klen kf k
  refine ⟨hl.1.trans h.len, fun n hn => ?_, rfl, rfl⟩
  have hn' : n < D.s := hn
  have key : ∀ i, i ≤ k → (refA R (lastR R k) klen kf i).2 = i - safeN D.ev k ∧ (refA R (lastR R k) klen kf i).1.getD n ⟨#[]⟩ = S (afterF D.F D.ev (safeN D.ev k) klen kf i) n := by
    intro i
    induction i with
    | zero => exact fun _ => ⟨by simp [refA], h.first n hn'⟩
    | succ i ih =>
      intro hi
      obtain ⟨h1, h2⟩ := ih (by omega)
      have he := h.ev i (by omega)
      have hok := ok_cases (D.ev_ok ho i (by omega))
      have hlen := (refA_len R (lastR R k) klen kf i).1
      have hsl := safe_last h k hk
      have hen : (R.ev i).n = (D.ev i).n := by rw [he]; rfl
      have hset : ¬ (D.ev i).n < 0 → ((refA R (lastR R k) klen kf i).1.set (D.ev i).n.toNat (R.ev i).t).getD n ⟨#[]⟩ = S (redoF (D.ev i) (afterF D.F D.ev (safeN D.ev k) klen kf i)) n := fun hq => by
        rw [S_redo (D.ev i) (D.ev_ok ho i (by omega)), he]
        have hnl : (D.ev i).n.toNat < (refA R (lastR R k) klen kf i).1.length := by rw [hlen, h.len]; omega
        by_cases hqn : (D.ev i).n = (n : Int)
        · rw [if_pos hqn]
          have : (D.ev i).n.toNat = n := by omega
          rw [this] at hnl ⊢
          simp [List.getD, hnl, Ev.ref, hq]
        · rw [if_neg hqn, ← h2]
          have : (D.ev i).n.toNat ≠ n := by omega
          simp [List.getD, List.getElem?_set_ne this]
      by_cases hq : (D.ev i).n < 0
      · have e1 : refA R (lastR R k) klen kf (i + 1) = refA R (lastR R k) klen kf i := by simp only [refA]; rw [hen, if_pos hq]
        have hfl : D.ev i = flushEv := by
          rcases hok with ⟨_, h⟩ | h
          · exact h
          · omega
        have hsf : i < safeN D.ev k := by
          rcases hsl with ⟨_, _, c⟩ | ⟨a, _, _, d⟩
          · exact absurd hq (c i (by omega))
          · rcases Nat.lt_or_ge (lastR R k) i with hlt | hge
            · exact absurd hq (d i hlt (by omega))
            · omega
        refine ⟨by rw [e1, h1]; omega, ?_⟩
        rw [e1, h2, afterF, if_pos (.inl hsf), hfl]
        simp [redoF, Ev.isFl, flushEv]
      · by_cases hil : i < lastR R k
        · have e1 : refA R (lastR R k) klen kf (i + 1) = ((refA R (lastR R k) klen kf i).1.set (D.ev i).n.toNat (R.ev i).t, (refA R (lastR R k) klen kf i).2) := by simp only [refA]; rw [hen, if_neg hq, if_pos hil]
          have hsf : i + 1 ≤ safeN D.ev k := by
            rcases hsl with ⟨_, b, _⟩ | ⟨a, _, _, _⟩ <;> omega
          refine ⟨by rw [e1]; show (refA R (lastR R k) klen kf i).2 = _; rw [h1]; omega, ?_⟩
          rw [e1, afterF, if_pos (.inl (by omega))]
          exact hset hq
        · have hsf : safeN D.ev k ≤ i := by
            rcases hsl with ⟨a, _, _⟩ | ⟨a, b, c, d⟩
            · omega
            · rcases Nat.lt_or_ge (lastR R k) i with hlt | hge
              · omega
              · have : i = lastR R k := by omega
                subst this
                exact absurd c hq
          by_cases hkp : keptB klen kf (i - safeN D.ev k) = true
          · have e1 : refA R (lastR R k) klen kf (i + 1) = ((refA R (lastR R k) klen kf i).1.set (D.ev i).n.toNat (R.ev i).t, (refA R (lastR R k) klen kf i).2 + 1) := by simp only [refA]; rw [hen, if_neg hq, if_neg hil, h1, hkp]; rfl
            refine ⟨by rw [e1]; show (refA R (lastR R k) klen kf i).2 + 1 = _; rw [h1]; omega, ?_⟩
            rw [e1, afterF, if_pos (.inr hkp)]
            exact hset hq
          · have hkp' : keptB klen kf (i - safeN D.ev k) = false := by simpa using hkp
            have e1 : refA R (lastR R k) klen kf (i + 1) = ((refA R (lastR R k) klen kf i).1, (refA R (lastR R k) klen kf i).2 + 1) := by simp only [refA]; rw [hen, if_neg hq, if_neg hil, h1, hkp']; rfl
            refine ⟨by rw [e1]; show (refA R (lastR R k) klen kf i).2 + 1 = _; rw [h1]; omega, ?_⟩
            rw [e1, afterF, if_neg (by rw [hkp']; simp; omega)]
            exact h2
  exact (key k (Nat.le_refl _)).2
end Go.Proofs.Ytlbapnecmhlgmaa
namespace Go.Proofs.Ytlbapnecmhlgmaa
open Go.RowKit

/-- Both disks in memory. -/
structure Two (w : World) (base g g1 c1 g2 c2 : Nat) (ev : Value) (D : Dk) (gr : Nat) (fv lv : Value) (R : Rk) : Prop where
  d : DiskAt w base g g1 c1 g2 c2 ev D
  r : RefAt w base gr fv lv R
theorem Two.below {w w' : World} {base g g1 c1 g2 c2 : Nat} {ev : Value} {D : Dk} {gr : Nat} {fv lv : Value} {R : Rk} (h : Two w base g g1 c1 g2 c2 ev D gr fv lv R) (hb : Below w.heap.size w w') : Two w' base g g1 c1 g2 c2 ev D gr fv lv R :=
  ⟨h.d.below hb (Nat.le_refl _), h.r.below hb⟩
theorem DiskAt.base {w : World} {base base' g g1 c1 g2 c2 : Nat} {ev : Value} {D : Dk} (h : DiskAt w base g g1 c1 g2 c2 ev D) (hb : base' ≤ base) : DiskAt w base' g g1 c1 g2 c2 ev D :=
  ⟨h.row, ownsRow_base h.first hb, ownsRow_base h.now hb, ownsRow_base h.evs hb, Nat.le_trans hb h.ge, h.ne, h.ok⟩
theorem RefAt.base {w : World} {base base' g : Nat} {fv lv : Value} {R : Rk} (h : RefAt w base g fv lv R) (hb : base' ≤ base) : RefAt w base' g fv lv R :=
  ⟨h.row, ownsRow_base h.first hb, ownsRow_base h.evs hb, Nat.le_trans hb h.ge⟩
/-- The document's disk stays where the program's changes. -/
theorem RefAt.chg {w w' : World} {base gr : Nat} {fv lv : Value} {R : Rk} {b0 g g1 c1 g2 c2 : Nat} {ev : Value} {D : Dk} (h : RefAt w base gr fv lv R) (hD : DiskAt w b0 g g1 c1 g2 c2 ev D) (hc : Chg g g2 ev w w') : RefAt w' base gr fv lv R :=
  h.keep fun k hk => by
    have key : ∀ C t, Row w k C t → t = 75 ∨ t = 9 ∨ t = 96 → w'.heap[k]? = w.heap[k]? := fun C t hr ht =>
      (hr.chg hD hc (by rcases ht with h | h | h <;> subst h <;> decide) (by rcases ht with h | h | h <;> subst h <;> decide) (fun e => by rcases ht with h | h | h <;> subst h <;> cases e)).trans hr.symm
    rcases hk with rfl | hk | hk
    · exact key _ _ h.row (.inl rfl)
    · obtain ⟨_, _, cur, hr⟩ := ownsRow_lt h.first k hk
      exact key _ _ hr (.inr (.inl rfl))
    · obtain ⟨_, _, cur, hr⟩ := ownsRow_lt h.evs k hk
      exact key _ _ hr (.inr (.inr rfl))
/-- Rows of another kind stay where the document's disk changes. -/
theorem Row.chgR {w w' : World} {base gr k : Nat} {fv lv : Value} {R : Rk} {C : Array Value} {t : TypeId} (h : Row w k C t) (hR : RefAt w base gr fv lv R) (hc : ChgR gr lv w w') (h60 : t ≠ 75) (h67 : t ≠ 96) : w'.heap[k]? = w.heap[k]? :=
  hc.block k h.lt (row_ne h hR.row h60) (fun e => by
    obtain ⟨_, _, cur, hr⟩ := ownsRow_lt hR.evs k e
    exact row_ne h hr h67 rfl)
theorem DiskAt.chgR {w w' : World} {base gr : Nat} {fv lv : Value} {R : Rk} {b0 g g1 c1 g2 c2 : Nat} {ev : Value} {D : Dk} (h : DiskAt w b0 g g1 c1 g2 c2 ev D) (hR : RefAt w base gr fv lv R) (hc : ChgR gr lv w w') : DiskAt w' b0 g g1 c1 g2 c2 ev D :=
  h.keepT fun k C t hr ht => hr.chgR hR hc (by rcases ht with h | h | h <;> subst h <;> decide) (by rcases ht with h | h | h <;> subst h <;> decide)
theorem ChgR.to_below {g base : Nat} {v : Value} {w w' : World} (h : ChgR g v w w') (h1 : base ≤ g) (h3 : ∀ k, v.ownBlock = some k → base ≤ k) (hB : base ≤ w.heap.size) : Below base w w' :=
  ⟨h.os, h.tape, h.output, h.size, fun k hk => h.block k (by omega) (by omega) (fun e => by have := h3 k e; omega)⟩
theorem RefAt.to_below {w w' : World} {base gr : Nat} {fv lv : Value} {R : Rk} (h : RefAt w base gr fv lv R) (hc : ChgR gr lv w w') (hB : base ≤ w.heap.size) : Below base w w' :=
  hc.to_below h.ge (fun k hk => (ownsRow_lt h.evs k hk).2.1) hB
/-- New disks are twins. -/
theorem twin_new (s : Nat) : Twin (freshD s fun _ => 0) ⟨List.replicate s zText, []⟩ :=
  ⟨by simp [freshD], fun k hk => by
    have hk' : k < s := hk
    simp [List.getD, hk']
    rfl, rfl, rfl⟩
theorem hist_fresh (s : Nat) (f : Nat → Int) : Hist (freshD s f) f := ⟨rfl, rfl⟩
end Go.Proofs.Ytlbapnecmhlgmaa
