/- The walk of look: a header's numbers, and whether it stands. -/
import Derived.Test.YtdbnnljlbfjobaaGreatDoorOpen
namespace Go.Proofs.YtdbnnljlbfjobaaGreatDoor
open Go.RowKit

theorem word_bd (f : Nat → Int) (hf : ∀ i, 0 ≤ f i ∧ f i < 256) (i : Nat) : 0 ≤ word f i ∧ word f i < 18446744073709551616 := by
  have h := num_bd (fun j => f (i * 8 + j)) (fun j => hf _) 8
  have e : (256 : Int) ^ 8 = 18446744073709551616 := by decide
  rw [e] at h
  exact h
/-- The first k numbers of a header. -/
def wordsL (f : Nat → Int) (k : Nat) : List Nat := (List.range k).map fun i => (word f (2 + i)).toNat
theorem wordsL_len (f : Nat → Int) (k : Nat) : (wordsL f k).length = k := by simp [wordsL]
theorem wordsL_succ (f : Nat → Int) (k : Nat) : wordsL f (k + 1) = wordsL f k ++ [(word f (2 + k)).toNat] := by simp [wordsL, List.range_succ]
theorem wordsL_at (f : Nat → Int) (k i : Nat) (h : i < k) : (wordsL f k).getD i 0 = (word f (2 + i)).toNat := by simp [wordsL, List.getD, h]
/-- The i-th number may be. -/
def okW (f : Nat → Int) (s at' sec i : Nat) : Prop := word f (2 + i) < s ∧ (word f (2 + i) < at' ∨ (at' : Int) + sec ≤ word f (2 + i)) ∧ (0 < i → word f (2 + (i - 1)) < word f (2 + i))
/-- A header that stands, with so many numbers. -/
structure Stands (f : Nat → Int) (s at' sec cnt : Nat) : Prop where
  mark : unmarked f → False
  count : word f 1 = cnt
  lo : 1 ≤ cnt
  hi : cnt + 1 ≤ sec
  ok : ∀ i, i < cnt → okW f s at' sec i

set_option maxRecDepth 20000 in
set_option maxHeartbeats 4000000 in
/-- A header with the mark and a count that may be: its numbers, up to the first that may not be. -/
theorem look_go {w : World} {b0 g1 c1 g2 c2 gd : Nat} {ev : Value} {D : Dk} {jb gj gm : Nat} {J : Jn} (hD : DiskAt w b0 gd g1 c1 g2 c2 ev D) (hJ : JAt w jb gj gm gd J) (hs : J.at' + J.sec ≤ D.s) (h31 : J.sec ≤ 31) (b c : Nat) (f : Nat → Int) (hc : 256 ≤ c) (hc2 : c ≤ maxLen) (C : Array Value) (hR : Row w b C 5) (hC : ∀ i, i < 256 → C[i]? = some (.int .u8 (f i))) (hf : ∀ i, 0 ≤ f i ∧ f i < 256)
    (hm : ((s8 f).toList == [115, 116, 105, 108, 108, 119, 97, 108]) = true) (cnt : Nat) (hcnt : word f 1 = cnt) (hlo : 1 ≤ cnt) (hhi : cnt + 1 ≤ J.sec) :
    Calls Tryz.prog 108 #[.pointer (some ⟨gj, 0, none⟩), .slice (some ⟨b, 0, none⟩) 256 c] w fun e w' => ∃ k v, e = .returned (.tuple #[v, .bool (decide (k = cnt))]) ∧ k ≤ cnt ∧ (∀ i, i < k → okW f D.s J.at' J.sec i) ∧ (k < cnt → ¬ okW f D.s J.at' J.sec k) ∧ NumsAt w' w.heap.size v (wordsL f k) ∧ Below w.heap.size w w' := by
  have hDh := hD.ok.hi
  have hDl := hD.ok.lo
  have hcv := fun cap => conv8 w b cap f (fun i hi => by rw [hR.cell i]; exact hC i (by omega))
  obtain ⟨S, hS⟩ : ∃ S, s8 f = S := ⟨_, rfl⟩
  simp only [hS] at hcv hm
  have HW1 := wordOf_any b c 1 f w (by omega) hc hc2 (fun i hi => by rw [hR.cell i]; exact hC i hi) hf
  rw [hcnt, show ((1 : Nat) : Int) = 1 from rfl] at HW1
  have HM := most_yes hD hJ h31
  have HWn : Hid (∀ wx, Below w.heap.size w wx → ∀ i : Nat, i ≤ 29 → Calls Tryz.prog 128 #[.slice (some ⟨b, 0, none⟩) 256 c, .int .i64 (2 + (i : Int))] wx fun e w' => e = .returned (.int .u64 (word f (2 + i))) ∧ w' = wx) := fun wx hb i hi => by
    have hRx := hR.below hb hR.lt
    have h := wordOf_any b c (2 + i) f wx (by omega) hc hc2 (fun j hj => by rw [hRx.cell j]; exact hC j hj) hf
    rwa [show ((2 + i : Nat) : Int) = 2 + (i : Int) by omega] at h
  have HBD : Hid (∀ i, 0 ≤ word f i ∧ word f i < 18446744073709551616) := word_bd f hf
  unfold maxLen at hc2
  have HHW : Hid _ := HW1
  have HHM : Hid _ := HM
  have HD : Hid _ := hD
  have HJ : Hid _ := hJ
  have hcw : IntKind.u64.wrap ((J.sec : Int) - 1) = (J.sec : Int) - 1 := by rw [IntKind.wrap_u64]; omega
  have hci : IntKind.i64.wrap (cnt : Int) = cnt := by rw [IntKind.wrap_i64]; omega
  have hl1 : ¬ (cnt : Int) < 1 := by omega
  have hl2 : ¬ ((J.sec : Int) - 1 < cnt) := by omega
  have hfq := hf
  clear hS hR hC HW1 HM hD hJ hcnt hf
  go_enter Tryz.func108, Tryz.ntmps108
  go_wp2
  go_step3
  go_wp2_with fail
  refine Calls.mono HHW.out ?_
  rintro e w' ⟨rfl, hw'⟩
  subst w'
  go_wp2_with fail
  refine Calls.mono HHM.out ?_
  rintro e w' ⟨rfl, hw'⟩
  subst w'
  clear HHW HHM hcv
  go_wp2
  go_step3
  go_wp2
  go_loopw [4, 26] (fun nv iv wx => ∃ i : Nat, i ≤ cnt ∧ iv = .int .i64 i ∧ Hid (∀ q, q < i → okW f D.s J.at' J.sec q) ∧ Hid (wx.ownsRow w.heap.size 3 1 nv (wordsL f i).length ((wordsL f i).map fun k => Value.int .i64 (k : Nat))) ∧ Hid (Below w.heap.size w wx)) (fun _ iv _ => cnt - (intOf iv).toNat)
  case atStart => exact ⟨0, Nat.zero_le _, rfl, (fun q h => absurd h (Nat.not_lt_zero q)), World.ownsRow_nil _ _ _ _, Below.refl _ _⟩
  case round =>
    obtain ⟨i, hi, rfl, hOk, hOw, hB⟩ := hrel
    have hsz := hB.out.size
    have hNums : Hid (NumsAt wr w.heap.size u4 (wordsL f i)) := by
      rcases own_ints hOw.out with ⟨h1, h2⟩ | ⟨b', c', h1, h2, h3⟩
      · exact ⟨none, 0, by rw [h1, h2]; rfl, fun h => absurd h (by rw [h2]; simp)⟩
      · exact ⟨_, c', h1, fun _ => ⟨b', rfl, h2, h3⟩⟩
    obtain ⟨ua, uc, hu⟩ : ∃ ua uc, u4 = .slice ua i uc := by
      rcases own_ints hOw.out with ⟨h1, h2⟩ | ⟨b', c', h1, h2, h3⟩
      · have : i = 0 := by rw [← wordsL_len f i, h2]; rfl
        subst this
        exact ⟨none, 0, h1⟩
      · exact ⟨_, c', by rw [h1, wordsL_len]⟩
    by_cases hlt : i < cnt
    · have hWi := HWn.out wr hB.out i (by omega)
      have hSe := sectors_yes gd g2 D.s c2 wr (HD.out.below hB.out (Nat.le_refl _)).cell1 hDl hDh
      have hJr := HJ.out.below hB.out
      have c0 := (hJr.row.cell 0).trans (rfl : _ = some (Value.pointer (some ⟨gd, 0, none⟩)))
      have hwb := HBD.out (2 + i)
      obtain ⟨wi, hwi⟩ : ∃ wi, word f (2 + i) = wi := ⟨_, rfl⟩
      rw [hwi] at hWi hwb
      have HWI : Hid _ := hwi
      have hsu : IntKind.u64.wrap (D.s : Int) = D.s := by rw [IntKind.wrap_u64]; omega
      have HWi : Hid _ := hWi
      have HSe : Hid _ := hSe
      have HJr : Hid _ := hJr
      clear hWi hSe hJr hwi
      by_cases hge : (D.s : Int) ≤ wi
      · skip
        subst hu
        go_wp2_with fail
        refine Calls.mono HWi.out ?_
        rintro e w' ⟨rfl, hw'⟩
        subst w'
        go_wp2_with fail
        refine Calls.mono HSe.out ?_
        rintro e w' ⟨rfl, hw'⟩
        subst w'
        have hne : ((i : Int) == (cnt : Int)) = false := by rw [beq_eq_false_iff_ne]; omega
        have hnek : ¬ okW f D.s J.at' J.sec i := fun h => by have := h.1; rw [show word f (2 + i) = wi from HWI.out] at this; omega
        clear HWi HSe c0
        go_wp2
        (try rw [Exit.noGoto_ret])
        go_ret2
        exact ⟨i, .slice ua i uc, by rw [show decide (i = cnt) = false from decide_eq_false (by omega)]; rfl, hi, hOk.out, fun _ => hnek, hNums.out, hB.out⟩
      · have hwl : wi < D.s := by omega
        have hwc : IntKind.i64.wrap wi = wi := by rw [IntKind.wrap_i64]; omega
        have hOwn := owns_any HJr.out (by omega) wi
        by_cases hown : (J.at' : Int) ≤ wi ∧ wi < (J.at' : Int) + J.sec
        · skip
          rw [show decide ((J.at' : Int) ≤ wi ∧ wi < (J.at' : Int) + J.sec) = true from decide_eq_true hown] at hOwn
          have HOwn : Hid _ := hOwn
          clear hOwn
          subst hu
          go_wp2_with fail
          refine Calls.mono HWi.out ?_
          rintro e w' ⟨rfl, hw'⟩
          subst w'
          go_wp2_with fail
          refine Calls.mono HSe.out ?_
          rintro e w' ⟨rfl, hw'⟩
          subst w'
          go_wp2_with fail
          refine Calls.mono HOwn.out ?_
          rintro e w' ⟨rfl, hw'⟩
          subst w'
          have hne : ((i : Int) == (cnt : Int)) = false := by rw [beq_eq_false_iff_ne]; omega
          have hnek : ¬ okW f D.s J.at' J.sec i := fun h => by have := h.2.1; rw [show word f (2 + i) = wi from HWI.out] at this; omega
          have hN2 : Hid (NumsAt wr.drew w.heap.size (.slice ua i uc) (wordsL f i)) := hNums.out.fr (Fr.of_below (g2 := g2) (Below.refl wr.heap.size wr).drew)
          have hB2 : Hid (Below w.heap.size w wr.drew) := hB.out.drew
          clear HWi HSe HOwn c0
          go_wp2
          (try rw [Exit.noGoto_ret])
          go_ret2
          exact ⟨i, .slice ua i uc, by rw [show decide (i = cnt) = false from decide_eq_false (by omega)]; rfl, hi, hOk.out, fun _ => hnek, hN2.out, hB2.out⟩
        · skip
          rw [show decide ((J.at' : Int) ≤ wi ∧ wi < (J.at' : Int) + J.sec) = false from decide_eq_false hown] at hOwn
          have HOwn : Hid _ := hOwn
          clear hOwn
          obtain ⟨wn, rfl⟩ : ∃ wn : Nat, wi = (wn : Int) := ⟨wi.toNat, by omega⟩
          have hokA : word f (2 + i) < D.s ∧ (word f (2 + i) < J.at' ∨ (J.at' : Int) + J.sec ≤ word f (2 + i)) := by rw [show word f (2 + i) = (wn : Int) from HWI.out]; omega
          have hwsu : Hid (wordsL f (i + 1) = wordsL f i ++ [wn]) := by show _ = _; rw [wordsL_succ, show word f (2 + i) = (wn : Int) from HWI.out]; rfl
          have hOD : Hid (wr.drew.ownsRow w.heap.size 3 1 u4 (wordsL f i).length ((wordsL f i).map fun k => Value.int .i64 (k : Nat))) := ownsRow_below hOw.out (Below.refl wr.heap.size wr).drew
          have hwl1000 : (wordsL f i).length ≤ 1000 := by rw [wordsL_len]; omega
          have hBd : Hid (Below w.heap.size w wr.drew) := hB.out.drew
          have hszd : w.heap.size ≤ wr.drew.heap.size := hsz
          by_cases hbad : 0 < i ∧ (wn : Int) ≤ word f (2 + (i - 1))
          · skip
            obtain ⟨k, rfl⟩ : ∃ k, i = k + 1 := ⟨i - 1, by omega⟩
            obtain ⟨b', c', hu2, hb2, hI2⟩ : ∃ b' c', u4 = .slice (some ⟨b', 0, none⟩) (k + 1) c' ∧ w.heap.size ≤ b' ∧ Ints wr b' (k + 1) (fun q => ((wordsL f (k + 1)).getD q 0 : Nat)) := by
              rcases own_ints hOw.out with ⟨_, h2⟩ | ⟨b', c', h1, h2, h3⟩
              · have := wordsL_len f (k + 1); rw [h2] at this; simp at this
              · rw [wordsL_len] at h1 h3; exact ⟨b', c', h1, h2, h3⟩
            have ck := (hI2.keep (w' := wr.drew) rfl).cell k (by omega)
            rw [wordsL_at f (k + 1) k (by omega)] at ck
            have hpb := HBD.out (2 + k)
            have hbad2 : (wn : Int) ≤ ((word f (2 + k)).toNat : Int) := by have := hbad.2; rw [Nat.add_sub_cancel] at this; omega
            generalize (word f (2 + k)).toNat = pk at *
            subst hu2
            have hne : ((k : Int) + 1 == (cnt : Int)) = false := by rw [beq_eq_false_iff_ne]; omega
            have hkI : (k : Int) < (k : Int) + 1 := by omega
            have hwk : IntKind.i64.wrap (k : Int) = k := by rw [IntKind.wrap_i64]; omega
            have hk0 : (0 : Int) < (k : Int) + 1 := by omega
            have hk0' : (0 : Int) ≤ (k : Int) := by omega
            have hnek : ¬ okW f D.s J.at' J.sec (k + 1) := fun h => by have := h.2.2 (by omega); rw [show word f (2 + (k + 1)) = (wn : Int) from HWI.out] at this; have := hbad.2; omega
            have hN2 : Hid (NumsAt wr.drew w.heap.size (.slice (some ⟨b', 0, none⟩) (k + 1) c') (wordsL f (k + 1))) := hNums.out.fr (Fr.of_below (g2 := g2) (Below.refl wr.heap.size wr).drew)
            clear hu hOD hwsu hI2
            go_wp2_with fail
            refine Calls.mono HWi.out ?_
            rintro e w' ⟨rfl, hw'⟩
            subst w'
            go_wp2_with fail
            refine Calls.mono HSe.out ?_
            rintro e w' ⟨rfl, hw'⟩
            subst w'
            go_wp2_with fail
            refine Calls.mono HOwn.out ?_
            rintro e w' ⟨rfl, hw'⟩
            subst w'
            clear HWi HSe HOwn c0
            go_wp2
            (try rw [Exit.noGoto_ret])
            go_ret2
            exact ⟨k + 1, .slice (some ⟨b', 0, none⟩) (k + 1) c', by rw [show decide (k + 1 = cnt) = false from decide_eq_false (by omega)]; rfl, hi, hOk.out, fun _ => hnek, hN2.out, hBd.out⟩
          · skip
            have hokI : okW f D.s J.at' J.sec i := ⟨hokA.1, hokA.2, fun h0 => by
              rw [show word f (2 + i) = (wn : Int) from HWI.out]
              rcases Int.lt_or_le (word f (2 + (i - 1))) (wn : Int) with h | h
              · exact h
              · exact absurd ⟨h0, h⟩ hbad⟩
            have hOk2 : Hid (∀ q, q < i + 1 → okW f D.s J.at' J.sec q) := fun q hq => by
              by_cases e : q = i
              · subst e; exact hokI
              · exact hOk.out q (by omega)
            clear hokI hokA
            cases i with
            | zero =>
              subst hu
              go_wp2_with fail
              refine Calls.mono HWi.out ?_
              rintro e w' ⟨rfl, hw'⟩
              subst w'
              go_wp2_with fail
              refine Calls.mono HSe.out ?_
              rintro e w' ⟨rfl, hw'⟩
              subst w'
              go_wp2_with fail
              refine Calls.mono HOwn.out ?_
              rintro e w' ⟨rfl, hw'⟩
              subst w'
              clear HWi HSe HOwn c0
              generalize wr.drew = wD at *
              go_wp2_with (at_builtin; refine wpList_num rfl _ _ rfl w.heap.size (.slice ua 0 uc) (wordsL f 0) wn wD rfl rfl hOD wD.heap.size rfl rfl hwl1000 hszd ?_)
              intro v' w3 own3 grow3
              have hO1 : (wD.alloc (.cells #[.int .i64 (wn : Int)] 3)).ownsRow w.heap.size 3 1 (.slice ua 0 uc) (wordsL f 0).length ((wordsL f 0).map fun k => Value.int .i64 (k : Nat)) := World.ownsRow.alloc (show wD.ownsRow _ 3 1 _ _ _ from hOD) _
              have hB3 : Hid (Below w.heap.size w w3) := own_grown hO1 (hBd.out.alloc hszd _) (by simp; omega) grow3
              have hOw3 : Hid (w3.ownsRow w.heap.size 3 1 v' (wordsL f (0 + 1)).length ((wordsL f (0 + 1)).map fun k => Value.int .i64 (k : Nat))) := by
                show World.ownsRow _ _ _ _ _ _ _
                rw [show wordsL f (0 + 1) = _ from hwsu.out]
                simpa using own3.out
              clear own3 grow3 hO1 hOD hwsu
              go_wp2
              go_roundw
              case rel => exact ⟨0 + 1, by omega, by go_num, hOk2, hOw3, hB3⟩
              case measure => simp [intOf]; omega
            | succ k =>
              obtain ⟨b', c', hu2, hb2, hI2⟩ : ∃ b' c', u4 = .slice (some ⟨b', 0, none⟩) (k + 1) c' ∧ w.heap.size ≤ b' ∧ Ints wr b' (k + 1) (fun q => ((wordsL f (k + 1)).getD q 0 : Nat)) := by
                rcases own_ints hOw.out with ⟨_, h2⟩ | ⟨b', c', h1, h2, h3⟩
                · have := wordsL_len f (k + 1); rw [h2] at this; simp at this
                · rw [wordsL_len] at h1 h3; exact ⟨b', c', h1, h2, h3⟩
              have ck := (hI2.keep (w' := wr.drew) rfl).cell k (by omega)
              rw [wordsL_at f (k + 1) k (by omega)] at ck
              have hpb := HBD.out (2 + k)
              have hgood2 : ¬ (wn : Int) ≤ ((word f (2 + k)).toNat : Int) := fun h => hbad ⟨by omega, by rw [Nat.add_sub_cancel]; omega⟩
              generalize (word f (2 + k)).toNat = pk at *
              subst hu2
              have hkI : (k : Int) < (k : Int) + 1 := by omega
              have hwk : IntKind.i64.wrap (k : Int) = k := by rw [IntKind.wrap_i64]; omega
              have hk0 : (0 : Int) < (k : Int) + 1 := by omega
              have hk0' : (0 : Int) ≤ (k : Int) := by omega
              clear hu hI2 hbad
              go_wp2_with fail
              refine Calls.mono HWi.out ?_
              rintro e w' ⟨rfl, hw'⟩
              subst w'
              go_wp2_with fail
              refine Calls.mono HSe.out ?_
              rintro e w' ⟨rfl, hw'⟩
              subst w'
              go_wp2_with fail
              refine Calls.mono HOwn.out ?_
              rintro e w' ⟨rfl, hw'⟩
              subst w'
              clear HWi HSe HOwn c0
              generalize wr.drew = wD at *
              go_wp2_with (at_builtin; refine wpList_num rfl _ _ rfl w.heap.size (.slice (some ⟨b', 0, none⟩) (k + 1) c') (wordsL f (k + 1)) wn wD rfl rfl hOD wD.heap.size rfl rfl hwl1000 hszd ?_)
              intro v' w3 own3 grow3
              have hO1 : (wD.alloc (.cells #[.int .i64 (wn : Int)] 3)).ownsRow w.heap.size 3 1 (.slice (some ⟨b', 0, none⟩) (k + 1) c') (wordsL f (k + 1)).length ((wordsL f (k + 1)).map fun k => Value.int .i64 (k : Nat)) := World.ownsRow.alloc (show wD.ownsRow _ 3 1 _ _ _ from hOD) _
              have hB3 : Hid (Below w.heap.size w w3) := own_grown hO1 (hBd.out.alloc hszd _) (by simp; omega) grow3
              have hOw3 : Hid (w3.ownsRow w.heap.size 3 1 v' (wordsL f ((k + 1) + 1)).length ((wordsL f ((k + 1) + 1)).map fun k => Value.int .i64 (k : Nat))) := by
                show World.ownsRow _ _ _ _ _ _ _
                rw [show wordsL f ((k + 1) + 1) = _ from hwsu.out]
                simpa using own3.out
              clear own3 grow3 hO1 hOD hwsu
              go_wp2
              go_roundw
              case rel => exact ⟨(k + 1) + 1, by omega, by go_num, hOk2, hOw3, hB3⟩
              case measure => simp [intOf]; omega
    · skip
      have hic : i = cnt := by omega
      subst hic
      subst hu
      go_wp2
      (try rw [Exit.noGoto_ret])
      go_ret2
      exact ⟨i, .slice ua i uc, by simp, hi, hOk.out, fun h => absurd h (Nat.lt_irrefl _), hNums.out, hB.out⟩
end Go.Proofs.YtdbnnljlbfjobaaGreatDoor
