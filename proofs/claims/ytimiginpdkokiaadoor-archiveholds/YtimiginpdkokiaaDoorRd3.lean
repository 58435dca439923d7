/- My own work: the walks of oneOf and pass. -/
import Derived.Test.YtimiginpdkokiaaDoorRd2
import Derived.Test.YtimiginpdkokiaaDoorEncN
namespace Go.Proofs.YtimiginpdkokiaaDoor
open Go.RowKit

theorem conv_text (w : World) (b o n c : Nat) (f : Nat → Int) (s : Nat) (hc : ∀ i, i < n → w.cell? ⟨b, o + i, none⟩ = some (.int .u8 (f (s + i)))) : (convert 22 9 (.slice (some ⟨b, o, none⟩) n c)).run Tryd.prog w = .ok (.string (textF f s n)) w := by
  have h := run_convert_bytes_arg (P := Tryd.prog) w 22 5 Tryd.underlying22 Tryd.underlying5 b o n c ((List.range n).map fun i => f (s + i)) (by simp) (fun i hi => by rw [hc i hi]; simp [List.getD, hi]) 9 Tryd.underlying9
  have e : strOfNums ((List.range n).map fun i => f (s + i)) = textF f s n := by
    unfold strOfNums textF
    rw [List.map_map]
    rfl
  rw [e] at h
  exact h
/-- What oneOf tells. -/
def WordPost (I : Inp) (p : Nat) (ws : List ByteArray) (w : World) (r : Ending) (w' : World) : Prop :=
  Gr I w w' ∧ match wordF I.f I.L p ws with
    | .error e => ∃ ev, r = .returned (.tuple #[.string ⟨#[]⟩, ev]) ∧ ErrAt w' ev e
    | .ok (t, q) => r = .returned (.tuple #[.string t, .nilIface]) ∧ Rdr w' I q
theorem wordF_err {f : Nat → Int} {L p : Nat} {ws : List ByteArray} {e : Int} (h : nextF f L p = .error e) : wordF f L p ws = .error e := by unfold wordF; rw [h]
theorem wordF_hit {f : Nat → Int} {L p s n q : Nat} {ws : List ByteArray} (h : nextF f L p = .ok (s, n, q)) (i : Nat) (hi : i < ws.length) (he : ws[i] = textF f s n) : wordF f L p ws = .ok (ws[i], q) := by
  unfold wordF
  rw [h]
  simp only
  rw [if_pos (List.any_eq_true.2 ⟨ws[i], List.getElem_mem hi, by simpa using he⟩), he]
theorem wordF_miss {f : Nat → Int} {L p s n q : Nat} {ws : List ByteArray} (h : nextF f L p = .ok (s, n, q)) (hn : ∀ i (hi : i < ws.length), ws[i] ≠ textF f s n) : wordF f L p ws = .error 10 := by
  unfold wordF
  rw [h]
  simp only
  rw [if_neg]
  rw [List.any_eq_true]
  rintro ⟨x, hx, he⟩
  obtain ⟨i, hi, rfl⟩ := List.getElem_of_mem hx
  exact hn i hi (by simpa using he)
theorem toList_eqb (s t : ByteArray) : (s.toList == t.toList) = decide (s = t) := by
  rw [ByteArray.toList_eq, ByteArray.toList_eq]
  by_cases h : s = t
  · subst h; simp
  · rw [decide_eq_false h]
    apply beq_false_of_ne
    intro e
    apply h
    apply ByteArray.ext
    exact Array.ext' e
set_option maxRecDepth 20000 in
set_option maxHeartbeats 4000000 in
theorem oneOf_ok (I : Inp) (p : Nat) (w : World) (h : Rdr w I p) (ws : List ByteArray) (g c : Nat) (hT : Row w g (ws.map Value.string).toArray 9) (hc : ws.length ≤ c) (hcm : c ≤ 9223372036854775807) : Calls Tryd.prog 55 #[.pointer (some ⟨I.gR, 0, none⟩), .slice (some ⟨g, 0, none⟩) ws.length c] w fun r w' => WordPost I p ws w r w' := by
  have hgR : g ≠ I.gR := row_apart hT h.row (by decide)
  have HNX : Hid (Calls Tryd.prog 70 #[.pointer (some ⟨I.gR, 0, none⟩)] w fun r w' => NextPost I p w r w') := next_ok I p w h
  have HT : Hid (∀ wx, Gr I w wx → Row wx g (ws.map Value.string).toArray 9) := fun wx hg => hg.row hT hgR
  have HP : Hid (∀ r w', Gr I w w' → (match wordF I.f I.L p ws with | .error e => ∃ ev, r = .returned (.tuple #[.string ⟨#[]⟩, ev]) ∧ ErrAt w' ev e | .ok (t, q) => r = .returned (.tuple #[.string t, .nilIface]) ∧ Rdr w' I q) → WordPost I p ws w r w') := fun r w' g he => ⟨g, he⟩
  obtain ⟨WP, hWP⟩ : ∃ WP, WP = WordPost I p ws w := ⟨_, rfl⟩
  rw [← hWP] at HP ⊢
  clear hWP h hT
  go_enter Tryd.func55, Tryd.ntmps55
  go_wp2_with fail
  refine Calls.mono HNX.out ?_
  clear HNX
  rintro r w1 ⟨hg1, hpost⟩
  have HG1 : Hid (Gr I w w1) := hg1
  cases hnx : nextF I.f I.L p with
  | error e =>
    rw [hnx] at hpost
    obtain ⟨ev, rfl, he⟩ := hpost
    rw [wordF_err hnx] at HP
    have HE : Hid (ErrAt w1 ev e) := he
    obtain ⟨q1, q2, rfl, _⟩ := he
    clear hnx hg1
    go_wp2
    exact HP.out _ _ HG1.out ⟨_, rfl, HE.out⟩
  | ok x =>
    obtain ⟨s, n, q⟩ := x
    rw [hnx] at hpost
    obtain ⟨o, c1, rfl, ho, hn1, hn2, hn3, hr1⟩ := hpost
    have hcv := conv_text w1 I.b o n c1 I.f s (fun i hi => by rw [ho (by omega), Nat.add_assoc]; exact hr1.cell (s + i) (by omega))
    have HNXT : Hid (nextF I.f I.L p = .ok (s, n, q)) := hnx
    have HR1 : Hid (Rdr w1 I q) := hr1
    have HW : Hid (Calls Tryd.prog 44 #[.pointer (some ⟨I.gR, 0, none⟩), .int .i64 10] w1 fun r w' => ∃ ev, r = .returned ev ∧ ErrAt w' ev 10 ∧ Below w1.heap.size w1 w') := wrong_ok I q w1 hr1 10
    have HRT : Hid (Row w1 g (ws.map Value.string).toArray 9) := HT.out w1 hg1
    obtain ⟨t, ht⟩ : ∃ t, t = textF I.f s n := ⟨_, rfl⟩
    have HTT : Hid (t = textF I.f s n) := ht
    rw [← ht] at hcv
    clear ht hnx hr1 hg1 ho HT
    go_wp2_with fail
    go_loopw [20] (fun iv wx => ∃ i : Nat, iv = .int .i64 i ∧ i ≤ ws.length ∧ wx = w1 ∧ Hid (∀ j (hj : j < ws.length), j < i → ws[j] ≠ t)) (fun iv _ => ws.length - (intOf iv).toNat)
    case atStart => exact ⟨0, rfl, Nat.zero_le _, rfl, fun j _ hj => absurd hj (by omega)⟩
    case round =>
      obtain ⟨i, rfl, hi, rfl, HNE⟩ := hrel
      by_cases hlt : i < ws.length
      · have hlt' : (i : Int) < (ws.length : Int) := by omega
        have cw := (HRT.out.cell i).trans (show _ = some (Value.string ws[i]) by simp [hlt])
        obtain ⟨u, hu⟩ : ∃ u, u = ws[i] := ⟨_, rfl⟩
        have HU : Hid (u = ws[i]) := hu
        rw [← hu] at cw
        clear hu
        have heq := toList_eqb t u
        by_cases htu : t = u
        · rw [decide_eq_true htu] at heq
          have HPW : Hid (wordF I.f I.L p ws = .ok (u, q)) := by
            show _ = _
            rw [HU.out]
            exact wordF_hit HNXT.out i hlt (by rw [← HU.out, ← htu, HTT.out])
          rw [HPW.out] at HP
          clear HPW htu
          go_wp2
          exact HP.out _ _ HG1.out ⟨rfl, HR1.out⟩
        · rw [decide_eq_false htu] at heq
          have HNE2 : Hid (∀ j (hj : j < ws.length), j < i + 1 → ws[j] ≠ t) := fun j hj hji => by
            rcases Nat.lt_succ_iff_lt_or_eq.1 hji with h1 | h1
            · exact HNE.out j hj h1
            · subst h1
              rw [← HU.out]
              exact fun e => htu e.symm
          clear htu HNE
          go_wp2
          go_roundw
          case rel => exact ⟨i + 1, by go_num, by omega, by trivial, HNE2⟩
          case measure => simp [intOf]; omega
      · have hlt' : ¬ (i : Int) < (ws.length : Int) := by omega
        have HPW : Hid (wordF I.f I.L p ws = .error 10) := wordF_miss HNXT.out (fun j hj => by rw [← HTT.out]; exact HNE.out j hj (by omega))
        rw [HPW.out] at HP
        clear HPW HNE
        go_wp2_with fail
        refine Calls.mono HW.out ?_
        rintro r w6 ⟨ev, rfl, he, hb6⟩
        have HE : Hid (ErrAt w6 ev 10) := he
        have HG6 : Hid (Gr I w w6) := HG1.out.trans (Gr.of hb6)
        clear he hb6 HW
        go_wp2
        exact HP.out _ _ HG6.out ⟨_, rfl, HE.out⟩
/-- What pass tells. -/
def PassPost (I : Inp) (p : Nat) (ws : List ByteArray) (w : World) (r : Ending) (w' : World) : Prop :=
  Gr I w w' ∧ match passF I.f I.L p ws with
    | .error e => ∃ ev, r = .returned ev ∧ ErrAt w' ev e
    | .ok q => r = .returned .nilIface ∧ Rdr w' I q
theorem passF_next {f : Nat → Int} {L p : Nat} (ws : List ByteArray) (i : Nat) (hi : i < ws.length) : passF f L p (ws.drop i) = match wordF f L p [ws[i]] with | .error e => .error e | .ok (_, q) => passF f L q (ws.drop (i + 1)) := by
  rw [List.drop_eq_getElem_cons hi]
  rfl
set_option maxRecDepth 20000 in
set_option maxHeartbeats 4000000 in
theorem pass_ok (I : Inp) (p : Nat) (w : World) (h : Rdr w I p) (ws : List ByteArray) (g c : Nat) (hT : Row w g (ws.map Value.string).toArray 9) (hc : ws.length ≤ c) (hcm : c ≤ 9223372036854775807) : Calls Tryd.prog 42 #[.pointer (some ⟨I.gR, 0, none⟩), .slice (some ⟨g, 0, none⟩) ws.length c] w fun r w' => PassPost I p ws w r w' := by
  have hgR : g ≠ I.gR := row_apart hT h.row (by decide)
  have HT : Hid (∀ wx, Gr I w wx → Row wx g (ws.map Value.string).toArray 9) := fun wx hg => hg.row hT hgR
  have HP : Hid (∀ r w', Gr I w w' → (match passF I.f I.L p ws with | .error e => ∃ ev, r = .returned ev ∧ ErrAt w' ev e | .ok q => r = .returned .nilIface ∧ Rdr w' I q) → PassPost I p ws w r w') := fun r w' g he => ⟨g, he⟩
  have HH : Hid (Rdr w I p) := h
  obtain ⟨PP, hPP⟩ : ∃ PP, PP = PassPost I p ws w := ⟨_, rfl⟩
  rw [← hPP] at HP ⊢
  clear hPP h hT
  go_enter Tryd.func42, Tryd.ntmps42
  go_wp2_with fail
  go_loopw [11] (fun iv wx => ∃ i p1 : Nat, iv = .int .i64 i ∧ i ≤ ws.length ∧ Hid (Rdr wx I p1) ∧ Hid (Gr I w wx) ∧ Hid (passF I.f I.L p1 (ws.drop i) = passF I.f I.L p ws)) (fun iv _ => ws.length - (intOf iv).toNat)
  case atStart => exact ⟨0, p, rfl, Nat.zero_le _, HH, Gr.refl I w, rfl⟩
  case round =>
    obtain ⟨i, p1, rfl, hi, HR, HG, HF⟩ := hrel
    by_cases hlt : i < ws.length
    · have hlt' : (i : Int) < (ws.length : Int) := by omega
      have cw := ((HT.out _ HG.out).cell i).trans (show _ = some (Value.string ws[i]) by simp [hlt])
      have hfn := passF_next (f := I.f) (L := I.L) (p := p1) ws i hlt
      rw [HF.out] at hfn
      obtain ⟨u, hu⟩ : ∃ u, u = ws[i] := ⟨_, rfl⟩
      rw [← hu] at cw hfn
      clear hu HF
      have hba : Below wr.heap.size wr (wr.alloc (.cells #[.string u] 9)) := (Below.refl _ _).alloc (Nat.le_refl _) _
      have HC : Hid (Calls Tryd.prog 55 #[.pointer (some ⟨I.gR, 0, none⟩), .slice (some ⟨wr.heap.size, 0, none⟩) 1 1] (wr.alloc (.cells #[.string u] 9)) fun r w' => WordPost I p1 [u] (wr.alloc (.cells #[.string u] 9)) r w') := oneOf_ok I p1 _ (HR.out.keep hba) [u] wr.heap.size 1 (Row.new wr _ 9) (Nat.le_refl _) (by omega)
      have HBA : Hid (Gr I wr (wr.alloc (.cells #[.string u] 9))) := Gr.of hba
      clear hba HR
      have HFN : Hid _ := hfn
      clear hfn
      go_wp2_with (refine b_texts rfl _ [u] rfl (Nat.succ_pos _) (Nat.le_of_ble_eq_true rfl) rfl ?_)
      refine Calls.mono HC.out ?_
      clear HC
      rintro r w2 ⟨hg2, hpost⟩
      have HG2 : Hid (Gr I w w2) := HG.out.trans (HBA.out.trans hg2)
      clear hg2 HBA HG cw
      cases hwf : wordF I.f I.L p1 [u] with
      | error e =>
        rw [hwf] at hpost HFN
        obtain ⟨ev, rfl, he⟩ := hpost
        rw [HFN.out] at HP
        have HE : Hid (ErrAt w2 ev e) := he
        obtain ⟨q1, q2, rfl, _⟩ := he
        clear hwf HFN
        go_wp2
        exact HP.out _ _ HG2.out ⟨_, rfl, HE.out⟩
      | ok x =>
        obtain ⟨t, q⟩ := x
        rw [hwf] at hpost HFN
        obtain ⟨rfl, hr⟩ := hpost
        have HR2 : Hid (Rdr w2 I q) := hr
        have HF2 : Hid (passF I.f I.L q (ws.drop (i + 1)) = passF I.f I.L p ws) := HFN.out.symm
        clear hwf HFN hr
        go_wp2
        go_roundw
        case rel => exact ⟨i + 1, q, by go_num, by omega, HR2, HG2, HF2⟩
        case measure => simp [intOf]; omega
    · have hlt' : ¬ (i : Int) < (ws.length : Int) := by omega
      have HPW : Hid (passF I.f I.L p ws = .ok p1) := by
        have h := HF.out
        rw [List.drop_eq_nil_of_le (by omega)] at h
        exact h.symm
      rw [HPW.out] at HP
      clear HPW HF
      go_wp2
      exact HP.out _ _ HG.out ⟨rfl, HR.out⟩
/-- pass of words that were just written as a list. -/
theorem pass1_ok (I : Inp) (p : Nat) (w : World) (h : Rdr w I p) (ws : List ByteArray) (h10 : ws.length ≤ 10) (g : Nat) (hg : g = w.heap.size) (m : Nat) (hm : m = ws.length) (cs : Array Value) (hcs : cs = (ws.map Value.string).toArray) : Calls Tryd.prog 42 #[.pointer (some ⟨I.gR, 0, none⟩), .slice (some ⟨g, 0, none⟩) m m] (w.alloc (.cells cs 9)) fun r w' => PassPost I p ws w r w' := by
  subst hg hm hcs
  have hb : Below w.heap.size w (w.alloc (.cells (ws.map Value.string).toArray 9)) := (Below.refl _ _).alloc (Nat.le_refl _) _
  refine (pass_ok I p _ (h.keep hb) ws w.heap.size ws.length (Row.new w _ 9) (Nat.le_refl _) (by omega)).mono ?_
  rintro r w' ⟨hg, hp⟩
  exact ⟨(Gr.of hb).trans hg, hp⟩
theorem oneOf1_ok (I : Inp) (p : Nat) (w : World) (h : Rdr w I p) (ws : List ByteArray) (h10 : ws.length ≤ 10) (g : Nat) (hg : g = w.heap.size) (m : Nat) (hm : m = ws.length) (cs : Array Value) (hcs : cs = (ws.map Value.string).toArray) : Calls Tryd.prog 55 #[.pointer (some ⟨I.gR, 0, none⟩), .slice (some ⟨g, 0, none⟩) m m] (w.alloc (.cells cs 9)) fun r w' => WordPost I p ws w r w' := by
  subst hg hm hcs
  have hb : Below w.heap.size w (w.alloc (.cells (ws.map Value.string).toArray 9)) := (Below.refl _ _).alloc (Nat.le_refl _) _
  refine (oneOf_ok I p _ (h.keep hb) ws w.heap.size ws.length (Row.new w _ 9) (Nat.le_refl _) (by omega)).mono ?_
  rintro r w' ⟨hg, hp⟩
  exact ⟨(Gr.of hb).trans hg, hp⟩
end Go.Proofs.YtimiginpdkokiaaDoor
