/- My own work: the walk of letter. -/
import Derived.Test.YtmpgfepkdhjibaaDoorRd8a
import Derived.Test.YtmpgfepkdhjibaaDoorLawQ
namespace Go.Proofs.YtmpgfepkdhjibaaDoor
open Go.RowKit

theorem sign_meant {c x : UInt8} (h : meantN x = some c) : signN c = some x := by
  unfold meantN at h
  by_cases h1 : x = 34
  · rw [if_pos h1] at h; cases h; rw [h1]; rfl
  rw [if_neg h1] at h
  by_cases h2 : x = 92
  · rw [if_pos h2] at h; cases h; rw [h2]; rfl
  rw [if_neg h2] at h
  by_cases h3 : x = 110
  · rw [if_pos h3] at h; cases h; rw [h3]; rfl
  rw [if_neg h3] at h
  by_cases h4 : x = 114
  · rw [if_pos h4] at h; cases h; rw [h4]; rfl
  rw [if_neg h4] at h
  by_cases h5 : x = 116
  · rw [if_pos h5] at h; cases h; rw [h5]; rfl
  rw [if_neg h5] at h
  cases h
theorem drop_cons (l : List UInt8) (p : Nat) (h : p < l.length) : l.drop p = l.getD p 0 :: l.drop (p + 1) := by
  rw [List.drop_eq_getElem_cons h]
  simp [List.getD, h]
/-- What letter tells: a byte, and where it ends; or that none is there. -/
def LetterPost (g : Nat) (s : ByteArray) (p : Nat) (w : World) (r : Ending) (w' : World) : Prop :=
  Gr g w w' ∧ ∃ c : UInt8, r = .returned (.int .u8 c.toNat) ∧ ((∃ p', Rd w' g s p' none ∧ p < p' ∧ (bl s).drop p = escU c ++ (bl s).drop p') ∨ (∃ p', Rd w' g s p' (some 10) ∧ ∀ c r, (bl s).drop p ≠ escU c ++ r))
theorem pre1 (x : UInt8) (l : List UInt8) : preB [x] l = decide (l.head? = some x) := by
  unfold preB
  cases l with
  | nil => rfl
  | cons a l =>
    by_cases h : a = x
    · subst h
      simp
    · simp [h]
theorem orE_10 (er : Option Int) (h : er = none ∨ er = some 10) : orE er 10 = some 10 := by rcases h with rfl | rfl <;> rfl
set_option maxRecDepth 20000 in
set_option maxHeartbeats 4000000 in
theorem letter_ok (g : Nat) (s : ByteArray) (p : Nat) (w : World) (h : Rd w g s p none) (hT : ETab w) (hg : 0 ≠ g) (hq : ((bl s).drop p).head? ≠ some 34) : Calls Tryd.prog 73 #[.pointer (some ⟨g, 0, none⟩)] w fun r w' => LetterPost g s p w r w' := by
  have hbl := bl_len s
  have hle := h.le
  have HS := sees_ok g s p none ⟨#[92]⟩ w h
  have hsb : seesB s p none (bl ⟨#[92]⟩) = decide (((bl s).drop p).head? = some 92) := by
    show (true && preB [92] ((bl s).drop p)) = _
    rw [Bool.true_and, pre1]
  rw [hsb] at HS
  have HH : Hid (Rd w g s p none) := h
  have HT : Hid (ETab w) := hT
  have HTG : Hid (∀ wx, Gr g w wx → ETab wx) := fun wx hgr => by
    obtain ⟨t, fr, ht⟩ := HT.out
    exact ⟨t, fr, (hgr.block 0 HT.out.pos (fun e => hg (Option.some.inj e))).trans ht⟩
  obtain ⟨LP, hLP⟩ : ∃ LP, LP = LetterPost g s p w := ⟨_, rfl⟩
  have HLP : Hid (∀ r w', LetterPost g s p w r w' → LP r w') := fun r w' h => by rw [hLP]; exact h
  rw [← hLP]
  clear h hT hsb hLP
  by_cases h92 : ((bl s).drop p).head? = some 92
  · rw [decide_eq_true h92] at HS
    have hp : p < s.size := by
      by_cases hp : p < s.size
      · exact hp
      · rw [List.drop_of_length_le (by omega)] at h92
        cases h92
    have hd : (bl s).drop p = 92 :: (bl s).drop (p + 1) := by
      have e := drop_cons (bl s) p (by omega)
      rw [e] at h92 ⊢
      simp only [List.head?_cons, Option.some.injEq] at h92
      rw [h92]
    have HDD : Hid ((bl s).drop p = 92 :: (bl s).drop (p + 1)) := hd
    have hpe : passE s p none (bl ⟨#[92]⟩) = (p + 1, none) := by
      unfold passE seesB
      show (if (true && preB [92] ((bl s).drop p)) = true then _ else _) = _
      rw [Bool.true_and, pre1, decide_eq_true h92, if_pos rfl]
      rfl
    have HPE : Hid _ := hpe
    clear hpe hd h92 hq
    go_enter Tryd.func73, Tryd.ntmps73
    go_wp2_with fail
    refine Calls.mono HS ?_
    rintro e w1 ⟨rfl, hb1⟩
    have HP := pass_ok g s p none ⟨#[92]⟩ w1 (HH.out.keep hb1)
    rw [HPE.out] at HP
    have HG1 : Hid (Gr g w w1) := Gr.of hb1
    clear hb1 HS
    go_wp2_with fail
    refine Calls.mono HP ?_
    rintro e w2 ⟨⟨v2, rfl⟩, hr2, hg2⟩
    have HN := next_ok g s (p + 1) none w2 hr2
    have HG2 : Hid (Gr g w w2) := HG1.out.trans hg2
    clear hr2 hg2 HP HG1
    obtain ⟨c, hc⟩ : ∃ c, c = nextC s (p + 1) none := ⟨_, rfl⟩
    rw [← hc] at HN
    have HCn : Hid _ := hc
    clear hc
    go_wp2_with fail
    refine Calls.mono HN ?_
    rintro e w3 ⟨rfl, hr3, hg3⟩
    have HG3 : Hid (Gr g w w3) := HG2.out.trans hg3
    have HM := meantBy_ok c w3 (HTG.out w3 HG3.out)
    have HR3 : Hid (Rd w3 g s (nextE s (p + 1) none).1 (nextE s (p + 1) none).2) := hr3
    clear hr3 hg3 HN HG2
    go_wp2_with fail
    refine Calls.mono HM ?_
    rintro e w4 ⟨rfl, hb4⟩
    have HG4 : Hid (Gr g w w4) := HG3.out.trans (Gr.of hb4)
    have HR4 : Hid (Rd w4 g s (nextE s (p + 1) none).1 (nextE s (p + 1) none).2) := HR3.out.keep hb4
    clear hb4 HM HR3 HG3
    have hc := HCn.out
    by_cases hp1 : p + 1 < s.size
    · have hne : nextE s (p + 1) none = (p + 2, none) := by simp [nextE, hp1]
      have hnc : c = (bl s).getD (p + 1) 0 := by rw [hc]; simp [nextC, hp1]
      have hd2 : (bl s).drop (p + 1) = c :: (bl s).drop (p + 2) := by rw [drop_cons (bl s) (p + 1) (by omega), ← hnc]
      rw [hne] at HR4
      cases hm : meantN c with
      | some x =>
        have HE : Hid (LetterPost g s p w (.returned (.int .u8 x.toNat)) w4) := ⟨HG4.out, x, rfl, .inl ⟨p + 2, HR4.out, by omega, by
          rw [HDD.out, hd2]
          unfold escU
          rw [sign_meant hm]
          rfl⟩⟩
        clear hd2 hnc hc hne hm
        unfold pairOf
        simp only [Option.getD_some, Option.isSome_some]
        go_wp2
        exact HLP.out _ _ HE.out
      | none =>
        have HF := fail_ok g s (p + 2) none 10 w4 HR4.out
        have HNo : Hid (∀ c' r, (bl s).drop p ≠ escU c' ++ r) := fun c' r e => by
          rw [HDD.out, hd2] at e
          unfold escU at e
          rcases signN_cases c' with ⟨x, hx⟩ | ⟨hx, _, h9, _⟩
          · rw [hx] at e
            simp at e
            have := meant_sign hx
            rw [← e.1, hm] at this
            cases this
          · rw [hx] at e
            simp at e
            exact h9 e.1.symm
        clear hd2 hnc hc hne hm
        unfold pairOf
        simp only [Option.getD_none, Option.isSome_none]
        go_wp2_with fail
        refine Calls.mono HF ?_
        rintro e w5 ⟨⟨v5, rfl⟩, hr5, hg5⟩
        have HE : Hid (LetterPost g s p w (.returned (.int .u8 ((0 : UInt8).toNat : Int))) w5) := ⟨HG4.out.trans hg5, 0, rfl, .inr ⟨p + 2, hr5, HNo.out⟩⟩
        clear hr5 hg5 HF HNo
        go_wp2
        exact HLP.out _ _ HE.out
    · have hne : nextE s (p + 1) none = (p + 1, some 10) := by simp [nextE, hp1, orE]
      have hnc : c = 0 := by rw [hc]; simp [nextC, hp1]
      rw [hne] at HR4
      have HF := fail_ok g s (p + 1) (some 10) 10 w4 HR4.out
      have HNo : Hid (∀ c' r, (bl s).drop p ≠ escU c' ++ r) := fun c' r e => by
        have hd2 : (bl s).drop (p + 1) = [] := List.drop_of_length_le (by omega)
        rw [HDD.out, hd2] at e
        unfold escU at e
        rcases signN_cases c' with ⟨x, hx⟩ | ⟨hx, _, h9, _⟩
        · rw [hx] at e
          simp at e
        · rw [hx] at e
          simp at e
          exact h9 e.1.symm
      have hm : meantN c = none := by rw [hnc]; rfl
      rw [hm]
      clear hnc hc hne hm
      unfold pairOf
      simp only [Option.getD_none, Option.isSome_none]
      go_wp2_with fail
      refine Calls.mono HF ?_
      rintro e w5 ⟨⟨v5, rfl⟩, hr5, hg5⟩
      have HE : Hid (LetterPost g s p w (.returned (.int .u8 ((0 : UInt8).toNat : Int))) w5) := ⟨HG4.out.trans hg5, 0, rfl, .inr ⟨p + 1, hr5, HNo.out⟩⟩
      clear hr5 hg5 HF HNo
      go_wp2
      exact HLP.out _ _ HE.out
  · rw [decide_eq_false h92] at HS
    have H92 : Hid _ := h92
    have HQ : Hid _ := hq
    clear h92 hq
    go_enter Tryd.func73, Tryd.ntmps73
    go_wp2_with fail
    refine Calls.mono HS ?_
    rintro e w1 ⟨rfl, hb1⟩
    have HN := next_ok g s p none w1 (HH.out.keep hb1)
    have HG1 : Hid (Gr g w w1) := Gr.of hb1
    clear hb1 HS
    obtain ⟨c, hc⟩ : ∃ c, c = nextC s p none := ⟨_, rfl⟩
    rw [← hc] at HN
    have HCn : Hid _ := hc
    clear hc
    go_wp2_with fail
    refine Calls.mono HN ?_
    rintro e w3 ⟨rfl, hr3, hg3⟩
    have HG3 : Hid (Gr g w w3) := HG1.out.trans hg3
    have HM := signOf_ok c w3 (HTG.out w3 HG3.out)
    have HR3 : Hid (Rd w3 g s (nextE s p none).1 (nextE s p none).2) := hr3
    clear hr3 hg3 HN HG1
    go_wp2_with fail
    refine Calls.mono HM ?_
    rintro e w4 ⟨rfl, hb4⟩
    have HG4 : Hid (Gr g w w4) := HG3.out.trans (Gr.of hb4)
    have HR4 : Hid (Rd w4 g s (nextE s p none).1 (nextE s p none).2) := HR3.out.keep hb4
    clear hb4 HM HR3 HG3
    have hc := HCn.out
    have h92 := H92.out
    have hq := HQ.out
    by_cases hp1 : p < s.size
    · have hne : nextE s p none = (p + 1, none) := by simp [nextE, hp1]
      have hnc : c = (bl s).getD p 0 := by rw [hc]; simp [nextC, hp1]
      have hd2 : (bl s).drop p = c :: (bl s).drop (p + 1) := by rw [drop_cons (bl s) p (by omega), ← hnc]
      rw [hne] at HR4
      rw [hd2] at h92 hq
      simp only [List.head?_cons, Option.some.injEq] at h92 hq
      cases hm : signN c with
      | none =>
        have HE : Hid (LetterPost g s p w (.returned (.int .u8 c.toNat)) w4) := ⟨HG4.out, c, rfl, .inl ⟨p + 1, HR4.out, by omega, by
          rw [hd2]
          unfold escU
          rw [hm]
          rfl⟩⟩
        clear hd2 hnc hc hne hm h92 hq
        unfold pairOf
        simp only [Option.getD_none, Option.isSome_none]
        go_wp2
        exact HLP.out _ _ HE.out
      | some x =>
        have HF := fail_ok g s (p + 1) none 10 w4 HR4.out
        have HNo : Hid (∀ c' r, (bl s).drop p ≠ escU c' ++ r) := fun c' r e => by
          rw [hd2] at e
          unfold escU at e
          rcases signN_cases c' with ⟨y, hy⟩ | ⟨hy, _, h9, _⟩
          · rw [hy] at e
            simp at e
            exact h92 e.1
          · rw [hy] at e
            simp at e
            rw [← e.1, hm] at hy
            cases hy
        clear hd2 hnc hc hne hm h92 hq
        unfold pairOf
        simp only [Option.getD_some, Option.isSome_some]
        go_wp2_with fail
        refine Calls.mono HF ?_
        rintro e w5 ⟨⟨v5, rfl⟩, hr5, hg5⟩
        have HE : Hid (LetterPost g s p w (.returned (.int .u8 c.toNat)) w5) := ⟨HG4.out.trans hg5, c, rfl, .inr ⟨p + 1, hr5, HNo.out⟩⟩
        clear hr5 hg5 HF HNo
        go_wp2
        exact HLP.out _ _ HE.out
    · have hne : nextE s p none = (p, some 10) := by simp [nextE, hp1, orE]
      have hnc : c = 0 := by rw [hc]; simp [nextC, hp1]
      rw [hne] at HR4
      have HNo : ∀ c' r, (bl s).drop p ≠ escU c' ++ r := fun c' r e => by
        have hd2 : (bl s).drop p = [] := List.drop_of_length_le (by omega)
        rw [hd2] at e
        have := (escU_len c').1
        have := congrArg List.length e
        simp at this
        omega
      have hm : signN c = none := by rw [hnc]; rfl
      rw [hm]
      have HE : Hid (LetterPost g s p w (.returned (.int .u8 c.toNat)) w4) := ⟨HG4.out, c, rfl, .inr ⟨p, HR4.out, HNo⟩⟩
      clear hnc hc hne hm h92 hq HNo
      unfold pairOf
      simp only [Option.getD_none, Option.isSome_none]
      go_wp2
      exact HLP.out _ _ HE.out
end Go.Proofs.YtmpgfepkdhjibaaDoor
