/- My own work: the document's below; what a term has. My own work: what a term has, by the document. My own work: a text between bytes of one kind; what the document's term tells, and that the program's tells the same. My own work: packages and their needs; what is wrong with them; their text. -/
import Derived.Test.YtdhmlcelofnkgaaGreatDoorLS0
import Derived.Test.YtdhmlcelofnkgaaGreatDoorR5
import Derived.Test.YtdhmlcelofnkgaaGreatDoorR3
import Derived.Test.YtdhmlcelofnkgaaGreatDoorST2
import Derived.Test.YtdhmlcelofnkgaaGreatDoorSG
namespace Go.Proofs.YtdhmlcelofnkgaaGreatDoor
open Go.RowKit

/-- Below what bounds a version. -/
def belowB (w v : Ver) (n : Int) : Bool := if (bumpR v n).2 = 0 then decide (cmpV w (bumpR v n).1 < 0) else true
/-- A piece that begins at a version and ends ahead of Bump. -/
theorem has_ahead {v x : Ver} (n : Int) (hx : mayV x = true) : hasV [⟨1, v⟩, aheadB v n] x = (decide (0 ≤ cmpV x v) && belowB x v n) := by
  unfold hasV
  rw [hx, Bool.true_and, inn_two]
  have e1 : decide (le ⟨1, v⟩ ⟨1, x⟩) = decide (0 ≤ cmpV x v) := by
    have hc : ordC ⟨1, v⟩ ⟨1, x⟩ = cmpV v x := by
      by_cases h : v = x
      · rw [ord_side (a := ⟨1, v⟩) (b := ⟨1, x⟩) rfl h, h, (cmpV_zero x x).2 rfl]
        rfl
      · rw [ord_ver (a := ⟨1, v⟩) (b := ⟨1, x⟩) rfl h]
    have ha := preV.anti v x
    have hl : le ⟨1, v⟩ ⟨1, x⟩ ↔ cmpV v x ≤ 0 := by
      show ordC ⟨1, v⟩ ⟨1, x⟩ ≤ 0 ↔ _
      rw [hc]
    by_cases k : cmpV v x ≤ 0
    · rw [decide_eq_true (hl.2 k), decide_eq_true (by omega)]
    · rw [decide_eq_false (fun h => k (hl.1 h)), decide_eq_false (by omega)]
  have e2 : (!decide (le (aheadB v n) ⟨1, x⟩)) = belowB x v n := by
    unfold aheadB belowB
    by_cases h0 : (bumpR v n).2 = 0
    · rw [if_pos h0, if_pos h0]
      have hc : ordC ⟨1, (bumpR v n).1⟩ ⟨1, x⟩ = cmpV (bumpR v n).1 x := by
        by_cases h : (bumpR v n).1 = x
        · rw [ord_side (a := ⟨1, (bumpR v n).1⟩) (b := ⟨1, x⟩) rfl h, h, (cmpV_zero x x).2 rfl]
          rfl
        · rw [ord_ver (a := ⟨1, (bumpR v n).1⟩) (b := ⟨1, x⟩) rfl h]
      have ha := preV.anti (bumpR v n).1 x
      have hl : le ⟨1, (bumpR v n).1⟩ ⟨1, x⟩ ↔ cmpV (bumpR v n).1 x ≤ 0 := by
        show ordC ⟨1, (bumpR v n).1⟩ ⟨1, x⟩ ≤ 0 ↔ _
        rw [hc]
      by_cases k : cmpV (bumpR v n).1 x ≤ 0
      · rw [decide_eq_true (hl.2 k), decide_eq_false (by omega)]
        rfl
      · rw [decide_eq_false (fun h => k (hl.1 h)), decide_eq_true (by omega)]
        rfl
    · rw [if_neg h0, if_neg h0]
      rw [decide_eq_false (fun h => lt_irr fin (lt_le_trans (le_lt h (lt_fin 1 x (Or.inl rfl))) (le_rfl _)))]
      rfl
  rw [e1, e2]
end Go.Proofs.YtdhmlcelofnkgaaGreatDoor
namespace Go.Proofs.YtdhmlcelofnkgaaGreatDoor
open Go.RowKit

/-- What an operation and a version have, by the document. -/
def hasO (op : By) (v x : Ver) : Bool :=
  if op = [42] then true else if op = [62, 61] then decide (0 ≤ cmpV x v) else if op = [60, 61] then decide (cmpV x v ≤ 0) else if op = [62] then decide (0 < cmpV x v) else if op = [60] then decide (cmpV x v < 0) else if op = [61] then decide (cmpV x v = 0)
  else if op = [126] then decide (0 ≤ cmpV x v) && belowB x v (if v.cnt = 1 then 1 else 2) else decide (0 ≤ cmpV x v) && belowB x v (firstP v)
theorem le_one (v x : Ver) : le ⟨1, v⟩ ⟨1, x⟩ ↔ cmpV v x ≤ 0 := by
  show ordC ⟨1, v⟩ ⟨1, x⟩ ≤ 0 ↔ _
  by_cases h : v = x
  · rw [ord_side (a := ⟨1, v⟩) (b := ⟨1, x⟩) rfl h, h, (cmpV_zero x x).2 rfl]
    exact Iff.rfl
  · rw [ord_ver (a := ⟨1, v⟩) (b := ⟨1, x⟩) rfl h]
theorem le_two (v x : Ver) : le ⟨2, v⟩ ⟨1, x⟩ ↔ cmpV v x < 0 := by
  show ordC ⟨2, v⟩ ⟨1, x⟩ ≤ 0 ↔ _
  by_cases h : v = x
  · rw [ord_side (a := ⟨2, v⟩) (b := ⟨1, x⟩) rfl h, h, (cmpV_zero x x).2 rfl]
    show cmpI 2 1 ≤ 0 ↔ _
    decide
  · have hz : cmpV v x ≠ 0 := fun e => h ((cmpV_zero v x).1 e)
    rw [ord_ver (a := ⟨2, v⟩) (b := ⟨1, x⟩) rfl h]
    show cmpV v x ≤ 0 ↔ _
    omega
theorem le_beg (x : Ver) : le beg ⟨1, x⟩ := lt_le (beg_lt 1 x (Or.inl rfl))
theorem le_end (x : Ver) : ¬ le fin ⟨1, x⟩ := fun h => lt_irr fin (lt_le_trans (le_lt h (lt_fin 1 x (Or.inl rfl))) (le_rfl _))
theorem has_all {x : Ver} (hx : mayV x = true) : hasV allC x = true := by
  show (mayV x && inn false [beg, fin] ⟨1, x⟩) = true
  rw [hx, inn_two, decide_eq_true (le_beg x), decide_eq_false (le_end x)]
  rfl
/-- What the program's set of a term has is what the document's term has. -/
theorem has_op {op : By} {v x : Ver} {L : List Cut} (hx : mayV x = true) (hc : 1 ≤ v.cnt) (h : opS op v = some L) : hasV L x = hasO op v x := by
  have ha := preV.anti v x
  have hb := preV.anti x v
  have two (a b : Cut) : hasV [a, b] x = (decide (le a ⟨1, x⟩) && !decide (le b ⟨1, x⟩)) := by
    unfold hasV
    rw [hx, Bool.true_and, inn_two]
  unfold opS at h
  by_cases h1 : op = [62, 61]
  · rw [if_pos h1] at h
    cases h
    subst h1
    rw [two, decide_eq_false (le_end x), Bool.not_false, Bool.and_true]
    show _ = decide (0 ≤ cmpV x v)
    rw [decide_eq_decide, le_one]
    omega
  rw [if_neg h1] at h
  by_cases h2 : op = [62]
  · rw [if_pos h2] at h
    cases h
    subst h2
    rw [two, decide_eq_false (le_end x), Bool.not_false, Bool.and_true]
    show _ = decide (0 < cmpV x v)
    rw [decide_eq_decide, le_two]
    omega
  rw [if_neg h2] at h
  by_cases h3 : op = [60, 61]
  · rw [if_pos h3] at h
    cases h
    subst h3
    rw [two, decide_eq_true (le_beg x), Bool.true_and, ← decide_not]
    show _ = decide (cmpV x v ≤ 0)
    rw [decide_eq_decide, le_two]
    omega
  rw [if_neg h3] at h
  by_cases h4 : op = [60]
  · rw [if_pos h4] at h
    cases h
    subst h4
    rw [two, decide_eq_true (le_beg x), Bool.true_and, ← decide_not]
    show _ = decide (cmpV x v < 0)
    rw [decide_eq_decide, le_one]
    omega
  rw [if_neg h4] at h
  by_cases h5 : op = [61]
  · rw [if_pos h5] at h
    cases h
    subst h5
    rw [two, ← decide_not, ← Bool.decide_and]
    show _ = decide (cmpV x v = 0)
    rw [decide_eq_decide, le_one, le_two]
    omega
  rw [if_neg h5] at h
  by_cases h6 : op = [94]
  · rw [if_pos h6] at h
    cases h
    subst h6
    rw [has_ahead _ hx]
    rfl
  rw [if_neg h6] at h
  by_cases h7 : op = [126]
  · rw [if_pos h7] at h
    cases h
    subst h7
    rw [has_ahead _ hx]
    have hm : min v.cnt 2 = if v.cnt = 1 then 1 else 2 := by
      split <;> omega
    rw [hm]
    rfl
  rw [if_neg h7] at h
  cases h
end Go.Proofs.YtdhmlcelofnkgaaGreatDoor
namespace Go.Proofs.YtdhmlcelofnkgaaGreatDoor
open Go.RowKit

/-- A text parted at a byte, with no bound. -/
def cutAll (c : UInt8) (l : By) : List By := splitB c l.length l
theorem cutAll_none {c : UInt8} {l : By} (h : cutAt c l = none) : cutAll c l = [l] := by
  unfold cutAll
  cases hl : l.length with
  | zero => rfl
  | succ k => unfold splitB; rw [h]
theorem cutAll_some {c : UInt8} {l a r : By} (h : cutAt c l = some (a, r)) : cutAll c l = a :: cutAll c r := by
  have h1 := (cutAt_back h).1
  have h2 : l.length = (r.length + a.length) + 1 := by rw [h1]; simp; omega
  unfold cutAll
  rw [h2]
  show (match cutAt c l with | none => [l] | some p => p.1 :: splitB c (r.length + a.length) p.2) = _
  rw [h]
  show a :: splitB c (r.length + a.length) r = _
  rw [← splitB_less (Nat.le_refl _) a.length]
theorem cutAll_pos (c : UInt8) (l : By) : 1 ≤ (cutAll c l).length := splitB_pos c _ l
/-- With a bound it is the same, or longer than the bound. -/
theorem split_all (c : UInt8) (k : Nat) : ∀ l : By, ((cutAll c l).length ≤ k + 1 ∧ splitB c k l = cutAll c l) ∨ (k + 1 < (cutAll c l).length ∧ (splitB c k l).length = k + 1) := by
  induction k with
  | zero =>
    intro l
    cases h : cutAt c l with
    | none => rw [cutAll_none h]; exact Or.inl ⟨Nat.le_refl _, rfl⟩
    | some p =>
      rw [cutAll_some (a := p.1) (r := p.2) h]
      have := cutAll_pos c p.2
      exact Or.inr ⟨by rw [List.length_cons]; omega, rfl⟩
  | succ k ih =>
    intro l
    cases h : cutAt c l with
    | none =>
      rw [cutAll_none h]
      refine Or.inl ⟨by simp, ?_⟩
      unfold splitB; rw [h]
    | some p =>
      rw [cutAll_some (a := p.1) (r := p.2) h]
      have e : splitB c (k + 1) l = p.1 :: splitB c k p.2 := by rw [splitB, h]
      rw [e]
      rcases ih p.2 with ⟨h1, h2⟩ | ⟨h1, h2⟩
      · exact Or.inl ⟨by rw [List.length_cons]; omega, by rw [h2]⟩
      · exact Or.inr ⟨by rw [List.length_cons]; omega, by rw [List.length_cons, h2]⟩
theorem split16 (c : UInt8) (l : By) : (16 < (cutAll c l).length ∧ 16 < (splitB c 16 l).length) ∨ ((cutAll c l).length ≤ 16 ∧ splitB c 16 l = cutAll c l) := by
  rcases split_all c 16 l with ⟨h1, h2⟩ | ⟨h1, h2⟩
  · by_cases h : (cutAll c l).length ≤ 16
    · exact Or.inr ⟨h, h2⟩
    · exact Or.inl ⟨by omega, by rw [h2]; omega⟩
  · exact Or.inl ⟨by omega, by omega⟩
theorem cutAll_len (c : UInt8) : ∀ (n : Nat) (l : By), l.length = n → (cutAll c l).length ≤ n + 1 := by
  intro n
  induction n using Nat.strongRecOn with
  | ind n ih =>
    intro l hl
    cases h : cutAt c l with
    | none => rw [cutAll_none h]; simp
    | some p =>
      rw [cutAll_some (a := p.1) (r := p.2) h]
      have h1 := (cutAt_back (a := p.1) (r := p.2) h).1
      have h2 : l.length = p.1.length + (p.2.length + 1) := by rw [h1]; simp
      have := ih p.2.length (by omega) p.2 rfl
      rw [List.length_cons]
      omega
/-- The seven signs, in the document's order. -/
def signsR : List By := [[62, 61], [60, 61], [62], [60], [61], [94], [126]]
/-- The first sign that stands ahead of something, and what stands behind it. -/
def signR (l : By) : Option (By × By) := (signsR.find? fun g => decide (g.length < l.length) && (l.take g.length == g)).map fun g => (g, l.drop g.length)
def zeroVer : Ver := ⟨0, 0, 0, 0, 0, ⟨#[]⟩⟩
/-- What the document's term tells. -/
def termR (l : By) : Option (By × Ver) := if l = [42] then some ([42], zeroVer) else match signR l with
  | none => none
  | some p => match parseV p.2 with
    | none => none
    | some v => some (p.1, v)
theorem text_head {v : Ver} (h : May v) : ∃ d t, textV v = d :: t ∧ digB d = true := by
  have hp := parts_num h
  have hl := parts_len h
  have hc := h.cnt
  cases hP : partsV v with
  | nil => rw [hP] at hl; simp at hl; omega
  | cons x r =>
    have hx := hp x (by rw [hP]; exact List.mem_cons_self)
    obtain ⟨⟨h1, _⟩, _, h3⟩ := (isNum_iff x).1 hx
    cases hX : x with
    | nil => rw [hX] at h1; simp at h1
    | cons d t =>
      have hd := h3 d (by rw [hX]; exact List.mem_cons_self)
      have hj : ∃ t', joinP (partsV v) = d :: t' := by
        rw [hP, hX]
        cases r with
        | nil => exact ⟨t, rfl⟩
        | cons y r => exact ⟨t ++ 46 :: joinP (y :: r), by rw [joinP_cons _ (by simp)]; rfl⟩
      obtain ⟨t', ht⟩ := hj
      unfold textV
      rw [ht]
      exact ⟨d, _, rfl, hd⟩
theorem parse_head {l : By} {v : Ver} (h : parseV l = some v) : ∃ d t, l = d :: t ∧ digB d = true := by
  obtain ⟨h1, h2⟩ := parse_back h
  rw [← h2]
  exact text_head h1
theorem dig_ne {d : UInt8} (h : digB d = true) (c : UInt8) (hc : digB c = false) : ¬ d = c := fun e => by rw [e, hc] at h; cases h
theorem sign_dig {g : By} (hg : g ∈ signsR) {d : UInt8} (hd : digB d = true) (t : By) : signR (g ++ d :: t) = some (g, d :: t) := by
  have h61 : (d == 61) = false := by simpa using dig_ne hd 61 (by decide)
  unfold signsR at hg
  simp only [List.mem_cons, List.not_mem_nil, or_false] at hg
  rcases hg with rfl | rfl | rfl | rfl | rfl | rfl | rfl <;> simp [signR, signsR, List.find?, h61]
theorem sign_back {l : By} {p : By × By} (h : signR l = some p) : p.1 ∈ signsR ∧ l = p.1 ++ p.2 := by
  unfold signR at h
  cases hf : signsR.find? fun g => decide (g.length < l.length) && (l.take g.length == g) with
  | none => rw [hf] at h; cases h
  | some g =>
    rw [hf] at h
    cases h
    have h1 := List.find?_some hf
    simp only [Bool.and_eq_true, decide_eq_true_eq, beq_iff_eq] at h1
    refine ⟨List.mem_of_find?_eq_some hf, ?_⟩
    show l = g ++ l.drop g.length
    have h2 := h1.2
    conv => rhs; lhs; rw [← h2]
    rw [List.take_append_drop]
theorem idx_sign {g : By} (hg : g ∈ signsR) {d : UInt8} (hd : digB d = true) (t : By) : (g ++ d :: t).findIdx? digB = some g.length ∧ (g ++ d :: t).take g.length = g ∧ (g ++ d :: t).drop g.length = d :: t ∧ ¬ g ++ d :: t = [42] := by
  refine ⟨?_, by simp, by simp, ?_⟩
  · unfold signsR at hg
    simp only [List.mem_cons, List.not_mem_nil, or_false] at hg
    rcases hg with rfl | rfl | rfl | rfl | rfl | rfl | rfl <;> simp [List.findIdx?_cons, hd, show digB 62 = false from by decide, show digB 61 = false from by decide, show digB 60 = false from by decide, show digB 94 = false from by decide, show digB 126 = false from by decide]
  · intro e
    have h1 := congrArg List.length e
    rw [List.length_append] at h1
    unfold signsR at hg
    simp only [List.mem_cons, List.not_mem_nil, or_false] at hg
    rcases hg with rfl | rfl | rfl | rfl | rfl | rfl | rfl <;> simp at h1 <;> omega
theorem op_sign {g : By} (hg : g ∈ signsR) (v : Ver) : ∃ L, opS g v = some L := by
  unfold signsR at hg
  simp only [List.mem_cons, List.not_mem_nil, or_false] at hg
  rcases hg with rfl | rfl | rfl | rfl | rfl | rfl | rfl <;> exact ⟨_, rfl⟩
theorem sign_op {g : By} {v : Ver} {L : List Cut} (h : opS g v = some L) : g ∈ signsR := by
  unfold opS at h
  unfold signsR
  by_cases h1 : g = [62, 61]
  · subst h1; simp
  by_cases h2 : g = [62]
  · subst h2; simp
  by_cases h3 : g = [60, 61]
  · subst h3; simp
  by_cases h4 : g = [60]
  · subst h4; simp
  by_cases h5 : g = [61]
  · subst h5; simp
  by_cases h6 : g = [94]
  · subst h6; simp
  by_cases h7 : g = [126]
  · subst h7; simp
  rw [if_neg h1, if_neg h2, if_neg h3, if_neg h4, if_neg h5, if_neg h6, if_neg h7] at h
  cases h
theorem join_bytes (L : List By) (P : UInt8 → Prop) (h46 : P 46) (h : ∀ x ∈ L, ∀ b ∈ x, P b) : ∀ b ∈ joinP L, P b := by
  induction L with
  | nil => intro b hb; cases hb
  | cons x r ih =>
    cases r with
    | nil => exact h x List.mem_cons_self
    | cons y r =>
      show ∀ b ∈ x ++ 46 :: joinP (y :: r), P b
      intro b hb
      rcases List.mem_append.1 hb with hb | hb
      · exact h x List.mem_cons_self b hb
      · rcases List.mem_cons.1 hb with hb | hb
        · rw [hb]; exact h46
        · exact ih (fun z hz => h z (List.mem_cons_of_mem _ hz)) b hb
/-- The bytes of a version's text. -/
theorem text_bytes {v : Ver} (h1 : May v) : ∀ b ∈ textV v, 45 ≤ b.toNat ∧ b.toNat ≤ 122 := by
  unfold textV
  intro b hb
  rcases List.mem_append.1 hb with hb | hb
  · refine join_bytes (partsV v) (fun b => 45 ≤ b.toNat ∧ b.toNat ≤ 122) (by decide) (fun x hx b hb => ?_) b hb
    have := (digB_iff b).1 (((isNum_iff x).1 (parts_num h1 x hx)).2.2 b hb)
    omega
  · unfold tagT at hb
    split at hb
    · cases hb
    · rcases List.mem_cons.1 hb with hb | hb
      · rw [hb]; decide
      · rcases h1.tag with h3 | h3
        · rw [h3] at hb; cases hb
        · unfold tagB at h3
          rw [Bool.and_eq_true] at h3
          have h4 := List.all_eq_true.1 h3.2 b hb
          unfold tagC at h4
          rw [Bool.or_eq_true] at h4
          rcases h4 with h4 | h4
          · simp at h4
            omega
          · have := (digB_iff b).1 h4
            omega
theorem text_not {v : Ver} (h : May v) {c : UInt8} (hc : c.toNat < 45 ∨ 122 < c.toNat) : c ∉ textV v := fun k => by have := text_bytes h c k; omega
theorem term_text {g : By} (hg : g ∈ signsR) {v : Ver} (hv : May v) : termS (g ++ textV v) = opS g v := by
  obtain ⟨d, t, h1, h2⟩ := text_head hv
  obtain ⟨i1, i2, i3, i4⟩ := idx_sign hg h2 t
  unfold termS
  rw [h1, if_neg i4, i1]
  simp only
  rw [i3, i2, ← h1, parse_text hv]
/-- The program's term and the document's: neither is one, or both are. -/
theorem term_pair (l : By) : (termR l = none ∧ termS l = none) ∨ ∃ op v L, termR l = some (op, v) ∧ termS l = some L ∧ ((op = [42] ∧ v = zeroVer ∧ L = allC) ∨ (op ∈ signsR ∧ May v ∧ opS op v = some L)) := by
  by_cases h42 : l = [42]
  · subst h42
    exact Or.inr ⟨[42], zeroVer, allC, rfl, rfl, Or.inl ⟨rfl, rfl, rfl⟩⟩
  cases hR : termR l with
  | some p =>
    unfold termR at hR
    rw [if_neg h42] at hR
    cases hs : signR l with
    | none => rw [hs] at hR; cases hR
    | some q =>
      rw [hs] at hR
      simp only at hR
      cases hp : parseV q.2 with
      | none => rw [hp] at hR; cases hR
      | some v =>
        rw [hp] at hR
        cases hR
        obtain ⟨h1, h2⟩ := sign_back hs
        obtain ⟨d, t, h3, h4⟩ := parse_head hp
        obtain ⟨L, hL⟩ := op_sign h1 v
        refine Or.inr ⟨q.1, v, L, rfl, ?_, Or.inr ⟨h1, (parse_back hp).1, hL⟩⟩
        obtain ⟨i1, i2, i3, i4⟩ := idx_sign h1 h4 t
        rw [← h3, ← h2] at i1 i2 i3
        unfold termS
        rw [if_neg h42, i1]
        simp only
        rw [i3, hp]
        simp only
        rw [i2]
        exact hL
  | none =>
    refine Or.inl ⟨rfl, ?_⟩
    cases hS : termS l with
    | none => rfl
    | some L =>
      exfalso
      unfold termS at hS
      rw [if_neg h42] at hS
      cases hf : l.findIdx? digB with
      | none => rw [hf] at hS; cases hS
      | some k =>
        rw [hf] at hS
        simp only at hS
        cases hp : parseV (l.drop k) with
        | none => rw [hp] at hS; cases hS
        | some v =>
          rw [hp] at hS
          simp only at hS
          have hg := sign_op hS
          obtain ⟨d, t, h3, h4⟩ := parse_head hp
          have hs := sign_dig hg h4 t
          rw [← h3, List.take_append_drop] at hs
          unfold termR at hR
          rw [if_neg h42, hs] at hR
          simp only at hR
          rw [hp] at hR
          cases hR
end Go.Proofs.YtdhmlcelofnkgaaGreatDoor
namespace Go.Proofs.YtdhmlcelofnkgaaGreatDoor
open Go.RowKit

/-- Membership, decided. -/
noncomputable instance memDec {α : Type} (x : α) (l : List α) : Decidable (x ∈ l) := Classical.propDecidable _

/-- A small letter; a byte of a name. -/
def lowB (b : UInt8) : Bool := decide (97 ≤ b.toNat ∧ b.toNat ≤ 122)
def nmB (b : UInt8) : Bool := lowB b || digB b || b == 45
/-- May a package have this name? -/
def nameI (l : By) : Bool := decide (1 ≤ l.length ∧ l.length ≤ 20) && (l.take 1).all lowB && l.all nmB
structure Ned where
  nm : ByteArray
  rg : ByteArray
structure Pak where
  nm : ByteArray
  vr : ByteArray
  nd : List Ned
def Pak.key (p : Pak) : ByteArray × ByteArray := (p.nm, p.vr)
/-- What is wrong with a package behind others, its needs not asked; with a need behind others. -/
noncomputable def rightP (n v : ByteArray) (A : List (ByteArray × ByteArray)) : Int := if nameI (vb n) = false then 17 else if (parseV (vb v)).isNone = true then 20 else if (n, v) ∈ A then 13 else 0
noncomputable def rightN (n : Ned) (A : List Ned) : Int := if nameI (vb n.nm) = false then 17 else if (rangeS (vb n.rg)).isNone = true then 21 else if n.nm ∈ A.map Ned.nm then 13 else 0
noncomputable def needsE (A : List Ned) : List Ned → Int
  | [] => 0
  | n :: r => if rightN n A ≠ 0 then rightN n A else needsE (A ++ [n]) r
noncomputable def packsE (A : List (ByteArray × ByteArray)) : List Pak → Int
  | [] => 0
  | p :: r => if rightP p.nm p.vr A ≠ 0 then rightP p.nm p.vr A else if needsE [] p.nd ≠ 0 then needsE [] p.nd else packsE (A ++ [p.key]) r
def bigL (L : List Pak) : Bool := decide (1024 < L.length) || L.any fun p => decide (64 < p.nd.length)
/-- Right. -/
noncomputable def rightL (L : List Pak) : Int := if bigL L = true then 3 else packsE [] L
theorem rightP_cases (n v : ByteArray) (A : List (ByteArray × ByteArray)) : rightP n v A = 17 ∨ rightP n v A = 20 ∨ rightP n v A = 13 ∨ rightP n v A = 0 := by
  unfold rightP
  split
  · exact Or.inl rfl
  split
  · exact Or.inr (Or.inl rfl)
  split
  · exact Or.inr (Or.inr (Or.inl rfl))
  · exact Or.inr (Or.inr (Or.inr rfl))
theorem rightN_cases (n : Ned) (A : List Ned) : rightN n A = 17 ∨ rightN n A = 21 ∨ rightN n A = 13 ∨ rightN n A = 0 := by
  unfold rightN
  split
  · exact Or.inl rfl
  split
  · exact Or.inr (Or.inl rfl)
  split
  · exact Or.inr (Or.inr (Or.inl rfl))
  · exact Or.inr (Or.inr (Or.inr rfl))
theorem rightP_ok {n v : ByteArray} {A : List (ByteArray × ByteArray)} (h : rightP n v A = 0) : nameI (vb n) = true ∧ (∃ x, parseV (vb v) = some x) ∧ (n, v) ∉ A := by
  unfold rightP at h
  split at h
  · exact absurd h (by decide)
  rename_i h1
  split at h
  · exact absurd h (by decide)
  rename_i h2
  split at h
  · exact absurd h (by decide)
  rename_i h3
  refine ⟨by simpa using h1, ?_, h3⟩
  cases hp : parseV (vb v) with
  | none => rw [hp] at h2; exact absurd rfl h2
  | some x => exact ⟨x, rfl⟩
theorem rightN_ok {n : Ned} {A : List Ned} (h : rightN n A = 0) : nameI (vb n.nm) = true ∧ (∃ x, rangeS (vb n.rg) = some x) ∧ n.nm ∉ A.map Ned.nm := by
  unfold rightN at h
  split at h
  · exact absurd h (by decide)
  rename_i h1
  split at h
  · exact absurd h (by decide)
  rename_i h2
  split at h
  · exact absurd h (by decide)
  rename_i h3
  refine ⟨by simpa using h1, ?_, h3⟩
  cases hp : rangeS (vb n.rg) with
  | none => rw [hp] at h2; exact absurd rfl h2
  | some x => exact ⟨x, rfl⟩
theorem needsE_snoc (l : List Ned) (n : Ned) : ∀ A, needsE A (l ++ [n]) = if needsE A l ≠ 0 then needsE A l else rightN n (A ++ l) := by
  induction l with
  | nil =>
    intro A
    show (if rightN n A ≠ 0 then rightN n A else 0) = if (0 : Int) ≠ 0 then 0 else rightN n (A ++ [])
    rw [List.append_nil]
    by_cases h : rightN n A ≠ 0
    · rw [if_pos h]; rfl
    · rw [if_neg h]; exact (Decidable.not_not.1 h).symm
  | cons m l ih =>
    intro A
    show (if rightN m A ≠ 0 then rightN m A else needsE (A ++ [m]) (l ++ [n])) = if (if rightN m A ≠ 0 then rightN m A else needsE (A ++ [m]) l) ≠ 0 then _ else _
    by_cases h : rightN m A ≠ 0
    · rw [if_pos h, if_pos h, if_pos h]
      exact (if_pos h).symm
    · rw [if_neg h, if_neg h, ih]
      show (if needsE (A ++ [m]) l ≠ 0 then _ else _) = if needsE (A ++ [m]) l ≠ 0 then (if rightN m A ≠ 0 then rightN m A else needsE (A ++ [m]) l) else _
      rw [if_neg h, List.append_assoc]
      rfl
/-- What a package comes to behind others. -/
noncomputable def packE (A : List (ByteArray × ByteArray)) (p : Pak) : Int := if rightP p.nm p.vr A ≠ 0 then rightP p.nm p.vr A else needsE [] p.nd
theorem packsE_cons (A : List (ByteArray × ByteArray)) (p : Pak) (r : List Pak) : packsE A (p :: r) = if packE A p ≠ 0 then packE A p else packsE (A ++ [p.key]) r := by
  unfold packE
  show (if rightP p.nm p.vr A ≠ 0 then rightP p.nm p.vr A else if needsE [] p.nd ≠ 0 then needsE [] p.nd else packsE (A ++ [p.key]) r) = _
  by_cases h : rightP p.nm p.vr A ≠ 0
  · rw [if_pos h, if_pos h, if_pos h]
  · rw [if_neg h, if_neg h]
theorem packsE_snoc (L : List Pak) (p : Pak) : ∀ A, packsE A (L ++ [p]) = if packsE A L ≠ 0 then packsE A L else packE (A ++ L.map Pak.key) p := by
  induction L with
  | nil =>
    intro A
    show packsE A [p] = if (0 : Int) ≠ 0 then 0 else packE (A ++ []) p
    rw [packsE_cons, List.append_nil]
    by_cases h : packE A p ≠ 0
    · rw [if_pos h]; rfl
    · rw [if_neg h]; exact (Decidable.not_not.1 h).symm
  | cons q L ih =>
    intro A
    show packsE A (q :: (L ++ [p])) = _
    rw [packsE_cons, packsE_cons]
    by_cases h : packE A q ≠ 0
    · rw [if_pos h, if_pos h, if_pos h]
    · rw [if_neg h, if_neg h, ih, List.append_assoc]
      rfl
theorem packE_zero {A : List (ByteArray × ByteArray)} {p : Pak} : packE A p = 0 ↔ rightP p.nm p.vr A = 0 ∧ needsE [] p.nd = 0 := by
  unfold packE
  split
  · rename_i h
    exact ⟨fun e => absurd e h, fun e => absurd e.1 h⟩
  · rename_i h
    exact ⟨fun e => ⟨Decidable.not_not.1 h, e⟩, fun e => e.2⟩
theorem packsE_snoc0 {L : List Pak} {p : Pak} {A : List (ByteArray × ByteArray)} : packsE A (L ++ [p]) = 0 ↔ packsE A L = 0 ∧ packE (A ++ L.map Pak.key) p = 0 := by
  rw [packsE_snoc]
  split
  · rename_i h
    exact ⟨fun e => absurd e h, fun e => absurd e.1 h⟩
  · rename_i h
    exact ⟨fun e => ⟨Decidable.not_not.1 h, e⟩, fun e => e.2⟩
theorem packsE_cons0 {L : List Pak} {p : Pak} {A : List (ByteArray × ByteArray)} : packsE A (p :: L) = 0 ↔ packE A p = 0 ∧ packsE (A ++ [p.key]) L = 0 := by
  rw [packsE_cons]
  split
  · rename_i h
    exact ⟨fun e => absurd e h, fun e => absurd e.1 h⟩
  · rename_i h
    exact ⟨fun e => ⟨Decidable.not_not.1 h, e⟩, fun e => e.2⟩
theorem needsE_snoc0 {l : List Ned} {n : Ned} {A : List Ned} : needsE A (l ++ [n]) = 0 ↔ needsE A l = 0 ∧ rightN n (A ++ l) = 0 := by
  rw [needsE_snoc]
  split
  · rename_i h
    exact ⟨fun e => absurd e h, fun e => absurd e.1 h⟩
  · rename_i h
    exact ⟨fun e => ⟨Decidable.not_not.1 h, e⟩, fun e => e.2⟩
theorem needsE_cons0 {l : List Ned} {n : Ned} {A : List Ned} : needsE A (n :: l) = 0 ↔ rightN n A = 0 ∧ needsE (A ++ [n]) l = 0 := by
  show (if rightN n A ≠ 0 then rightN n A else needsE (A ++ [n]) l) = 0 ↔ _
  split
  · rename_i h
    exact ⟨fun e => absurd e h, fun e => absurd e.1 h⟩
  · rename_i h
    exact ⟨fun e => ⟨Decidable.not_not.1 h, e⟩, fun e => e.2⟩
theorem bigL_iff (L : List Pak) : bigL L = false ↔ L.length ≤ 1024 ∧ ∀ p ∈ L, p.nd.length ≤ 64 := by
  unfold bigL
  rw [Bool.or_eq_false_iff, List.any_eq_false]
  constructor
  · rintro ⟨h1, h2⟩
    exact ⟨by have := of_decide_eq_false h1; omega, fun p hp => by have := h2 p hp; simp at this; omega⟩
  · rintro ⟨h1, h2⟩
    exact ⟨decide_eq_false (by omega), fun p hp => by have := h2 p hp; simp; omega⟩
theorem rightL_zero {L : List Pak} : rightL L = 0 ↔ (L.length ≤ 1024 ∧ ∀ p ∈ L, p.nd.length ≤ 64) ∧ packsE [] L = 0 := by
  unfold rightL
  rw [← bigL_iff]
  cases h : bigL L with
  | true => exact ⟨fun e => absurd (show (3 : Int) = 0 from e) (by decide), fun e => absurd e.1 (by decide)⟩
  | false => exact ⟨fun e => ⟨rfl, e⟩, fun e => e.2⟩
/-- A package's line, a need's line, the text. -/
def lineI (a n s : By) : By := a ++ 32 :: (n ++ 32 :: (s ++ [10]))
def wPack : By := [112, 97, 99, 107, 97, 103, 101]
def wNeed : By := [110, 101, 101, 100, 115]
def needT (n : Ned) : By := lineI wNeed (vb n.nm) (vb n.rg)
def packT (p : Pak) : By := lineI wPack (vb p.nm) (vb p.vr) ++ (p.nd.map needT).flatten
def textL (L : List Pak) : By := (L.map packT).flatten
theorem textL_snoc (L : List Pak) (p : Pak) : textL (L ++ [p]) = textL L ++ packT p := by unfold textL; simp
theorem packT_snoc (n v : ByteArray) (l : List Ned) (m : Ned) : packT ⟨n, v, l ++ [m]⟩ = packT ⟨n, v, l⟩ ++ needT m := by unfold packT; simp
end Go.Proofs.YtdhmlcelofnkgaaGreatDoor
