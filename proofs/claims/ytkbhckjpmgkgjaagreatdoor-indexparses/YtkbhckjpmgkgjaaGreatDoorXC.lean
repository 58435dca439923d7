/- My own work: the document's below; what a term has. My own work: what a term has, by the document. My own work: a text between bytes of one kind; what the document's term tells, and that the program's tells the same. My own work: packages and their needs; what is wrong with them; their text. My own work: what is read of an index's lines; a text that is read is its packages', packages whose text is read are these again. My own work: strings.CutSuffix and strings.Split at one byte. My own work: releases as a map's keys; names; packages and needs as they lie in memory. My own work: what is wrong with a package, and with a need; too many. My own work: Right: what is wrong with packages. -/
import Derived.Test.YtkbhckjpmgkgjaaGreatDoorLS0
import Derived.Test.YtkbhckjpmgkgjaaGreatDoorR5
import Derived.Test.YtkbhckjpmgkgjaaGreatDoorR3
import Derived.Test.YtkbhckjpmgkgjaaGreatDoorST2
import Derived.Test.YtkbhckjpmgkgjaaGreatDoorSG
import Derived.Lib.Bytealg
import Derived.Laws.StructEq
import Derived.WideKeyRuns
import Derived.Maps.RangeRun
import Derived.Deep.MidRow
import Derived.Test.YtkbhckjpmgkgjaaGreatDoorVQ
import Derived.WideMake
namespace Go.Proofs.YtkbhckjpmgkgjaaGreatDoor
open Go.RowKit

/-- Below what bounds a version. -/
def belowB (w v : Ver) (n : Int) : Bool := if (bumpR v n).2 = 0 then decide (cmpV w (bumpR v n).1 < 0) else true
set_option maxRecDepth 20000 in
set_option maxHeartbeats 2000000 in
theorem below_ok (x v : Ver) (n : Int) (w : World) (hs : v.tag.size ≤ 140737488355328) : Calls Tryz.prog 157 #[verV x, verV v, .int .i64 n] w fun e w' => e = .returned (.bool (belowB x v n)) ∧ Below w.heap.size w w' := by
  have hX : Row ((w.alloc (.cells (verC x) 104)).alloc (.cells (verC v) 104)) w.heap.size (verC x) 104 := (Row.new w (verC x) 104).alloc _
  have hV : Row ((w.alloc (.cells (verC x) 104)).alloc (.cells (verC v) 104)) (w.heap.size + 1) (verC v) 104 := by
    have h := Row.new (w.alloc (.cells (verC x) 104)) (verC v) 104
    rw [World.size_alloc] at h
    exact h
  have hb1 : Below w.heap.size w ((w.alloc (.cells (verC x) 104)).alloc (.cells (verC v) 104)) := ((Below.refl _ _).alloc (Nat.le_refl _) _).alloc (by simp) _
  obtain ⟨w1, hw1⟩ : ∃ y, y = (w.alloc (.cells (verC x) 104)).alloc (.cells (verC v) 104) := ⟨_, rfl⟩
  have hw1' := hw1.symm
  rw [← hw1] at hX hV hb1
  have hbu := refBump_ok v n w1 hs
  unfold bumpE at hbu
  have HBB : Hid (belowB x v n = if (bumpR v n).2 = 0 then decide (cmpV x (bumpR v n).1 < 0) else true) := rfl
  obtain ⟨⟨u, e0⟩, hu⟩ : ∃ y, y = bumpR v n := ⟨_, rfl⟩
  rw [← hu] at hbu HBB
  simp only at hbu HBB
  generalize belowB x v n = r at HBB ⊢
  have HB1 : Hid (Below w.heap.size w w1) := hb1
  have HX1 : Hid (Row w1 w.heap.size (verC x) 104) := hX
  clear hw1 hu hb1 hX hs
  go_enter Tryz.func157, Tryz.ntmps157
  go_wp2_with (first | refine wpList_load_row rfl 104 _ rfl (w.heap.size + 1) rfl 104 (verC v) (0, 0) _ hV Tryz.underlying104 rfl infoRs ?_ | fail)
  refine hbu.mono ?_
  rintro e w2 ⟨rfl, hb2⟩
  have hq : Below w1.heap.size w1 (w2.alloc (.cells (verC u) 104)) := hb2.alloc hb2.size _
  have hx3 : Row (w2.alloc (.cells (verC u) 104)) w.heap.size (verC x) 104 := Row.below HX1.out hq (Row.lt HX1.out)
  have hu3 : Row (w2.alloc (.cells (verC u) 104)) w2.heap.size (verC u) 104 := Row.new _ _ _
  have HB3 : Hid (Below w.heap.size w (w2.alloc (.cells (verC u) 104))) := HB1.out.trans (hq.mono HB1.out.size)
  clear hbu hb2 hq hV
  go_upto_region 2 with (refine wpList_store_new rfl 104 _ _ rfl w2 zeroC (verC u) 104 rfl w2.heap.size rfl rfl rfl infoRs rfl (verC_one _) ?_)
  obtain ⟨w3, hw3⟩ : ∃ y, y = w2.alloc (.cells (verC u) 104) := ⟨_, rfl⟩
  rw [← hw3] at hx3 hu3 HB3
  rw [← hw3]
  clear hw3
  by_cases h0 : e0 = 0
  · subst h0
    have hcm := refCompare_ok x u w3
    have HRR : Hid (r = decide (cmpV x u < 0)) := by show _ = _; rw [HBB.out, if_pos rfl]
    generalize cmpV x u = cz at hcm HRR
    go_wp2_with (first | refine wpList_load_wanted (by rfl) 104 _ rfl w.heap.size rfl 104 (verC x) _ hx3 Tryz.underlying104 rfl infoRs ?_ | refine wpList_load_wanted (by rfl) 104 _ rfl w2.heap.size rfl 104 (verC u) _ hu3 Tryz.underlying104 rfl infoRs ?_ | fail)
    refine hcm.mono ?_
    rintro e w4 ⟨rfl, hb4⟩
    clear hcm
    go_wp2
    go_ret
    exact ⟨by rw [HRR.out]; rfl, HB3.out.trans (hb4.mono HB3.out.size)⟩
  · have h0' := beqI h0
    have HRR : Hid (r = true) := by show _ = _; rw [HBB.out, if_neg h0]
    go_wp2
    go_ret
    exact ⟨by rw [HRR.out]; rfl, HB3.out⟩
/-- A piece that begins at a version and ends ahead of Bump. -/
theorem has_ahead {v x : Ver} (n : Int) (hx : mayV x = true) : hasV [⟨1, v⟩, aheadB v n] x = (decide (0 ≤ cmpV x v) && belowB x v n) := by
  unfold hasV
  rw [hx, Bool.true_and, inn_two]
  have e1 : decide (le ⟨1, v⟩ ⟨1, x⟩) = decide (0 ≤ cmpV x v) := by
    have hc : ordC ⟨1, v⟩ ⟨1, x⟩ = cmpV v x := by
      by_cases h : v = x
      · rw [ord_side (a := ⟨1, v⟩) (b := ⟨1, x⟩) rfl h, h, (cmpV_zero x x).2 rfl]
        rfl
      · rw [ord_ver (a := ⟨1, v⟩) (b := ⟨1, x⟩) rfl h]
    have ha := preV.anti v x
    have hl : le ⟨1, v⟩ ⟨1, x⟩ ↔ cmpV v x ≤ 0 := by
      show ordC ⟨1, v⟩ ⟨1, x⟩ ≤ 0 ↔ _
      rw [hc]
    by_cases k : cmpV v x ≤ 0
    · rw [decide_eq_true (hl.2 k), decide_eq_true (by omega)]
    · rw [decide_eq_false (fun h => k (hl.1 h)), decide_eq_false (by omega)]
  have e2 : (!decide (le (aheadB v n) ⟨1, x⟩)) = belowB x v n := by
    unfold aheadB belowB
    by_cases h0 : (bumpR v n).2 = 0
    · rw [if_pos h0, if_pos h0]
      have hc : ordC ⟨1, (bumpR v n).1⟩ ⟨1, x⟩ = cmpV (bumpR v n).1 x := by
        by_cases h : (bumpR v n).1 = x
        · rw [ord_side (a := ⟨1, (bumpR v n).1⟩) (b := ⟨1, x⟩) rfl h, h, (cmpV_zero x x).2 rfl]
          rfl
        · rw [ord_ver (a := ⟨1, (bumpR v n).1⟩) (b := ⟨1, x⟩) rfl h]
      have ha := preV.anti (bumpR v n).1 x
      have hl : le ⟨1, (bumpR v n).1⟩ ⟨1, x⟩ ↔ cmpV (bumpR v n).1 x ≤ 0 := by
        show ordC ⟨1, (bumpR v n).1⟩ ⟨1, x⟩ ≤ 0 ↔ _
        rw [hc]
      by_cases k : cmpV (bumpR v n).1 x ≤ 0
      · rw [decide_eq_true (hl.2 k), decide_eq_false (by omega)]
        rfl
      · rw [decide_eq_false (fun h => k (hl.1 h)), decide_eq_true (by omega)]
        rfl
    · rw [if_neg h0, if_neg h0]
      rw [decide_eq_false (fun h => lt_irr fin (lt_le_trans (le_lt h (lt_fin 1 x (Or.inl rfl))) (le_rfl _)))]
      rfl
  rw [e1, e2]
end Go.Proofs.YtkbhckjpmgkgjaaGreatDoor
namespace Go.Proofs.YtkbhckjpmgkgjaaGreatDoor
open Go.RowKit

/-- What an operation and a version have, by the document. -/
def hasO (op : By) (v x : Ver) : Bool :=
  if op = [42] then true else if op = [62, 61] then decide (0 ≤ cmpV x v) else if op = [60, 61] then decide (cmpV x v ≤ 0) else if op = [62] then decide (0 < cmpV x v) else if op = [60] then decide (cmpV x v < 0) else if op = [61] then decide (cmpV x v = 0)
  else if op = [126] then decide (0 ≤ cmpV x v) && belowB x v (if v.cnt = 1 then 1 else 2) else decide (0 ≤ cmpV x v) && belowB x v (firstP v)
theorem le_one (v x : Ver) : le ⟨1, v⟩ ⟨1, x⟩ ↔ cmpV v x ≤ 0 := by
  show ordC ⟨1, v⟩ ⟨1, x⟩ ≤ 0 ↔ _
  by_cases h : v = x
  · rw [ord_side (a := ⟨1, v⟩) (b := ⟨1, x⟩) rfl h, h, (cmpV_zero x x).2 rfl]
    exact Iff.rfl
  · rw [ord_ver (a := ⟨1, v⟩) (b := ⟨1, x⟩) rfl h]
theorem le_two (v x : Ver) : le ⟨2, v⟩ ⟨1, x⟩ ↔ cmpV v x < 0 := by
  show ordC ⟨2, v⟩ ⟨1, x⟩ ≤ 0 ↔ _
  by_cases h : v = x
  · rw [ord_side (a := ⟨2, v⟩) (b := ⟨1, x⟩) rfl h, h, (cmpV_zero x x).2 rfl]
    show cmpI 2 1 ≤ 0 ↔ _
    decide
  · have hz : cmpV v x ≠ 0 := fun e => h ((cmpV_zero v x).1 e)
    rw [ord_ver (a := ⟨2, v⟩) (b := ⟨1, x⟩) rfl h]
    show cmpV v x ≤ 0 ↔ _
    omega
theorem le_beg (x : Ver) : le beg ⟨1, x⟩ := lt_le (beg_lt 1 x (Or.inl rfl))
theorem le_end (x : Ver) : ¬ le fin ⟨1, x⟩ := fun h => lt_irr fin (lt_le_trans (le_lt h (lt_fin 1 x (Or.inl rfl))) (le_rfl _))
theorem has_all {x : Ver} (hx : mayV x = true) : hasV allC x = true := by
  show (mayV x && inn false [beg, fin] ⟨1, x⟩) = true
  rw [hx, inn_two, decide_eq_true (le_beg x), decide_eq_false (le_end x)]
  rfl
/-- What the program's set of a term has is what the document's term has. -/
theorem has_op {op : By} {v x : Ver} {L : List Cut} (hx : mayV x = true) (hc : 1 ≤ v.cnt) (h : opS op v = some L) : hasV L x = hasO op v x := by
  have ha := preV.anti v x
  have hb := preV.anti x v
  have two (a b : Cut) : hasV [a, b] x = (decide (le a ⟨1, x⟩) && !decide (le b ⟨1, x⟩)) := by
    unfold hasV
    rw [hx, Bool.true_and, inn_two]
  unfold opS at h
  by_cases h1 : op = [62, 61]
  · rw [if_pos h1] at h
    cases h
    subst h1
    rw [two, decide_eq_false (le_end x), Bool.not_false, Bool.and_true]
    show _ = decide (0 ≤ cmpV x v)
    rw [decide_eq_decide, le_one]
    omega
  rw [if_neg h1] at h
  by_cases h2 : op = [62]
  · rw [if_pos h2] at h
    cases h
    subst h2
    rw [two, decide_eq_false (le_end x), Bool.not_false, Bool.and_true]
    show _ = decide (0 < cmpV x v)
    rw [decide_eq_decide, le_two]
    omega
  rw [if_neg h2] at h
  by_cases h3 : op = [60, 61]
  · rw [if_pos h3] at h
    cases h
    subst h3
    rw [two, decide_eq_true (le_beg x), Bool.true_and, ← decide_not]
    show _ = decide (cmpV x v ≤ 0)
    rw [decide_eq_decide, le_two]
    omega
  rw [if_neg h3] at h
  by_cases h4 : op = [60]
  · rw [if_pos h4] at h
    cases h
    subst h4
    rw [two, decide_eq_true (le_beg x), Bool.true_and, ← decide_not]
    show _ = decide (cmpV x v < 0)
    rw [decide_eq_decide, le_one]
    omega
  rw [if_neg h4] at h
  by_cases h5 : op = [61]
  · rw [if_pos h5] at h
    cases h
    subst h5
    rw [two, ← decide_not, ← Bool.decide_and]
    show _ = decide (cmpV x v = 0)
    rw [decide_eq_decide, le_one, le_two]
    omega
  rw [if_neg h5] at h
  by_cases h6 : op = [94]
  · rw [if_pos h6] at h
    cases h
    subst h6
    rw [has_ahead _ hx]
    rfl
  rw [if_neg h6] at h
  by_cases h7 : op = [126]
  · rw [if_pos h7] at h
    cases h
    subst h7
    rw [has_ahead _ hx]
    have hm : min v.cnt 2 = if v.cnt = 1 then 1 else 2 := by
      split <;> omega
    rw [hm]
    rfl
  rw [if_neg h7] at h
  cases h
end Go.Proofs.YtkbhckjpmgkgjaaGreatDoor
namespace Go.Proofs.YtkbhckjpmgkgjaaGreatDoor
open Go.RowKit

/-- A text parted at a byte, with no bound. -/
def cutAll (c : UInt8) (l : By) : List By := splitB c l.length l
theorem cutAll_none {c : UInt8} {l : By} (h : cutAt c l = none) : cutAll c l = [l] := by
  unfold cutAll
  cases hl : l.length with
  | zero => rfl
  | succ k => unfold splitB; rw [h]
theorem cutAll_some {c : UInt8} {l a r : By} (h : cutAt c l = some (a, r)) : cutAll c l = a :: cutAll c r := by
  have h1 := (cutAt_back h).1
  have h2 : l.length = (r.length + a.length) + 1 := by rw [h1]; simp; omega
  unfold cutAll
  rw [h2]
  show (match cutAt c l with | none => [l] | some p => p.1 :: splitB c (r.length + a.length) p.2) = _
  rw [h]
  show a :: splitB c (r.length + a.length) r = _
  rw [← splitB_less (Nat.le_refl _) a.length]
theorem cutAll_pos (c : UInt8) (l : By) : 1 ≤ (cutAll c l).length := splitB_pos c _ l
/-- With a bound it is the same, or longer than the bound. -/
theorem split_all (c : UInt8) (k : Nat) : ∀ l : By, ((cutAll c l).length ≤ k + 1 ∧ splitB c k l = cutAll c l) ∨ (k + 1 < (cutAll c l).length ∧ (splitB c k l).length = k + 1) := by
  induction k with
  | zero =>
    intro l
    cases h : cutAt c l with
    | none => rw [cutAll_none h]; exact Or.inl ⟨Nat.le_refl _, rfl⟩
    | some p =>
      rw [cutAll_some (a := p.1) (r := p.2) h]
      have := cutAll_pos c p.2
      exact Or.inr ⟨by rw [List.length_cons]; omega, rfl⟩
  | succ k ih =>
    intro l
    cases h : cutAt c l with
    | none =>
      rw [cutAll_none h]
      refine Or.inl ⟨by simp, ?_⟩
      unfold splitB; rw [h]
    | some p =>
      rw [cutAll_some (a := p.1) (r := p.2) h]
      have e : splitB c (k + 1) l = p.1 :: splitB c k p.2 := by rw [splitB, h]
      rw [e]
      rcases ih p.2 with ⟨h1, h2⟩ | ⟨h1, h2⟩
      · exact Or.inl ⟨by rw [List.length_cons]; omega, by rw [h2]⟩
      · exact Or.inr ⟨by rw [List.length_cons]; omega, by rw [List.length_cons, h2]⟩
theorem split16 (c : UInt8) (l : By) : (16 < (cutAll c l).length ∧ 16 < (splitB c 16 l).length) ∨ ((cutAll c l).length ≤ 16 ∧ splitB c 16 l = cutAll c l) := by
  rcases split_all c 16 l with ⟨h1, h2⟩ | ⟨h1, h2⟩
  · by_cases h : (cutAll c l).length ≤ 16
    · exact Or.inr ⟨h, h2⟩
    · exact Or.inl ⟨by omega, by rw [h2]; omega⟩
  · exact Or.inl ⟨by omega, by omega⟩
theorem cutAll_len (c : UInt8) : ∀ (n : Nat) (l : By), l.length = n → (cutAll c l).length ≤ n + 1 := by
  intro n
  induction n using Nat.strongRecOn with
  | ind n ih =>
    intro l hl
    cases h : cutAt c l with
    | none => rw [cutAll_none h]; simp
    | some p =>
      rw [cutAll_some (a := p.1) (r := p.2) h]
      have h1 := (cutAt_back (a := p.1) (r := p.2) h).1
      have h2 : l.length = p.1.length + (p.2.length + 1) := by rw [h1]; simp
      have := ih p.2.length (by omega) p.2 rfl
      rw [List.length_cons]
      omega
/-- The seven signs, in the document's order. -/
def signsR : List By := [[62, 61], [60, 61], [62], [60], [61], [94], [126]]
/-- The first sign that stands ahead of something, and what stands behind it. -/
def signR (l : By) : Option (By × By) := (signsR.find? fun g => decide (g.length < l.length) && (l.take g.length == g)).map fun g => (g, l.drop g.length)
def zeroVer : Ver := ⟨0, 0, 0, 0, 0, ⟨#[]⟩⟩
/-- What the document's term tells. -/
def termR (l : By) : Option (By × Ver) := if l = [42] then some ([42], zeroVer) else match signR l with
  | none => none
  | some p => match parseV p.2 with
    | none => none
    | some v => some (p.1, v)
theorem text_head {v : Ver} (h : May v) : ∃ d t, textV v = d :: t ∧ digB d = true := by
  have hp := parts_num h
  have hl := parts_len h
  have hc := h.cnt
  cases hP : partsV v with
  | nil => rw [hP] at hl; simp at hl; omega
  | cons x r =>
    have hx := hp x (by rw [hP]; exact List.mem_cons_self)
    obtain ⟨⟨h1, _⟩, _, h3⟩ := (isNum_iff x).1 hx
    cases hX : x with
    | nil => rw [hX] at h1; simp at h1
    | cons d t =>
      have hd := h3 d (by rw [hX]; exact List.mem_cons_self)
      have hj : ∃ t', joinP (partsV v) = d :: t' := by
        rw [hP, hX]
        cases r with
        | nil => exact ⟨t, rfl⟩
        | cons y r => exact ⟨t ++ 46 :: joinP (y :: r), by rw [joinP_cons _ (by simp)]; rfl⟩
      obtain ⟨t', ht⟩ := hj
      unfold textV
      rw [ht]
      exact ⟨d, _, rfl, hd⟩
theorem parse_head {l : By} {v : Ver} (h : parseV l = some v) : ∃ d t, l = d :: t ∧ digB d = true := by
  obtain ⟨h1, h2⟩ := parse_back h
  rw [← h2]
  exact text_head h1
theorem dig_ne {d : UInt8} (h : digB d = true) (c : UInt8) (hc : digB c = false) : ¬ d = c := fun e => by rw [e, hc] at h; cases h
theorem sign_dig {g : By} (hg : g ∈ signsR) {d : UInt8} (hd : digB d = true) (t : By) : signR (g ++ d :: t) = some (g, d :: t) := by
  have h61 : (d == 61) = false := by simpa using dig_ne hd 61 (by decide)
  unfold signsR at hg
  simp only [List.mem_cons, List.not_mem_nil, or_false] at hg
  rcases hg with rfl | rfl | rfl | rfl | rfl | rfl | rfl <;> simp [signR, signsR, List.find?, h61]
theorem sign_back {l : By} {p : By × By} (h : signR l = some p) : p.1 ∈ signsR ∧ l = p.1 ++ p.2 := by
  unfold signR at h
  cases hf : signsR.find? fun g => decide (g.length < l.length) && (l.take g.length == g) with
  | none => rw [hf] at h; cases h
  | some g =>
    rw [hf] at h
    cases h
    have h1 := List.find?_some hf
    simp only [Bool.and_eq_true, decide_eq_true_eq, beq_iff_eq] at h1
    refine ⟨List.mem_of_find?_eq_some hf, ?_⟩
    show l = g ++ l.drop g.length
    have h2 := h1.2
    conv => rhs; lhs; rw [← h2]
    rw [List.take_append_drop]
theorem idx_sign {g : By} (hg : g ∈ signsR) {d : UInt8} (hd : digB d = true) (t : By) : (g ++ d :: t).findIdx? digB = some g.length ∧ (g ++ d :: t).take g.length = g ∧ (g ++ d :: t).drop g.length = d :: t ∧ ¬ g ++ d :: t = [42] := by
  refine ⟨?_, by simp, by simp, ?_⟩
  · unfold signsR at hg
    simp only [List.mem_cons, List.not_mem_nil, or_false] at hg
    rcases hg with rfl | rfl | rfl | rfl | rfl | rfl | rfl <;> simp [List.findIdx?_cons, hd, show digB 62 = false from by decide, show digB 61 = false from by decide, show digB 60 = false from by decide, show digB 94 = false from by decide, show digB 126 = false from by decide]
  · intro e
    have h1 := congrArg List.length e
    rw [List.length_append] at h1
    unfold signsR at hg
    simp only [List.mem_cons, List.not_mem_nil, or_false] at hg
    rcases hg with rfl | rfl | rfl | rfl | rfl | rfl | rfl <;> simp at h1 <;> omega
theorem op_sign {g : By} (hg : g ∈ signsR) (v : Ver) : ∃ L, opS g v = some L := by
  unfold signsR at hg
  simp only [List.mem_cons, List.not_mem_nil, or_false] at hg
  rcases hg with rfl | rfl | rfl | rfl | rfl | rfl | rfl <;> exact ⟨_, rfl⟩
theorem sign_op {g : By} {v : Ver} {L : List Cut} (h : opS g v = some L) : g ∈ signsR := by
  unfold opS at h
  unfold signsR
  by_cases h1 : g = [62, 61]
  · subst h1; simp
  by_cases h2 : g = [62]
  · subst h2; simp
  by_cases h3 : g = [60, 61]
  · subst h3; simp
  by_cases h4 : g = [60]
  · subst h4; simp
  by_cases h5 : g = [61]
  · subst h5; simp
  by_cases h6 : g = [94]
  · subst h6; simp
  by_cases h7 : g = [126]
  · subst h7; simp
  rw [if_neg h1, if_neg h2, if_neg h3, if_neg h4, if_neg h5, if_neg h6, if_neg h7] at h
  cases h
theorem join_bytes (L : List By) (P : UInt8 → Prop) (h46 : P 46) (h : ∀ x ∈ L, ∀ b ∈ x, P b) : ∀ b ∈ joinP L, P b := by
  induction L with
  | nil => intro b hb; cases hb
  | cons x r ih =>
    cases r with
    | nil => exact h x List.mem_cons_self
    | cons y r =>
      show ∀ b ∈ x ++ 46 :: joinP (y :: r), P b
      intro b hb
      rcases List.mem_append.1 hb with hb | hb
      · exact h x List.mem_cons_self b hb
      · rcases List.mem_cons.1 hb with hb | hb
        · rw [hb]; exact h46
        · exact ih (fun z hz => h z (List.mem_cons_of_mem _ hz)) b hb
/-- The bytes of a version's text. -/
theorem text_bytes {v : Ver} (h1 : May v) : ∀ b ∈ textV v, 45 ≤ b.toNat ∧ b.toNat ≤ 122 := by
  unfold textV
  intro b hb
  rcases List.mem_append.1 hb with hb | hb
  · refine join_bytes (partsV v) (fun b => 45 ≤ b.toNat ∧ b.toNat ≤ 122) (by decide) (fun x hx b hb => ?_) b hb
    have := (digB_iff b).1 (((isNum_iff x).1 (parts_num h1 x hx)).2.2 b hb)
    omega
  · unfold tagT at hb
    split at hb
    · cases hb
    · rcases List.mem_cons.1 hb with hb | hb
      · rw [hb]; decide
      · rcases h1.tag with h3 | h3
        · rw [h3] at hb; cases hb
        · unfold tagB at h3
          rw [Bool.and_eq_true] at h3
          have h4 := List.all_eq_true.1 h3.2 b hb
          unfold tagC at h4
          rw [Bool.or_eq_true] at h4
          rcases h4 with h4 | h4
          · simp at h4
            omega
          · have := (digB_iff b).1 h4
            omega
theorem text_not {v : Ver} (h : May v) {c : UInt8} (hc : c.toNat < 45 ∨ 122 < c.toNat) : c ∉ textV v := fun k => by have := text_bytes h c k; omega
theorem term_text {g : By} (hg : g ∈ signsR) {v : Ver} (hv : May v) : termS (g ++ textV v) = opS g v := by
  obtain ⟨d, t, h1, h2⟩ := text_head hv
  obtain ⟨i1, i2, i3, i4⟩ := idx_sign hg h2 t
  unfold termS
  rw [h1, if_neg i4, i1]
  simp only
  rw [i3, i2, ← h1, parse_text hv]
/-- The program's term and the document's: neither is one, or both are. -/
theorem term_pair (l : By) : (termR l = none ∧ termS l = none) ∨ ∃ op v L, termR l = some (op, v) ∧ termS l = some L ∧ ((op = [42] ∧ v = zeroVer ∧ L = allC) ∨ (op ∈ signsR ∧ May v ∧ opS op v = some L)) := by
  by_cases h42 : l = [42]
  · subst h42
    exact Or.inr ⟨[42], zeroVer, allC, rfl, rfl, Or.inl ⟨rfl, rfl, rfl⟩⟩
  cases hR : termR l with
  | some p =>
    unfold termR at hR
    rw [if_neg h42] at hR
    cases hs : signR l with
    | none => rw [hs] at hR; cases hR
    | some q =>
      rw [hs] at hR
      simp only at hR
      cases hp : parseV q.2 with
      | none => rw [hp] at hR; cases hR
      | some v =>
        rw [hp] at hR
        cases hR
        obtain ⟨h1, h2⟩ := sign_back hs
        obtain ⟨d, t, h3, h4⟩ := parse_head hp
        obtain ⟨L, hL⟩ := op_sign h1 v
        refine Or.inr ⟨q.1, v, L, rfl, ?_, Or.inr ⟨h1, (parse_back hp).1, hL⟩⟩
        obtain ⟨i1, i2, i3, i4⟩ := idx_sign h1 h4 t
        rw [← h3, ← h2] at i1 i2 i3
        unfold termS
        rw [if_neg h42, i1]
        simp only
        rw [i3, hp]
        simp only
        rw [i2]
        exact hL
  | none =>
    refine Or.inl ⟨rfl, ?_⟩
    cases hS : termS l with
    | none => rfl
    | some L =>
      exfalso
      unfold termS at hS
      rw [if_neg h42] at hS
      cases hf : l.findIdx? digB with
      | none => rw [hf] at hS; cases hS
      | some k =>
        rw [hf] at hS
        simp only at hS
        cases hp : parseV (l.drop k) with
        | none => rw [hp] at hS; cases hS
        | some v =>
          rw [hp] at hS
          simp only at hS
          have hg := sign_op hS
          obtain ⟨d, t, h3, h4⟩ := parse_head hp
          have hs := sign_dig hg h4 t
          rw [← h3, List.take_append_drop] at hs
          unfold termR at hR
          rw [if_neg h42, hs] at hR
          simp only at hR
          rw [hp] at hR
          cases hR
end Go.Proofs.YtkbhckjpmgkgjaaGreatDoor
namespace Go.Proofs.YtkbhckjpmgkgjaaGreatDoor
open Go.RowKit

/-- Membership, decided. -/
noncomputable instance memDec {α : Type} (x : α) (l : List α) : Decidable (x ∈ l) := Classical.propDecidable _

/-- A small letter; a byte of a name. -/
def lowB (b : UInt8) : Bool := decide (97 ≤ b.toNat ∧ b.toNat ≤ 122)
def nmB (b : UInt8) : Bool := lowB b || digB b || b == 45
/-- May a package have this name? -/
def nameI (l : By) : Bool := decide (1 ≤ l.length ∧ l.length ≤ 20) && (l.take 1).all lowB && l.all nmB
structure Ned where
  nm : ByteArray
  rg : ByteArray
structure Pak where
  nm : ByteArray
  vr : ByteArray
  nd : List Ned
def Pak.key (p : Pak) : ByteArray × ByteArray := (p.nm, p.vr)
/-- What is wrong with a package behind others, its needs not asked; with a need behind others. -/
noncomputable def rightP (n v : ByteArray) (A : List (ByteArray × ByteArray)) : Int := if nameI (vb n) = false then 17 else if (parseV (vb v)).isNone = true then 20 else if (n, v) ∈ A then 13 else 0
noncomputable def rightN (n : Ned) (A : List Ned) : Int := if nameI (vb n.nm) = false then 17 else if (rangeS (vb n.rg)).isNone = true then 21 else if n.nm ∈ A.map Ned.nm then 13 else 0
noncomputable def needsE (A : List Ned) : List Ned → Int
  | [] => 0
  | n :: r => if rightN n A ≠ 0 then rightN n A else needsE (A ++ [n]) r
noncomputable def packsE (A : List (ByteArray × ByteArray)) : List Pak → Int
  | [] => 0
  | p :: r => if rightP p.nm p.vr A ≠ 0 then rightP p.nm p.vr A else if needsE [] p.nd ≠ 0 then needsE [] p.nd else packsE (A ++ [p.key]) r
def bigL (L : List Pak) : Bool := decide (1024 < L.length) || L.any fun p => decide (64 < p.nd.length)
/-- Right. -/
noncomputable def rightL (L : List Pak) : Int := if bigL L = true then 3 else packsE [] L
theorem rightP_cases (n v : ByteArray) (A : List (ByteArray × ByteArray)) : rightP n v A = 17 ∨ rightP n v A = 20 ∨ rightP n v A = 13 ∨ rightP n v A = 0 := by
  unfold rightP
  split
  · exact Or.inl rfl
  split
  · exact Or.inr (Or.inl rfl)
  split
  · exact Or.inr (Or.inr (Or.inl rfl))
  · exact Or.inr (Or.inr (Or.inr rfl))
theorem rightN_cases (n : Ned) (A : List Ned) : rightN n A = 17 ∨ rightN n A = 21 ∨ rightN n A = 13 ∨ rightN n A = 0 := by
  unfold rightN
  split
  · exact Or.inl rfl
  split
  · exact Or.inr (Or.inl rfl)
  split
  · exact Or.inr (Or.inr (Or.inl rfl))
  · exact Or.inr (Or.inr (Or.inr rfl))
theorem rightP_ok {n v : ByteArray} {A : List (ByteArray × ByteArray)} (h : rightP n v A = 0) : nameI (vb n) = true ∧ (∃ x, parseV (vb v) = some x) ∧ (n, v) ∉ A := by
  unfold rightP at h
  split at h
  · exact absurd h (by decide)
  rename_i h1
  split at h
  · exact absurd h (by decide)
  rename_i h2
  split at h
  · exact absurd h (by decide)
  rename_i h3
  refine ⟨by simpa using h1, ?_, h3⟩
  cases hp : parseV (vb v) with
  | none => rw [hp] at h2; exact absurd rfl h2
  | some x => exact ⟨x, rfl⟩
theorem rightN_ok {n : Ned} {A : List Ned} (h : rightN n A = 0) : nameI (vb n.nm) = true ∧ (∃ x, rangeS (vb n.rg) = some x) ∧ n.nm ∉ A.map Ned.nm := by
  unfold rightN at h
  split at h
  · exact absurd h (by decide)
  rename_i h1
  split at h
  · exact absurd h (by decide)
  rename_i h2
  split at h
  · exact absurd h (by decide)
  rename_i h3
  refine ⟨by simpa using h1, ?_, h3⟩
  cases hp : rangeS (vb n.rg) with
  | none => rw [hp] at h2; exact absurd rfl h2
  | some x => exact ⟨x, rfl⟩
theorem needsE_snoc (l : List Ned) (n : Ned) : ∀ A, needsE A (l ++ [n]) = if needsE A l ≠ 0 then needsE A l else rightN n (A ++ l) := by
  induction l with
  | nil =>
    intro A
    show (if rightN n A ≠ 0 then rightN n A else 0) = if (0 : Int) ≠ 0 then 0 else rightN n (A ++ [])
    rw [List.append_nil]
    by_cases h : rightN n A ≠ 0
    · rw [if_pos h]; rfl
    · rw [if_neg h]; exact (Decidable.not_not.1 h).symm
  | cons m l ih =>
    intro A
    show (if rightN m A ≠ 0 then rightN m A else needsE (A ++ [m]) (l ++ [n])) = if (if rightN m A ≠ 0 then rightN m A else needsE (A ++ [m]) l) ≠ 0 then _ else _
    by_cases h : rightN m A ≠ 0
    · rw [if_pos h, if_pos h, if_pos h]
      exact (if_pos h).symm
    · rw [if_neg h, if_neg h, ih]
      show (if needsE (A ++ [m]) l ≠ 0 then _ else _) = if needsE (A ++ [m]) l ≠ 0 then (if rightN m A ≠ 0 then rightN m A else needsE (A ++ [m]) l) else _
      rw [if_neg h, List.append_assoc]
      rfl
/-- What a package comes to behind others. -/
noncomputable def packE (A : List (ByteArray × ByteArray)) (p : Pak) : Int := if rightP p.nm p.vr A ≠ 0 then rightP p.nm p.vr A else needsE [] p.nd
theorem packsE_cons (A : List (ByteArray × ByteArray)) (p : Pak) (r : List Pak) : packsE A (p :: r) = if packE A p ≠ 0 then packE A p else packsE (A ++ [p.key]) r := by
  unfold packE
  show (if rightP p.nm p.vr A ≠ 0 then rightP p.nm p.vr A else if needsE [] p.nd ≠ 0 then needsE [] p.nd else packsE (A ++ [p.key]) r) = _
  by_cases h : rightP p.nm p.vr A ≠ 0
  · rw [if_pos h, if_pos h, if_pos h]
  · rw [if_neg h, if_neg h]
theorem packsE_snoc (L : List Pak) (p : Pak) : ∀ A, packsE A (L ++ [p]) = if packsE A L ≠ 0 then packsE A L else packE (A ++ L.map Pak.key) p := by
  induction L with
  | nil =>
    intro A
    show packsE A [p] = if (0 : Int) ≠ 0 then 0 else packE (A ++ []) p
    rw [packsE_cons, List.append_nil]
    by_cases h : packE A p ≠ 0
    · rw [if_pos h]; rfl
    · rw [if_neg h]; exact (Decidable.not_not.1 h).symm
  | cons q L ih =>
    intro A
    show packsE A (q :: (L ++ [p])) = _
    rw [packsE_cons, packsE_cons]
    by_cases h : packE A q ≠ 0
    · rw [if_pos h, if_pos h, if_pos h]
    · rw [if_neg h, if_neg h, ih, List.append_assoc]
      rfl
theorem packE_zero {A : List (ByteArray × ByteArray)} {p : Pak} : packE A p = 0 ↔ rightP p.nm p.vr A = 0 ∧ needsE [] p.nd = 0 := by
  unfold packE
  split
  · rename_i h
    exact ⟨fun e => absurd e h, fun e => absurd e.1 h⟩
  · rename_i h
    exact ⟨fun e => ⟨Decidable.not_not.1 h, e⟩, fun e => e.2⟩
theorem packsE_snoc0 {L : List Pak} {p : Pak} {A : List (ByteArray × ByteArray)} : packsE A (L ++ [p]) = 0 ↔ packsE A L = 0 ∧ packE (A ++ L.map Pak.key) p = 0 := by
  rw [packsE_snoc]
  split
  · rename_i h
    exact ⟨fun e => absurd e h, fun e => absurd e.1 h⟩
  · rename_i h
    exact ⟨fun e => ⟨Decidable.not_not.1 h, e⟩, fun e => e.2⟩
theorem packsE_cons0 {L : List Pak} {p : Pak} {A : List (ByteArray × ByteArray)} : packsE A (p :: L) = 0 ↔ packE A p = 0 ∧ packsE (A ++ [p.key]) L = 0 := by
  rw [packsE_cons]
  split
  · rename_i h
    exact ⟨fun e => absurd e h, fun e => absurd e.1 h⟩
  · rename_i h
    exact ⟨fun e => ⟨Decidable.not_not.1 h, e⟩, fun e => e.2⟩
theorem needsE_snoc0 {l : List Ned} {n : Ned} {A : List Ned} : needsE A (l ++ [n]) = 0 ↔ needsE A l = 0 ∧ rightN n (A ++ l) = 0 := by
  rw [needsE_snoc]
  split
  · rename_i h
    exact ⟨fun e => absurd e h, fun e => absurd e.1 h⟩
  · rename_i h
    exact ⟨fun e => ⟨Decidable.not_not.1 h, e⟩, fun e => e.2⟩
theorem needsE_cons0 {l : List Ned} {n : Ned} {A : List Ned} : needsE A (n :: l) = 0 ↔ rightN n A = 0 ∧ needsE (A ++ [n]) l = 0 := by
  show (if rightN n A ≠ 0 then rightN n A else needsE (A ++ [n]) l) = 0 ↔ _
  split
  · rename_i h
    exact ⟨fun e => absurd e h, fun e => absurd e.1 h⟩
  · rename_i h
    exact ⟨fun e => ⟨Decidable.not_not.1 h, e⟩, fun e => e.2⟩
theorem bigL_iff (L : List Pak) : bigL L = false ↔ L.length ≤ 1024 ∧ ∀ p ∈ L, p.nd.length ≤ 64 := by
  unfold bigL
  rw [Bool.or_eq_false_iff, List.any_eq_false]
  constructor
  · rintro ⟨h1, h2⟩
    exact ⟨by have := of_decide_eq_false h1; omega, fun p hp => by have := h2 p hp; simp at this; omega⟩
  · rintro ⟨h1, h2⟩
    exact ⟨decide_eq_false (by omega), fun p hp => by have := h2 p hp; simp; omega⟩
theorem rightL_zero {L : List Pak} : rightL L = 0 ↔ (L.length ≤ 1024 ∧ ∀ p ∈ L, p.nd.length ≤ 64) ∧ packsE [] L = 0 := by
  unfold rightL
  rw [← bigL_iff]
  cases h : bigL L with
  | true => exact ⟨fun e => absurd (show (3 : Int) = 0 from e) (by decide), fun e => absurd e.1 (by decide)⟩
  | false => exact ⟨fun e => ⟨rfl, e⟩, fun e => e.2⟩
/-- A package's line, a need's line, the text. -/
def lineI (a n s : By) : By := a ++ 32 :: (n ++ 32 :: (s ++ [10]))
def wPack : By := [112, 97, 99, 107, 97, 103, 101]
def wNeed : By := [110, 101, 101, 100, 115]
def needT (n : Ned) : By := lineI wNeed (vb n.nm) (vb n.rg)
def packT (p : Pak) : By := lineI wPack (vb p.nm) (vb p.vr) ++ (p.nd.map needT).flatten
def textL (L : List Pak) : By := (L.map packT).flatten
theorem textL_snoc (L : List Pak) (p : Pak) : textL (L ++ [p]) = textL L ++ packT p := by unfold textL; simp
theorem packT_snoc (n v : ByteArray) (l : List Ned) (m : Ned) : packT ⟨n, v, l ++ [m]⟩ = packT ⟨n, v, l⟩ ++ needT m := by unfold packT; simp
end Go.Proofs.YtkbhckjpmgkgjaaGreatDoor
namespace Go.Proofs.YtkbhckjpmgkgjaaGreatDoor
open Go.RowKit

/-- A line's error, by what is wrong with what it says. -/
def lineErr (e : Int) (full : Bool) : Int := if e = 17 ∨ e = 20 ∨ e = 21 then 50 else if full = true then 3 else e
noncomputable def packEr (st : List Pak) (n v : ByteArray) : Int := lineErr (rightP n v (st.map Pak.key)) (decide (st.length = 1024))
noncomputable def putPack (st : List Pak) (n v : ByteArray) : Int × List Pak := if packEr st n v ≠ 0 then (packEr st n v, st) else (0, st ++ [⟨n, v, []⟩])
noncomputable def needEr (p : Pak) (n r : ByteArray) : Int := lineErr (rightN ⟨n, r⟩ p.nd) (decide (p.nd.length = 64))
noncomputable def putNeed (st : List Pak) (n r : ByteArray) : Int × List Pak := match st.getLast? with
  | none => (50, st)
  | some p => if needEr p n r ≠ 0 then (needEr p n r, st) else (0, st.dropLast ++ [⟨p.nm, p.vr, p.nd ++ [⟨n, r⟩]⟩])
noncomputable def saidE (st : List Pak) (ws : List By) : Int × List Pak := match ws with
  | [a, n, s] => if a = wPack then putPack st (tx n) (tx s) else if a = wNeed then putNeed st (tx n) (tx s) else (50, st)
  | _ => (50, st)
/-- One line more. -/
noncomputable def lineE (st : List Pak) (x : By) : Int × List Pak := if x.getLast? = some 10 then saidE st (cutAll 32 x.dropLast) else (50, st)
noncomputable def runL : List Pak → Nat → List By → List Pak × Nat × Int
  | st, _, [] => (st, 0, 0)
  | st, k, x :: r => if (lineE st x).1 ≠ 0 then ([], k, (lineE st x).1) else runL (lineE st x).2 (k + 1) r
def linesB : Nat → By → List By
  | 0, _ => []
  | n + 1, l => if l = [] then [] else match cutAt 10 l with
    | none => [l]
    | some p => (p.1 ++ [10]) :: linesB n p.2
def linesL (l : By) : List By := linesB l.length l
theorem linesB_room {n : Nat} : ∀ {l : By}, l.length ≤ n → linesB n l = linesB (n + 1) l := by
  induction n with
  | zero =>
    intro l h
    obtain rfl := List.eq_nil_of_length_eq_zero (Nat.le_zero.1 h)
    rfl
  | succ n ih =>
    intro l h
    unfold linesB
    by_cases h0 : l = []
    · rw [if_pos h0, if_pos h0]
    · rw [if_neg h0, if_neg h0]
      cases hc : cutAt 10 l with
      | none => rfl
      | some p =>
        have h1 := (cutAt_back (a := p.1) (r := p.2) hc).1
        have h2 : l.length = p.1.length + (p.2.length + 1) := by rw [h1]; simp
        simp only
        rw [ih (show p.2.length ≤ n by omega)]
theorem linesB_less {n : Nat} {l : By} (h : l.length ≤ n) (d : Nat) : linesB n l = linesB (n + d) l := by
  induction d with
  | zero => rfl
  | succ d ih => rw [ih, ← Nat.add_assoc, linesB_room (by omega)]
theorem linesB_eq {n : Nat} {l : By} (h : l.length ≤ n) : linesB n l = linesL l := by
  unfold linesL
  rw [linesB_less (Nat.le_refl l.length) (n - l.length)]
  congr 1
  omega
theorem linesL_nil : linesL [] = [] := rfl
theorem linesL_cons {a : By} (h : (10 : UInt8) ∉ a) (r : By) : linesL (a ++ 10 :: r) = (a ++ [10]) :: linesL r := by
  unfold linesL
  have hl : (a ++ 10 :: r).length = (r.length + a.length) + 1 := by simp; omega
  rw [hl]
  rw [linesB, if_neg (by simp), cutAt_some h]
  simp only
  rw [← linesB_less (Nat.le_refl _)]
theorem linesL_last {l : By} (h : (10 : UInt8) ∉ l) (h0 : l ≠ []) : linesL l = [l] := by
  unfold linesL
  cases hl : l.length with
  | zero => exact absurd (List.eq_nil_of_length_eq_zero hl) h0
  | succ k => rw [linesB, if_neg h0, cutAt_none h]
theorem linesB_flat (n : Nat) : ∀ l : By, l.length ≤ n → (linesB n l).flatten = l := by
  induction n with
  | zero =>
    intro l h
    obtain rfl := List.eq_nil_of_length_eq_zero (Nat.le_zero.1 h)
    rfl
  | succ n ih =>
    intro l h
    unfold linesB
    by_cases h0 : l = []
    · rw [if_pos h0, h0]; rfl
    · rw [if_neg h0]
      cases hc : cutAt 10 l with
      | none => simp
      | some p =>
        have h1 := (cutAt_back (a := p.1) (r := p.2) hc).1
        have h2 : l.length = p.1.length + (p.2.length + 1) := by rw [h1]; simp
        simp only [List.flatten_cons]
        rw [ih p.2 (by omega)]
        conv => rhs; rw [h1]
        simp
theorem linesL_flat (l : By) : (linesL l).flatten = l := linesB_flat _ l (Nat.le_refl _)
/-- Parse. -/
noncomputable def parseI (l : By) : List Pak × Nat × Int := if 65536 < l.length then ([], 0, 3) else runL [] 0 (linesL l)
theorem getLast_snoc {x : By} (h : x.getLast? = some 10) : x = x.dropLast ++ [10] := by
  have h0 : x ≠ [] := fun e => by rw [e] at h; cases h
  have h1 : x.getLast h0 = 10 := by rw [List.getLast?_eq_some_getLast h0] at h; exact Option.some.inj h
  rw [← h1]
  exact (List.dropLast_concat_getLast h0).symm
theorem three_words {c : UInt8} {l a n s : By} (h : cutAll c l = [a, n, s]) : l = a ++ c :: (n ++ c :: s) ∧ c ∉ a ∧ c ∉ n ∧ c ∉ s := by
  cases h1 : cutAt c l with
  | none => rw [cutAll_none h1] at h; simp at h
  | some p =>
    rw [cutAll_some (a := p.1) (r := p.2) h1] at h
    obtain ⟨e1, h⟩ := List.cons.inj h
    obtain ⟨b1, b2⟩ := cutAt_back (a := p.1) (r := p.2) h1
    cases h2 : cutAt c p.2 with
    | none => rw [cutAll_none h2] at h; simp at h
    | some q =>
      rw [cutAll_some (a := q.1) (r := q.2) h2] at h
      obtain ⟨e2, h⟩ := List.cons.inj h
      obtain ⟨b3, b4⟩ := cutAt_back (a := q.1) (r := q.2) h2
      cases h3 : cutAt c q.2 with
      | none =>
        rw [cutAll_none h3] at h
        obtain ⟨e3, _⟩ := List.cons.inj h
        subst e1 e2 e3
        refine ⟨?_, b2, b4, cutAt_no h3⟩
        rw [b1]
        conv => lhs; rw [b3]
      | some t =>
        rw [cutAll_some (a := t.1) (r := t.2) h3] at h
        have h7 := congrArg List.length h
        have h8 := cutAll_pos c t.2
        simp only [List.length_cons, List.length_nil] at h7
        omega
theorem words_three {c : UInt8} {a n s : By} (ha : c ∉ a) (hn : c ∉ n) (hs : c ∉ s) : cutAll c (a ++ c :: (n ++ c :: s)) = [a, n, s] := by
  rw [cutAll_some (cutAt_some ha _), cutAll_some (cutAt_some hn _), cutAll_none (cutAt_none hs)]
theorem lineErr_zero {e : Int} {f : Bool} (h : lineErr e f = 0) : e = 0 ∧ f = false := by
  unfold lineErr at h
  split at h
  · exact absurd h (by decide)
  · split at h
    · exact absurd h (by decide)
    · rename_i h1
      exact ⟨h, by simpa using h1⟩
theorem lineErr_of {e : Int} {f : Bool} (h : e = 0) (hf : f = false) : lineErr e f = 0 := by
  subst h hf
  rfl
/-- A line that is read keeps packages that may be, and its own text. -/
theorem line_good {st : List Pak} {x : By} (hg : rightL st = 0) (h : (lineE st x).1 = 0) : rightL (lineE st x).2 = 0 ∧ textL (lineE st x).2 = textL st ++ x := by
  obtain ⟨⟨g1, g2⟩, g3⟩ := rightL_zero.1 hg
  unfold lineE at h ⊢
  by_cases h10 : x.getLast? = some 10
  · rw [if_pos h10] at h ⊢
    have hx := getLast_snoc h10
    unfold saidE at h ⊢
    split at h
    · rename_i a n s hw
      obtain ⟨w1, w2, w3, w4⟩ := three_words hw
      rw [w1] at hx
      by_cases ha : a = wPack
      · rw [if_pos ha] at h
        rw [if_pos ha]
        unfold putPack at h ⊢
        by_cases he : packEr st (tx n) (tx s) ≠ 0
        · rw [if_pos he] at h
          exact absurd h he
        · rw [if_neg he]
          obtain ⟨e1, e2⟩ := lineErr_zero (Decidable.not_not.1 he)
          have hne := of_decide_eq_false e2
          refine ⟨rightL_zero.2 ⟨⟨by rw [List.length_append]; simp; omega, fun p hp => ?_⟩, packsE_snoc0.2 ⟨g3, packE_zero.2 ⟨by rw [List.nil_append]; exact e1, rfl⟩⟩⟩, ?_⟩
          · rcases List.mem_append.1 hp with hp | hp
            · exact g2 p hp
            · rw [List.mem_singleton.1 hp]; exact Nat.zero_le _
          · rw [textL_snoc]
            show _ ++ packT ⟨tx n, tx s, []⟩ = _
            rw [hx]
            unfold packT lineI
            rw [vb_tx, vb_tx, ha]
            simp
      · rw [if_neg ha] at h
        rw [if_neg ha]
        by_cases hb : a = wNeed
        · rw [if_pos hb] at h
          rw [if_pos hb]
          unfold putNeed at h ⊢
          cases hl : st.getLast? with
          | none => rw [hl] at h; exact absurd (show (50 : Int) = 0 from h) (by decide)
          | some p =>
            rw [hl] at h
            simp only at h ⊢
            have hst : st = st.dropLast ++ [p] := by
              have h0 : st ≠ [] := fun e => by rw [e] at hl; cases hl
              have h1 : st.getLast h0 = p := by rw [List.getLast?_eq_some_getLast h0] at hl; exact Option.some.inj hl
              rw [← h1]
              exact (List.dropLast_concat_getLast h0).symm
            by_cases he : needEr p (tx n) (tx s) ≠ 0
            · rw [if_pos he] at h
              exact absurd h he
            · rw [if_neg he]
              obtain ⟨e1, e2⟩ := lineErr_zero (Decidable.not_not.1 he)
              have hne := of_decide_eq_false e2
              have hp64 := g2 p (by rw [hst]; simp)
              obtain ⟨D, hD⟩ : ∃ D, D = st.dropLast := ⟨_, rfl⟩
              rw [← hD] at hst ⊢
              rw [hst] at g1 g2 g3
              obtain ⟨k1, k2⟩ := packsE_snoc0.1 g3
              obtain ⟨k3, k4⟩ := packE_zero.1 k2
              refine ⟨rightL_zero.2 ⟨⟨by rw [List.length_append] at g1 ⊢; exact g1, fun q hq => ?_⟩, packsE_snoc0.2 ⟨k1, packE_zero.2 ⟨k3, needsE_snoc0.2 ⟨k4, by rw [List.nil_append]; exact e1⟩⟩⟩⟩, ?_⟩
              · rcases List.mem_append.1 hq with hq | hq
                · exact g2 q (List.mem_append_left _ hq)
                · rw [List.mem_singleton.1 hq]
                  show (p.nd ++ [_]).length ≤ 64
                  rw [List.length_append]
                  simp
                  omega
              · rw [textL_snoc, hst, textL_snoc, packT_snoc, List.append_assoc]
                congr 2
                rw [hx]
                unfold needT lineI
                rw [vb_tx, vb_tx, hb]
                simp
        · rw [if_neg hb] at h
          exact absurd (show (50 : Int) = 0 from h) (by decide)
    · exact absurd (show (50 : Int) = 0 from h) (by decide)
  · rw [if_neg h10] at h
    exact absurd (show (50 : Int) = 0 from h) (by decide)
theorem run_good (ls : List By) : ∀ (st : List Pak) (k : Nat), rightL st = 0 → (runL st k ls).2.2 = 0 → rightL (runL st k ls).1 = 0 ∧ textL (runL st k ls).1 = textL st ++ ls.flatten ∧ (runL st k ls).2.1 = 0 := by
  induction ls with
  | nil => intro st k hg _; exact ⟨hg, by show textL st = _; simp, rfl⟩
  | cons x r ih =>
    intro st k hg h
    unfold runL at h ⊢
    by_cases he : (lineE st x).1 ≠ 0
    · rw [if_pos he] at h
      exact absurd h he
    · rw [if_neg he] at h ⊢
      obtain ⟨h1, h2⟩ := line_good hg (Decidable.not_not.1 he)
      obtain ⟨h3, h4, h5⟩ := ih _ (k + 1) h1 h
      exact ⟨h3, by rw [h4, h2]; simp, h5⟩
/-- A text that is read is its packages' text, and they may be. -/
theorem parse_good {l : By} (h : (parseI l).2.2 = 0) : rightL (parseI l).1 = 0 ∧ textL (parseI l).1 = l ∧ (parseI l).2.1 = 0 := by
  unfold parseI at h ⊢
  by_cases hb : 65536 < l.length
  · rw [if_pos hb] at h
    exact absurd h (by decide)
  · rw [if_neg hb] at h ⊢
    obtain ⟨h1, h2, h3⟩ := run_good _ [] 0 rfl h
    exact ⟨h1, by rw [h2, linesL_flat]; rfl, h3⟩
theorem run_bad (ls : List By) : ∀ (st : List Pak) (k : Nat), (runL st k ls).2.2 ≠ 0 → (runL st k ls).1 = [] := by
  induction ls with
  | nil => intro st k h; exact absurd rfl h
  | cons x r ih =>
    intro st k h
    unfold runL at h ⊢
    by_cases he : (lineE st x).1 ≠ 0
    · rw [if_pos he]
    · rw [if_neg he] at h ⊢
      exact ih _ _ h
theorem parse_bad {l : By} (h : (parseI l).2.2 ≠ 0) : (parseI l).1 = [] := by
  unfold parseI at h ⊢
  split
  · rfl
  · rename_i hb
    rw [if_neg hb] at h
    exact run_bad _ _ _ h
/-- Bytes that end no word. -/
def okB (l : By) : Prop := ∀ b ∈ l, b ≠ 10 ∧ b ≠ 32
theorem okB.app {a b : By} (ha : okB a) (hb : okB b) : okB (a ++ b) := fun x hx => (List.mem_append.1 hx).elim (ha x) (hb x)
theorem okB.cons {x : UInt8} {b : By} (ha : x ≠ 10 ∧ x ≠ 32) (hb : okB b) : okB (x :: b) := fun y hy => (List.mem_cons.1 hy).elim (fun e => e ▸ ha) (hb y)
theorem okB.no10 {a : By} (h : okB a) : (10 : UInt8) ∉ a := fun k => (h 10 k).1 rfl
theorem okB.no32 {a : By} (h : okB a) : (32 : UInt8) ∉ a := fun k => (h 32 k).2 rfl
theorem byte_ok {b : UInt8} (h : 33 ≤ b.toNat) : b ≠ 10 ∧ b ≠ 32 := ⟨fun e => by rw [e] at h; exact absurd h (by decide), fun e => by rw [e] at h; exact absurd h (by decide)⟩
theorem dig_ok {b : UInt8} (h : digB b = true) : b ≠ 10 ∧ b ≠ 32 := byte_ok (by have := (digB_iff b).1 h; omega)
theorem name_ok {l : By} (h : nameI l = true) : okB l := by
  unfold nameI at h
  rw [Bool.and_eq_true] at h
  intro b hb
  have h1 := List.all_eq_true.1 h.2 b hb
  unfold nmB at h1
  rw [Bool.or_eq_true, Bool.or_eq_true] at h1
  rcases h1 with (h1 | h1) | h1
  · exact byte_ok (by have := of_decide_eq_true h1; omega)
  · exact dig_ok h1
  · rw [beq_iff_eq.1 h1]; decide
theorem ver_ok {l : By} {v : Ver} (h : parseV l = some v) : okB l := by
  obtain ⟨h1, h2⟩ := parse_back h
  rw [← h2]
  exact fun b hb => byte_ok (by have := text_bytes h1 b hb; omega)
theorem signR_ok {g : By} (h : g ∈ signsR) : okB g := by
  unfold signsR at h
  simp only [List.mem_cons, List.not_mem_nil, or_false] at h
  rcases h with rfl | rfl | rfl | rfl | rfl | rfl | rfl <;> (intro b hb; simp at hb; rcases hb with rfl | rfl <;> decide)
theorem term_okB {l : By} {L : List Cut} (h : termS l = some L) : okB l := by
  unfold termS at h
  by_cases h42 : l = [42]
  · rw [h42]; intro b hb; simp at hb; subst hb; decide
  · rw [if_neg h42] at h
    cases hf : l.findIdx? digB with
    | none => rw [hf] at h; cases h
    | some k =>
      rw [hf] at h
      simp only at h
      cases hp : parseV (l.drop k) with
      | none => rw [hp] at h; cases h
      | some v =>
        rw [hp] at h
        simp only at h
        rw [← List.take_append_drop k l]
        exact okB.app (signR_ok (sign_op h)) (ver_ok hp)
theorem split_okB {c : UInt8} (hc : c ≠ 10 ∧ c ≠ 32) (k : Nat) : ∀ l : By, (∀ x ∈ splitB c k l, okB x) → okB l := by
  induction k with
  | zero => intro l h; exact h l (by simp [splitB])
  | succ k ih =>
    intro l h
    unfold splitB at h
    cases hx : cutAt c l with
    | none => rw [hx] at h; exact h l (by simp)
    | some p =>
      rw [hx] at h
      rw [(cutAt_back (a := p.1) (r := p.2) hx).1]
      exact okB.app (h p.1 (by simp)) (okB.cons hc (ih p.2 fun x hx => h x (List.mem_cons_of_mem _ hx)))
theorem gathL_some {rd : By → Option (List Cut)} {jn : List Cut → List Cut → List Cut} : ∀ (P : List By) (J R : List Cut), gathL rd jn J P = some R → ∀ x ∈ P, ∃ L, rd x = some L := by
  intro P
  induction P with
  | nil => intro J R _ x hx; cases hx
  | cons y r ih =>
    intro J R h x hx
    unfold gathL at h
    cases hy : rd y with
    | none => rw [hy] at h; cases h
    | some L =>
      rw [hy] at h
      rcases List.mem_cons.1 hx with rfl | hx
      · exact ⟨L, hy⟩
      · exact ih _ R h x hx
theorem gather_some {c : UInt8} {rd : By → Option (List Cut)} {jn : List Cut → List Cut → List Cut} {l : By} {R : List Cut} (h : gatherS c rd jn l = some R) : ∀ x ∈ splitB c 16 l, ∃ L, rd x = some L := by
  unfold gatherS at h
  split at h
  · cases h
  · cases hP : splitB c 16 l with
    | nil => intro x hx; cases hx
    | cons y r =>
      rw [hP, gath1_cons] at h
      cases hy : rd y with
      | none => rw [hy] at h; cases h
      | some L =>
        rw [hy] at h
        intro x hx
        rcases List.mem_cons.1 hx with rfl | hx
        · exact ⟨L, hy⟩
        · exact gathL_some r L R h x hx
theorem range_ok {l : By} {R : List Cut} (h : rangeS l = some R) : okB l :=
  split_okB (c := 124) (by decide) 16 l fun x hx => by
    obtain ⟨L, hL⟩ := gather_some h x hx
    exact split_okB (c := 44) (by decide) 16 x fun y hy => by
      obtain ⟨M, hM⟩ := gather_some hL y hy
      exact term_okB hM
theorem wPack_ok : okB wPack := by intro b hb; simp [wPack] at hb; rcases hb with rfl | rfl | rfl | rfl | rfl | rfl | rfl <;> decide
theorem wNeed_ok : okB wNeed := by intro b hb; simp [wNeed] at hb; rcases hb with rfl | rfl | rfl | rfl <;> decide
theorem lineI_said {a n s : By} (ha : okB a) (hn : okB n) (hs : okB s) (st : List Pak) : lineE st (lineI a n s) = saidE st [a, n, s] := by
  unfold lineE
  have e : lineI a n s = (a ++ 32 :: (n ++ 32 :: s)) ++ [10] := by unfold lineI; simp
  have hl : ((a ++ 32 :: (n ++ 32 :: s)) ++ [10]).getLast? = some (10 : UInt8) := List.getLast?_concat
  rw [e, if_pos hl, List.dropLast_concat, words_three ha.no32 hn.no32 hs.no32]
theorem lineI_lines {a n s : By} (ha : okB a) (hn : okB n) (hs : okB s) (r : By) : linesL (lineI a n s ++ r) = lineI a n s :: linesL r := by
  have e : lineI a n s = (a ++ 32 :: (n ++ 32 :: s)) ++ [10] := by unfold lineI; simp
  have hno : (10 : UInt8) ∉ a ++ 32 :: (n ++ 32 :: s) := by
    intro h
    rcases List.mem_append.1 h with h | h
    · exact ha.no10 h
    · rcases List.mem_cons.1 h with h | h
      · exact absurd h (by decide)
      · rcases List.mem_append.1 h with h | h
        · exact hn.no10 h
        · rcases List.mem_cons.1 h with h | h
          · exact absurd h (by decide)
          · exact hs.no10 h
  have e2 : lineI a n s ++ r = (a ++ 32 :: (n ++ 32 :: s)) ++ 10 :: r := by rw [e]; simp
  rw [e2, linesL_cons hno, e]
theorem run_cons {st : List Pak} {k : Nat} {x : By} {r : List By} {st' : List Pak} (h : lineE st x = (0, st')) : runL st k (x :: r) = runL st' (k + 1) r := by
  rw [runL, h]
  simp
theorem run_needs (n v : ByteArray) (B : By) : ∀ (l D : List Ned) (st : List Pak) (k : Nat), needsE [] (D ++ l) = 0 → (D ++ l).length ≤ 64 → ∃ k', runL (st ++ [⟨n, v, D⟩]) k (linesL ((l.map needT).flatten ++ B)) = runL (st ++ [⟨n, v, D ++ l⟩]) k' (linesL B) := by
  intro l
  induction l with
  | nil => intro D st k _ _; exact ⟨k, by simp⟩
  | cons m l ih =>
    intro D st k hE hl
    have hE' : needsE [] ((D ++ [m]) ++ l) = 0 := by simpa using hE
    have hm : rightN m D = 0 := by
      have h1 : needsE [] (D ++ [m]) = 0 := by
        have : ∀ (X : List Ned) (l : List Ned), needsE [] (X ++ l) = 0 → needsE [] X = 0 := by
          intro X l
          induction l generalizing X with
          | nil => intro h; simpa using h
          | cons y l ih => intro h; exact (needsE_snoc0.1 (ih (X ++ [y]) (by simpa using h))).1
        exact this _ _ hE'
      simpa using (needsE_snoc0.1 h1).2
    obtain ⟨k1, ⟨x, k2⟩, k3⟩ := rightN_ok hm
    have hll : D.length < 64 := by rw [List.length_append, List.length_cons] at hl; omega
    have hstep : lineE (st ++ [⟨n, v, D⟩]) (needT m) = (0, st ++ [⟨n, v, D ++ [m]⟩]) := by
      unfold needT
      rw [lineI_said wNeed_ok (name_ok k1) (range_ok k2)]
      unfold saidE
      simp only
      rw [if_neg (by decide), if_pos trivial]
      unfold putNeed
      rw [List.getLast?_concat]
      simp only
      have he : needEr ⟨n, v, D⟩ (tx (vb m.nm)) (tx (vb m.rg)) = 0 := lineErr_of (by rw [tx_vb, tx_vb]; exact hm) (decide_eq_false (by show ¬ D.length = 64; omega))
      rw [if_neg (fun h => h he), List.dropLast_concat, tx_vb, tx_vb]
    obtain ⟨k', hk⟩ := ih (D ++ [m]) st (k + 1) hE' (by simpa using hl)
    refine ⟨k', ?_⟩
    show runL _ _ (linesL ((needT m ++ (l.map needT).flatten) ++ B)) = _
    rw [List.append_assoc]
    have h5 : linesL (needT m ++ ((l.map needT).flatten ++ B)) = needT m :: linesL ((l.map needT).flatten ++ B) := lineI_lines wNeed_ok (name_ok k1) (range_ok k2) _
    rw [h5, run_cons hstep, hk]
    simp
theorem run_text : ∀ (L st : List Pak) (k : Nat), rightL (st ++ L) = 0 → runL st k (linesL (textL L)) = (st ++ L, 0, 0) := by
  intro L
  induction L with
  | nil => intro st k _; show runL st k [] = _; rw [List.append_nil]; rfl
  | cons p r ih =>
    intro st k hg
    have hg' : rightL ((st ++ [p]) ++ r) = 0 := by simpa using hg
    obtain ⟨⟨g1, g2⟩, g3⟩ := rightL_zero.1 hg'
    have hpre : ∀ (X Y : List Pak), packsE [] (X ++ Y) = 0 → packsE [] X = 0 := by
      intro X Y
      induction Y generalizing X with
      | nil => intro h; simpa using h
      | cons y Y ih => intro h; exact (packsE_snoc0.1 (ih (X ++ [y]) (by simpa using h))).1
    obtain ⟨_, hp⟩ := packsE_snoc0.1 (hpre _ _ g3)
    rw [List.nil_append] at hp
    obtain ⟨k1, k2⟩ := packE_zero.1 hp
    obtain ⟨k3, ⟨x, k4⟩, k5⟩ := rightP_ok k1
    have hlen : st.length < 1024 := by rw [List.length_append, List.length_append] at g1; simp at g1; omega
    have hstep : lineE st (lineI wPack (vb p.nm) (vb p.vr)) = (0, st ++ [⟨p.nm, p.vr, []⟩]) := by
      rw [lineI_said wPack_ok (name_ok k3) (ver_ok k4)]
      unfold saidE
      simp only
      rw [if_pos trivial]
      unfold putPack
      have he : packEr st (tx (vb p.nm)) (tx (vb p.vr)) = 0 := lineErr_of (by rw [tx_vb, tx_vb]; exact k1) (decide_eq_false (by omega))
      rw [if_neg (fun h => h he), tx_vb, tx_vb]
    show runL st k (linesL ((lineI wPack (vb p.nm) (vb p.vr) ++ (p.nd.map needT).flatten) ++ textL r)) = _
    rw [List.append_assoc, lineI_lines wPack_ok (name_ok k3) (ver_ok k4), run_cons hstep]
    obtain ⟨k', hk⟩ := run_needs p.nm p.vr (textL r) p.nd [] st (k + 1) (by simpa using k2) (by simpa using g2 p (by simp))
    rw [hk, List.nil_append]
    have := ih (st ++ [p]) k' hg'
    rw [this]
    simp
/-- Packages whose text is read are these again. -/
theorem parse_text_of {L : List Pak} (hg : rightL L = 0) (hl : (textL L).length ≤ 65536) : parseI (textL L) = (L, 0, 0) := by
  unfold parseI
  rw [if_neg (by omega)]
  exact run_text L [] 0 hg
end Go.Proofs.YtkbhckjpmgkgjaaGreatDoor
namespace Go.Proofs.YtkbhckjpmgkgjaaGreatDoor
open Go.RowKit

theorem split_count (c : UInt8) : ∀ (k : Nat) (l : By), l.count c ≤ k → splitB c k l = cutAll c l
  | 0, l, h => by
    have h0 : c ∉ l := List.count_eq_zero.1 (Nat.le_zero.1 h)
    rw [cutAll_none (cutAt_none h0), splitB]
  | k + 1, l, h => by
    cases hc : cutAt c l with
    | none => rw [cutAll_none hc, splitB, hc]
    | some p =>
      rw [cutAll_some (a := p.1) (r := p.2) hc, splitB, hc]
      obtain ⟨b1, b2⟩ := cutAt_back (a := p.1) (r := p.2) hc
      rw [b1, List.count_append, List.count_cons_self, List.count_eq_zero.2 b2] at h
      show p.1 :: splitB c k p.2 = _
      rw [split_count c k p.2 (by omega)]
set_option maxRecDepth 20000 in
theorem count_ok (s : ByteArray) (c : UInt8) (w : World) : Calls Tryz.prog 136 #[.string s, .string ⟨#[c]⟩] w fun e w' => e = .returned (.int .i64 (((vb s).count c : Nat) : Int)) ∧ w' = w := by
  go_enter Tryz.func136, Tryz.ntmps136
  go_wp2
  rw [run_callFunc_extern Tryz.func160 (by kernel_rfl) (by kernel_rfl) (by kernel_rfl) (e := Extern.BytealgCount.count) (by kernel_rfl), Lib.run_countString]
  simp only [Result.andThen]
  rw [Oper.upon_value]
  go_wp2
  go_ret
  exact ⟨rfl, rfl⟩
/-- What Split tells. -/
def SplitPA (c : UInt8) (s : ByteArray) (w : World) (e : Ending) (w' : World) : Prop :=
  ∃ (g : Nat) (P : List ByteArray) (cp : Nat), e = .returned (.slice (some ⟨g, 0, none⟩) P.length cp) ∧ P.map vb = cutAll c (vb s) ∧ (∀ i (h : i < P.length), w'.cell? ⟨g, i, none⟩ = some (.string P[i])) ∧ w.heap.size ≤ g ∧ g < w'.heap.size ∧ Below w.heap.size w w' ∧ P.length ≤ cp
/-- What holds while it is parted. -/
def SplitRA (c : UInt8) (s : ByteArray) (w : World) (m : Nat) (wr : World) (k : Nat) (x : ByteArray) : Prop :=
  ∃ P : List ByteArray, P.length = k ∧ SpAt wr w.heap.size (m + 1) P ∧ cutAll c (vb s) = P.map vb ++ splitB c (m - k) (vb x) ∧ Below w.heap.size w wr ∧ x.size ≤ s.size
theorem SplitRA.last {c : UInt8} {s : ByteArray} {w : World} {m : Nat} {wr : World} {k : Nat} {x : ByteArray} (h : SplitRA c s w m wr k x) (hk : k ≤ m) (he : splitB c (m - k) (vb x) = [vb x]) :
    SplitPA c s w (.returned (.slice (some ⟨w.heap.size, 0, none⟩) (k + 1) (m + 1))) (wr.setCell ⟨w.heap.size, k, none⟩ (.string x)) := by
  obtain ⟨P, h1, h2, h3, h4, h5⟩ := h
  have h6 := h2.more h1 (by omega) x
  refine ⟨w.heap.size, P ++ [x], m + 1, ?_, ?_, fun i hi => h6.at i hi, Nat.le_refl _, h6.lt, h4.trans (below_set (Nat.le_refl _) _ _), h6.le⟩
  · rw [List.length_append, h1]
    rfl
  · rw [h3, List.map_append, he]
    rfl
theorem SplitRA.more {c : UInt8} {s : ByteArray} {w : World} {m : Nat} {wr : World} {k : Nat} {x : ByteArray} (h : SplitRA c s w m wr k x) (hk : k < m) {j : Nat} (hj : j < x.size) (he : cutAt c (vb x) = some ((vb x).take j, (vb x).drop (j + 1))) :
    SplitRA c s w m (wr.setCell ⟨w.heap.size, k, none⟩ (.string (x.extract 0 j))) (k + 1) (x.extract (j + 1) x.size) := by
  obtain ⟨P, h1, h2, h3, h4, h5⟩ := h
  refine ⟨P ++ [x.extract 0 j], by rw [List.length_append, h1]; rfl, h2.more h1 (by omega) _, ?_, h4.trans (below_set (Nat.le_refl _) _ _), by rw [ByteArray.size_extract]; omega⟩
  rw [h3, show m - k = (m - (k + 1)) + 1 by omega]
  rw [show splitB c ((m - (k + 1)) + 1) (vb x) = (vb x).take j :: splitB c (m - (k + 1)) ((vb x).drop (j + 1)) by rw [splitB, he], List.map_append, List.append_assoc, vb_extract, List.take_of_length_le (by rw [vb_len]; omega : (vb x).length ≤ x.size)]
  show _ = P.map vb ++ ([vb (x.extract 0 j)] ++ _)
  rw [vb_extract, List.drop_zero]
  rfl
theorem SplitRA.facts {c : UInt8} {s : ByteArray} {w : World} {m : Nat} {wr : World} {k : Nat} {x : ByteArray} (h : SplitRA c s w m wr k x) (hk : k ≤ m) : (∃ z, wr.cell? ⟨w.heap.size, k, none⟩ = some (.string z)) ∧ wr.frozen? ⟨w.heap.size, k, none⟩ = false ∧ x.size ≤ s.size := by
  obtain ⟨P, h1, h2, h3, h4, h5⟩ := h
  exact ⟨h2.cell (by omega), h2.frozen k, h5⟩
set_option maxRecDepth 20000 in
set_option maxHeartbeats 4000000 in
theorem genSplitA (c : UInt8) (s : ByteArray) (w : World) (hs : s.size ≤ 65536) : Calls Tryz.prog 104 #[.string s, .string ⟨#[c]⟩, .int .i64 0, .int .i64 (-1)] w (SplitPA c s w) := by
  have hlen := vb_len s
  obtain ⟨m, hm0⟩ : ∃ m, m = (vb s).count c := ⟨_, rfl⟩
  have hml : m ≤ s.size := by rw [hm0, ← hlen]; exact List.count_le_length
  have HS : Hid (splitB c m (vb s) = cutAll c (vb s)) := split_count c m (vb s) (by omega)
  have hct := count_ok s c w
  rw [← hm0] at hct
  obtain ⟨n, hn⟩ : ∃ n, n = m + 1 := ⟨_, rfl⟩
  have HN : Hid (n = m + 1) := hn
  have hm : min ((m : Int) + 1) ((s.size : Int) + 1) = (n : Int) := by omega
  have hwm : IntKind.i64.wrap ((m : Int) + 1) = (m : Int) + 1 := by rw [IntKind.wrap_i64]; omega
  have hws : IntKind.i64.wrap ((s.size : Int) + 1) = (s.size : Int) + 1 := by rw [IntKind.wrap_i64]; omega
  clear hm0 hn
  obtain ⟨RP, hRP⟩ : ∃ RP, RP = SplitPA c s w := ⟨_, rfl⟩
  have HRP : Hid (∀ e w', SplitPA c s w e w' → RP e w') := fun e w' h => by rw [hRP]; exact h
  rw [← hRP]
  clear hRP
  have hmk := run_make_row' (P := Tryz.prog) 38 9 (.string ByteArray.empty) 16 Tryz.underlying38 info9z rfl .i64 .i64 n (by have := HN.out; omega) (by have := HN.out; omega)
  obtain ⟨w0, hw0⟩ : ∃ x, x = w.alloc (.cells (madeCells #[Value.string ByteArray.empty] n) 9) := ⟨_, rfl⟩
  have HR0 : Hid (SplitRA c s w m w0 0 s) := by
    refine ⟨[], rfl, by rw [hw0, HN.out]; exact SpAt.made w _, HS.out.symm, by rw [hw0]; exact (Below.refl _ _).alloc (Nat.le_refl _) _, Nat.le_refl _⟩
  have hmk2 := hmk w
  rw [← hw0] at hmk2
  have hn1 : IntKind.i64.wrap ((n : Int) - 1) = (m : Int) := by rw [IntKind.wrap_i64]; have := HN.out; omega
  have hn2 : m < n := by have := HN.out; omega
  have HI : Hid (∀ x wr, Calls Tryz.prog 137 #[.string x, .string ⟨#[c]⟩] wr fun e w' => e = .returned (.int .i64 (Lib.indexByte (vb x) c)) ∧ w' = wr) := fun x wr => index_ok x c wr
  clear hmk hw0 hlen HS
  go_enter Tryz.func104, Tryz.ntmps104
  go_wp2_with (go_at_call 136; refine hct.mono ?_; rintro e w1 ⟨rfl, hw1⟩; rw [hw1]; clear hw1 hct)
  go_loopw [0, 10] (fun t i wr => ∃ (k : Nat) (x : ByteArray), k ≤ m ∧ t = .string x ∧ i = .int .i64 k ∧ SplitRA c s w m wr k x) (fun _ i _ => m - (intOf i).toNat)
  case atStart => exact ⟨0, s, Nat.zero_le _, rfl, rfl, HR0.out⟩
  case round =>
    clear hmk2 hm hn1 hwm hws
    obtain ⟨k, x, hk, rfl, rfl, hR⟩ := hrel
    have HR : Hid (SplitRA c s w m wr k x) := hR
    clear hR
    by_cases hlt : k < m
    · have hI := HI.out x wr
      have hlt' : (k : Int) < (m : Int) := by omega
      rcases index_cut (vb x) c with ⟨h1, h2⟩ | ⟨j, h1, h2, h3⟩
      · rw [h1] at hI
        have he : splitB c (m - k) (vb x) = [vb x] := by rw [show m - k = (m - k - 1) + 1 by omega, splitB, h2]
        clear h1 h2
        have HP := HRP.out _ _ (HR.out.last (by omega) he)
        obtain ⟨⟨z, hcz⟩, hfz, hxs⟩ := HR.out.facts (by omega)
        obtain ⟨k1, hk1⟩ : ∃ y, y = k + 1 := ⟨_, rfl⟩
        have hk1n : (k1 : Int) ≤ (n : Int) := by have := HN.out; omega
        have hwk : IntKind.i64.wrap ((k : Int) + 1) = (k1 : Int) := by rw [IntKind.wrap_i64]; omega
        have hkn : (k : Int) < (n : Int) := by omega
        rw [← hk1, ← HN.out] at HP
        clear hk1 he hxs
        go_wp2_with (go_at_call 137; refine hI.mono ?_; rintro e w1 ⟨rfl, hw1⟩; rw [hw1]; clear hw1)
        exact HP
      · rw [h1] at hI
        rw [vb_len] at h2
        have HR2 : Hid (SplitRA c s w m (wr.setCell ⟨w.heap.size, k, none⟩ (.string (x.extract 0 j))) (k + 1) (x.extract (j + 1) x.size)) := HR.out.more hlt h2 h3
        obtain ⟨⟨z, hcz⟩, hfz, hxs⟩ := HR.out.facts (by omega)
        have hkn : (k : Int) < (n : Int) := by omega
        clear h1 h3
        go_wp2_with (go_at_call 137; refine hI.mono ?_; rintro e w1 ⟨rfl, hw1⟩; rw [hw1]; clear hw1)
        go_roundw
        case rel => exact ⟨k + 1, _, by omega, rfl, by go_num, HR2.out⟩
        case measure => simp [intOf]; omega
    · have he : splitB c (m - k) (vb x) = [vb x] := by rw [show m - k = 0 by omega, splitB]
      have hlt' : ¬ (k : Int) < (m : Int) := by omega
      have HP := HRP.out _ _ (HR.out.last (by omega) he)
      obtain ⟨⟨z, hcz⟩, hfz, hxs⟩ := HR.out.facts (by omega)
      obtain ⟨k1, hk1⟩ : ∃ y, y = k + 1 := ⟨_, rfl⟩
      have hk1n : (k1 : Int) ≤ (n : Int) := by have := HN.out; omega
      have hwk : IntKind.i64.wrap ((k : Int) + 1) = (k1 : Int) := by rw [IntKind.wrap_i64]; omega
      have hkn : (k : Int) < (n : Int) := by omega
      rw [← hk1, ← HN.out] at HP
      clear hk1 he hxs
      go_wp2
      exact HP
set_option maxRecDepth 20000 in
/-- Split. -/
theorem split_ok (c : UInt8) (s : ByteArray) (w : World) (hs : s.size ≤ 65536) : Calls Tryz.prog 72 #[.string s, .string ⟨#[c]⟩] w (SplitPA c s w) := by
  have hC := genSplitA c s w hs
  obtain ⟨RP, hRP⟩ : ∃ RP, RP = SplitPA c s w := ⟨_, rfl⟩
  have HP : Hid (∀ e w', SplitPA c s w e w' → RP e w') := fun e w' h => by rw [hRP]; exact h
  rw [← hRP]
  clear hRP
  go_enter Tryz.func72, Tryz.ntmps72
  go_wp2_with fail
  refine hC.mono ?_
  intro e w1 hp
  have HQ := HP.out e w1 hp
  obtain ⟨g, P, cp, rfl, _⟩ := hp
  clear hC
  go_wp2
  exact HQ
/-- The last byte. -/
theorem last_ext (s : ByteArray) (h : 1 ≤ s.size) (c : UInt8) : (s.extract (s.size - 1) s.size = ⟨#[c]⟩) ↔ (vb s).getLast? = some c := by
  have hl := vb_len s
  have hv : vb (s.extract (s.size - 1) s.size) = (vb s).drop (s.size - 1) := by rw [vb_extract, List.take_of_length_le (by omega)]
  have hne : vb s ≠ [] := fun e => by rw [e] at hl; simp at hl; omega
  have hd : (vb s).drop (s.size - 1) = [(vb s).getLast hne] := by
    rw [List.drop_eq_getElem_cons (by omega), List.drop_eq_nil_of_le (by omega), List.getLast_eq_getElem]
    congr 2
  rw [List.getLast?_eq_some_getLast hne]
  constructor
  · intro h1
    rw [h1, hd] at hv
    have h2 : [c] = [(vb s).getLast hne] := hv
    rw [(List.cons.inj h2).1]
  · intro h1
    refine vb_inj ?_
    rw [hv, hd, Option.some.inj h1]
theorem hasSuf_ok (s : ByteArray) (c : UInt8) (w : World) (hs : s.size ≤ 65536) : Calls Tryz.prog 134 #[.string s, .string ⟨#[c]⟩] w fun e w' => e = .returned (.bool (decide ((vb s).getLast? = some c))) ∧ w' = w := by
  by_cases h1 : 1 ≤ s.size
  · have h1' : (1 : Int) ≤ (s.size : Int) := by omega
    have hle := last_ext s h1 c
    have hw1 : IntKind.i64.wrap ((s.size : Int) - 1) = ((s.size - 1 : Nat) : Int) := by rw [IntKind.wrap_i64]; omega
    obtain ⟨R, hR⟩ : ∃ R, R = decide ((vb s).getLast? = some c) := ⟨_, rfl⟩
    have HD : Hid (R = decide (s.extract (s.size - 1) s.size = ⟨#[c]⟩)) := by show _ = _; rw [hR, Bool.eq_iff_iff]; simp only [decide_eq_true_eq]; exact hle.symm
    rw [← hR]
    obtain ⟨k, hk⟩ : ∃ k, k = s.size - 1 := ⟨_, rfl⟩
    rw [← hk] at hw1 HD
    have hks : (k : Int) ≤ (s.size : Int) := by omega
    have HL : Hid (decide (s.extract k s.size = ⟨#[c]⟩) = ((s.extract k s.size).toList == [c])) := by
      show _ = _
      rw [Bool.eq_iff_iff, decide_eq_true_eq, beq_iff_eq, ByteArray.toList_eq]
      exact ⟨fun e => by rw [e], fun e => vb_inj e⟩
    clear hle hk hR
    go_enter Tryz.func134, Tryz.ntmps134
    go_wp2
    go_ret
    exact ⟨by rw [HD.out, HL.out]; first | rfl | (congr 3), rfl⟩
  · have h0 : s.size = 0 := by omega
    have h1' : ¬ (1 : Int) ≤ (s.size : Int) := by omega
    have hb : decide ((vb s).getLast? = some c) = false := by
      have h2 := vb_len s
      rw [List.eq_nil_of_length_eq_zero (h2.trans h0)]
      rfl
    rw [hb]
    clear h0 hb
    go_enter Tryz.func134, Tryz.ntmps134
    go_wp2
    go_ret
    exact ⟨rfl, rfl⟩
/-- What CutSuffix tells. -/
def sufE (s : ByteArray) (c : UInt8) : Ending := if (vb s).getLast? = some c then .returned (.tuple #[.string (s.extract 0 (s.size - 1)), .bool true]) else .returned (.tuple #[.string s, .bool false])
theorem cutSufIn_ok (s : ByteArray) (c : UInt8) (w : World) (hs : s.size ≤ 65536) : Calls Tryz.prog 103 #[.string s, .string ⟨#[c]⟩] w fun e w' => e = sufE s c ∧ w' = w := by
  have hC := hasSuf_ok s c w hs
  by_cases h : (vb s).getLast? = some c
  · have HE : Hid (sufE s c = .returned (.tuple #[.string (s.extract 0 (s.size - 1)), .bool true])) := if_pos h
    have h1 : 1 ≤ s.size := by
      have h2 := vb_len s
      cases hv : vb s with
      | nil => rw [hv] at h; cases h
      | cons a r => rw [hv] at h2; simp at h2; omega
    rw [decide_eq_true h] at hC
    have hw1 : IntKind.i64.wrap ((s.size : Int) - 1) = ((s.size - 1 : Nat) : Int) := by rw [IntKind.wrap_i64]; omega
    obtain ⟨k, hk⟩ : ∃ k, k = s.size - 1 := ⟨_, rfl⟩
    rw [← hk] at hw1 HE
    have hks : (k : Int) ≤ (s.size : Int) := by omega
    clear h hk
    go_enter Tryz.func103, Tryz.ntmps103
    go_wp2_with fail
    refine hC.mono ?_
    rintro e w1 ⟨rfl, hw⟩
    rw [hw]
    clear hw hC
    go_wp2
    go_ret2
    exact ⟨by rw [HE.out]; rfl, rfl⟩
  · have HE : Hid (sufE s c = .returned (.tuple #[.string s, .bool false])) := if_neg h
    rw [decide_eq_false h] at hC
    clear h
    go_enter Tryz.func103, Tryz.ntmps103
    go_wp2_with fail
    refine hC.mono ?_
    rintro e w1 ⟨rfl, hw⟩
    rw [hw]
    clear hw hC
    go_wp2
    go_ret2
    exact ⟨by rw [HE.out]; rfl, rfl⟩
theorem cutSuf_ok (s : ByteArray) (c : UInt8) (w : World) (hs : s.size ≤ 65536) : Calls Tryz.prog 71 #[.string s, .string ⟨#[c]⟩] w fun e w' => e = sufE s c ∧ w' = w := by
  have hC := cutSufIn_ok s c w hs
  obtain ⟨E, hE⟩ : ∃ E, E = sufE s c := ⟨_, rfl⟩
  have HT : Hid (∃ a b, E = .returned (.tuple #[.string a, .bool b])) := by
    rw [hE]
    by_cases h : (vb s).getLast? = some c
    · exact ⟨_, _, if_pos h⟩
    · exact ⟨_, _, if_neg h⟩
  rw [← hE] at hC ⊢
  clear hE
  obtain ⟨a, b, rfl⟩ := HT.out
  go_enter Tryz.func71, Tryz.ntmps71
  go_wp2_with fail
  refine hC.mono ?_
  rintro e w1 ⟨rfl, hw⟩
  rw [hw]
  clear hw hC
  go_wp2
  go_ret2
  exact ⟨rfl, rfl⟩
end Go.Proofs.YtkbhckjpmgkgjaaGreatDoor
namespace Go.Proofs.YtkbhckjpmgkgjaaGreatDoor
open Go.RowKit
open Go.ChangeMaps (setBlock)

theorem setBlock_same {w : World} {m : Nat} {o : Obj} (h : m < w.heap.size) : (setBlock w m o).heap[m]? = some o := by simp [setBlock, h]
theorem setBlock_other {w : World} {m k : Nat} {o : Obj} (h : k ≠ m) : (setBlock w m o).heap[k]? = w.heap[k]? := by simp [setBlock, Ne.symm h]
theorem setBlock_size (w : World) (m : Nat) (o : Obj) : (setBlock w m o).heap.size = w.heap.size := by simp [setBlock]
theorem below_setBlock {w : World} {m B : Nat} (o : Obj) (h : B ≤ m) : Below B w (setBlock w m o) := ⟨rfl, rfl, rfl, by rw [setBlock_size]; exact Nat.le_refl _, fun k hk => setBlock_other (by omega)⟩

/-- A name and a version's text as a key. -/
abbrev Rl := ByteArray × ByteArray
abbrev rkey (x : Rl) : Value := .agg #[.string x.1, .string x.2]
theorem fields_rel : Tryz.prog.fieldsOf 67 = #[{ name := "name", type := 9, offset := 0, embedded := false, tag := "", pkgPath := "stillroom/index", byteOffset := 0 }, { name := "version", type := 9, offset := 1, embedded := false, tag := "", pkgPath := "stillroom/index", byteOffset := 16 }] := by kernel_rfl
theorem part_str (a b : Value) (w : World) : (part 9 #[a, b] 0).run Tryz.prog w = .ok a w ∧ (part 9 #[a, b] 1).run Tryz.prog w = .ok b w := ⟨by kernel_rfl, by kernel_rfl⟩
theorem list_eq {a b : ByteArray} : a.toList = b.toList ↔ a = b := ⟨fun e => by rw [ByteArray.toList_eq, ByteArray.toList_eq] at e; exact vb_inj e, fun e => by rw [e]⟩
theorem equal_rel (x y : Rl) (w : World) : (Op.equal 67 (rkey x) (rkey y)).run Tryz.prog w = .ok (decide (x = y)) w := by
  obtain ⟨a, b⟩ := x
  obtain ⟨c, d⟩ := y
  have h := run_equalIn_struct (P := Tryz.prog) w 9999 67 #[.string a, .string b] #[.string c, .string d] (by rw [fields_rel]; exact Tryz.underlying67) (by kernel_rfl)
  refine (show (Op.equal 67 (rkey (a, b)) (rkey (c, d))).run Tryz.prog w = _ from h).trans ?_
  rw [fields_rel]
  have p1 := part_str (.string a) (.string b) w
  have p2 := part_str (.string c) (.string d) w
  have q1 := run_equalIn_string (P := Tryz.prog) w 9998 9 a c Tryz.underlying9
  have q2 := run_equalIn_string (P := Tryz.prog) w 9998 9 b d Tryz.underlying9
  simp only [Op.eqFields, Sem.run_bind, Sem.run_ite, p1.1, p1.2, p2.1, p2.2, q1, q2, Result.andThen_ok, Sem.run_pure]
  by_cases h1 : a = c
  · subst h1
    by_cases h2 : b = d
    · subst h2
      simp
    · have : ¬ b.toList = d.toList := fun e => h2 (list_eq.1 e)
      simp [h2, this]
  · have : ¬ a.toList = c.toList := fun e => h1 (list_eq.1 e)
    simp [h1, this]
theorem check_rel (x : Rl) (em : Bool) (w : World) : (Instr.checkKey em 10000 67 (rkey x)).run Tryz.prog w = .ok () w := by
  cases em <;> kernel_rfl
theorem askingR (x : Rl) (w : World) : ∀ (es : List MapEntry) (E : List Rl) (i : Nat), es.map (·.key) = E.map rkey →
    (x ∉ E ∧ (Instr.findAsking 67 (rkey x) es i).run Tryz.prog w = .ok none w) ∨ ∃ j e, es[j]? = some e ∧ x ∈ E ∧ (Instr.findAsking 67 (rkey x) es i).run Tryz.prog w = .ok (some (i + j, e.val)) w
  | [], E, i, h => by
    have : E = [] := by cases E with | nil => rfl | cons a b => cases h
    subst this
    exact .inl ⟨List.not_mem_nil, by simp [Instr.findAsking]⟩
  | e :: es, E, i, h => by
    cases E with
    | nil => cases h
    | cons y E =>
      simp only [List.map_cons, List.cons.injEq] at h
      have hq := equal_rel x y w
      rw [← h.1] at hq
      by_cases hxy : x = y
      · subst hxy
        rw [decide_eq_true rfl] at hq
        refine .inr ⟨0, e, rfl, List.mem_cons_self, ?_⟩
        simp [Instr.findAsking, hq]
      · rw [decide_eq_false hxy] at hq
        rcases askingR x w es E (i + 1) h.2 with ⟨h1, h2⟩ | ⟨j, e', h1, h3, h4⟩
        · refine .inl ⟨fun hm => ?_, by simp [Instr.findAsking, hq, h2]⟩
          rcases List.mem_cons.1 hm with hm | hm
          · exact hxy hm
          · exact h1 hm
        · refine .inr ⟨j + 1, e', h1, List.mem_cons_of_mem _ h3, ?_⟩
          simp [Instr.findAsking, hq, h4]
          omega
/-- Block m is a map whose keys are just these releases. -/
structure RelAt (w : World) (m : Nat) (E : List Rl) : Prop where
  ex : ∃ es clk, w.heap[m]? = some (.map es clk) ∧ es.toList.map (·.key) = E.map rkey ∧ ∀ e ∈ es.toList, ∃ z : Int, e.val = .int .i64 z
theorem find_rel {w : World} {E : List Rl} {es : Array MapEntry} (hk : es.toList.map (·.key) = E.map rkey) (x : Rl) : (x ∉ E ∧ (Instr.findKey 67 (rkey x) es.toList).run Tryz.prog w = .ok none w) ∨ ∃ j e, es[j]? = some e ∧ x ∈ E ∧ (Instr.findKey 67 (rkey x) es.toList).run Tryz.prog w = .ok (some (j, e.val)) w := by
  have he := run_findKey_eq (P := Tryz.prog) w (k := 67) (by rw [Tryz.underlying67]) (rkey x) es.toList
  rw [he]
  rcases askingR x w es.toList E 0 hk with h1 | ⟨j, e, h1, h3, h4⟩
  · exact .inl h1
  · exact .inr ⟨j, e, by simpa using h1, h3, by simpa using h4⟩
/-- A release is asked for. -/
theorem lookup_rel {w : World} {m : Nat} {E : List Rl} (h : RelAt w m E) (x : Rl) : ∃ z : Int, (x ∈ E ∧ (Instr.lookup 64 (.map (some m)) (rkey x) true).run Tryz.prog w = .ok (.tuple #[.int .i64 z, .bool true]) w) ∨ (x ∉ E ∧ (Instr.lookup 64 (.map (some m)) (rkey x) true).run Tryz.prog w = .ok (.tuple #[.int .i64 z, .bool false]) w) := by
  obtain ⟨es, clk, h0, hk, hv⟩ := h.ex
  have hz : ∀ w, (zeroValue 3).run Tryz.prog w = .ok (.int .i64 0) w := fun w => by kernel_rfl
  have hu := run_underlying (P := Tryz.prog) Tryz.underlying64
  have hc := check_rel x es.isEmpty w
  rcases find_rel (w := w) hk x with ⟨h1, h2⟩ | ⟨j, e, h1, h3, h4⟩
  · refine ⟨0, Or.inr ⟨h1, ?_⟩⟩
    simp [Instr.lookup, hu, MapKept.run_getObj_map h0, hc, h2, hz, Result.andThen]
  · obtain ⟨z, hz2⟩ := hv e (by simpa using Array.mem_of_getElem? h1)
    refine ⟨z, Or.inl ⟨h3, ?_⟩⟩
    rw [hz2] at h4
    simp [Instr.lookup, hu, MapKept.run_getObj_map h0, hc, h4, Result.andThen]
/-- A release that isn't there is put. -/
theorem put_rel {w : World} {m : Nat} {E : List Rl} (h : RelAt w m E) {x : Rl} (hx : x ∉ E) (z : Int) : ∃ o, (Instr.mapUpdate 64 (.map (some m)) (rkey x) (.int .i64 z)).run Tryz.prog w = .ok () (setBlock w m o) ∧ RelAt (setBlock w m o) m (E ++ [x]) := by
  obtain ⟨es, clk, h0, hk, hv⟩ := h.ex
  have hu := run_underlying (P := Tryz.prog) Tryz.underlying64
  have hc := check_rel x false w
  have hlt : m < w.heap.size := (Array.getElem?_eq_some_iff.1 h0).1
  have hset : ∀ o, (setObj m o).run Tryz.prog w = .ok () (setBlock w m o) := fun o => by simp [setObj, Sem.run, h0, setBlock]
  rcases find_rel (w := w) hk x with ⟨h1, h2⟩ | ⟨j, e, h1, h3, h4⟩
  · refine ⟨.map (es.push { key := rkey x, val := .int .i64 z, born := clk }) (clk + 1), ?_, ⟨es.push { key := rkey x, val := .int .i64 z, born := clk }, clk + 1, setBlock_same hlt, ?_, fun e he => ?_⟩⟩
    · simp [Instr.mapUpdate, hu, MapKept.run_getObj_map h0, hc, h2, hset, Result.andThen]
    · simp [hk]
    · rw [Array.toList_push] at he
      rcases List.mem_append.1 he with he | he
      · exact hv e he
      · rw [List.mem_singleton] at he
        exact ⟨z, by rw [he]⟩
  · exact absurd h3 hx
theorem rel_new (w : World) : RelAt (w.alloc (.map #[] 0)) w.heap.size [] := ⟨#[], 0, heap_alloc_new w _, rfl, fun e he => by cases he⟩
theorem RelAt.lt {w : World} {m : Nat} {E : List Rl} (h : RelAt w m E) : m < w.heap.size := by
  obtain ⟨es, clk, h0, _⟩ := h.ex
  exact (Array.getElem?_eq_some_iff.1 h0).1
theorem RelAt.keep {w w' : World} {m : Nat} {E : List Rl} (h : RelAt w m E) (hb : w'.heap[m]? = w.heap[m]?) : RelAt w' m E := by
  obtain ⟨es, clk, h0, h1⟩ := h.ex
  exact ⟨es, clk, hb.trans h0, h1⟩
theorem RelAt.next {w w' : World} {m : Nat} {E : List Rl} (h : RelAt w m E) (hb : Below w.heap.size w w') : RelAt w' m E := h.keep (hb.block m h.lt)
/-- Needs in memory. -/
abbrev encN (n : Ned) : List Value := [.string n.nm, .string n.rg]
structure NeedsIn (W : World) (v : Value) (L : List Ned) : Prop where
  ex : ∃ a g off c, v = .slice a L.length c ∧ L.length ≤ c ∧ (0 < L.length → a = some ⟨g, off, none⟩ ∧ g < W.heap.size) ∧ (a = none → c = 0) ∧ ∀ i (h : i < L.length), W.rangeAt g (off + i * 2) (encN L[i])
theorem NeedsIn.keep {W W' : World} {v : Value} {L : List Ned} {B : Nat} (h : NeedsIn W v L) (hB : W.heap.size ≤ B) (hb : Below B W W') : NeedsIn W' v L := by
  obtain ⟨a, g, off, c, h1, h2, h3, h4, h5⟩ := h.ex
  exact ⟨a, g, off, c, h1, h2, fun h => ⟨(h3 h).1, Nat.lt_of_lt_of_le (h3 h).2 hb.size⟩, h4, fun i hi j u hj => (hb.cell (p := ⟨g, off + i * 2 + j, none⟩) (by have := (h3 (by omega)).2; show g < B; omega)).trans (h5 i hi j u hj)⟩
/-- Packages in memory. -/
abbrev encP (p : Pak) (nv : Value) : List Value := [.string p.nm, .string p.vr, nv]
structure PacksIn (W : World) (v : Value) (L : List Pak) : Prop where
  ex : ∃ a g off c, v = .slice a L.length c ∧ L.length ≤ c ∧ (0 < L.length → a = some ⟨g, off, none⟩ ∧ g < W.heap.size) ∧ (a = none → c = 0) ∧ ∀ i (h : i < L.length), ∃ nv, W.rangeAt g (off + i * 3) (encP L[i] nv) ∧ NeedsIn W nv L[i].nd
theorem PacksIn.keep {W W' : World} {v : Value} {L : List Pak} {B : Nat} (h : PacksIn W v L) (hB : W.heap.size ≤ B) (hb : Below B W W') : PacksIn W' v L := by
  obtain ⟨a, g, off, c, h1, h2, h3, h4, h5⟩ := h.ex
  refine ⟨a, g, off, c, h1, h2, fun h => ⟨(h3 h).1, Nat.lt_of_lt_of_le (h3 h).2 hb.size⟩, h4, fun i hi => ?_⟩
  obtain ⟨nv, k1, k2⟩ := h5 i hi
  exact ⟨nv, fun j u hj => (hb.cell (p := ⟨g, off + i * 3 + j, none⟩) (by have := (h3 (by omega)).2; show g < B; omega)).trans (k1 j u hj), k2.keep hB hb⟩
/-- A small letter; a digit. -/
theorem letter_ok (b : UInt8) (w : World) : Calls Tryz.prog 35 #[.int .u8 (b.toNat : Int)] w fun e w' => e = .returned (.bool (lowB b)) ∧ w' = w := by
  by_cases h1 : 97 ≤ b.toNat
  · have h1' : (97 : Int) ≤ (b.toNat : Int) := by omega
    by_cases h2 : b.toNat ≤ 122
    · have h2' : (b.toNat : Int) ≤ 122 := by omega
      have HL : Hid (lowB b = true) := by show _ = _; unfold lowB; exact decide_eq_true ⟨h1, h2⟩
      go_enter Tryz.func35, Tryz.ntmps35
      go_wp2
      go_ret
      exact ⟨by rw [HL.out]; rfl, rfl⟩
    · have h2' : ¬ (b.toNat : Int) ≤ 122 := by omega
      have HL : Hid (lowB b = false) := by show _ = _; unfold lowB; exact decide_eq_false fun h => h2 h.2
      go_enter Tryz.func35, Tryz.ntmps35
      go_wp2
      go_ret
      exact ⟨by rw [HL.out]; rfl, rfl⟩
  · have h1' : ¬ (97 : Int) ≤ (b.toNat : Int) := by omega
    have HL : Hid (lowB b = false) := by show _ = _; unfold lowB; exact decide_eq_false fun h => h1 h.1
    go_enter Tryz.func35, Tryz.ntmps35
    go_wp2
    go_ret
    exact ⟨by rw [HL.out]; rfl, rfl⟩
theorem digit_ok (b : UInt8) (w : World) : Calls Tryz.prog 36 #[.int .u8 (b.toNat : Int)] w fun e w' => e = .returned (.bool (digB b)) ∧ w' = w := by
  by_cases h1 : 48 ≤ b.toNat
  · have h1' : (48 : Int) ≤ (b.toNat : Int) := by omega
    by_cases h2 : b.toNat ≤ 57
    · have h2' : (b.toNat : Int) ≤ 57 := by omega
      have HL : Hid (digB b = true) := (digB_iff b).2 ⟨h1, h2⟩
      go_enter Tryz.func36, Tryz.ntmps36
      go_wp2
      go_ret
      exact ⟨by rw [HL.out]; rfl, rfl⟩
    · have h2' : ¬ (b.toNat : Int) ≤ 57 := by omega
      have HL : Hid (digB b = false) := by
        show _ = _
        cases e : digB b with
        | false => rfl
        | true => exact absurd ((digB_iff b).1 e).2 h2
      go_enter Tryz.func36, Tryz.ntmps36
      go_wp2
      go_ret
      exact ⟨by rw [HL.out]; rfl, rfl⟩
  · have h1' : ¬ (48 : Int) ≤ (b.toNat : Int) := by omega
    have HL : Hid (digB b = false) := by
      show _ = _
      cases e : digB b with
      | false => rfl
      | true => exact absurd ((digB_iff b).1 e).1 h1
    go_enter Tryz.func36, Tryz.ntmps36
    go_wp2
    go_ret
    exact ⟨by rw [HL.out]; rfl, rfl⟩
theorem drop_atI {s : ByteArray} {k : Nat} (h : k < s.size) : (vb s).drop k = s[k] :: (vb s).drop (k + 1) := by
  rw [List.drop_eq_getElem_cons (by rw [vb_len]; exact h)]
  rfl
theorem nm_step {l : By} {i : Nat} (h : i < l.length) : (l.drop i).all nmB = (nmB l[i] && (l.drop (i + 1)).all nmB) := by
  rw [List.drop_eq_getElem_cons h, List.all_cons]
set_option maxRecDepth 20000 in
set_option maxHeartbeats 4000000 in
/-- May a package have a name? -/
theorem name_call (s : ByteArray) (hs : s.size ≤ 140737488355328) (w : World) : Calls Tryz.prog 19 #[.string s] w fun e w' => e = .returned (.bool (nameI (vb s))) ∧ w' = w := by
  have hlv := vb_len s
  have HD : Hid (nameI (vb s) = (decide (1 ≤ s.size ∧ s.size ≤ 20) && ((vb s).take 1).all lowB && (vb s).all nmB)) := by show _ = _; unfold nameI; rw [hlv]
  by_cases h1 : 1 ≤ s.size
  · have h1' : ¬ (s.size : Int) < 1 := by omega
    by_cases h20 : s.size ≤ 20
    · have h20' : ¬ (20 : Int) < (s.size : Int) := by omega
      obtain ⟨b0, hb0⟩ : ∃ b, b = s[0] := ⟨_, rfl⟩
      have hb0' : s[0].toNat = b0.toNat := by rw [hb0]
      have hl0 := letter_ok b0 w
      have HT : Hid (((vb s).take 1).all lowB = lowB b0) := by
        show _ = _
        have e : (vb s).take 1 = [b0] := by
          have h2 : (vb s).drop 0 = s[0] :: (vb s).drop 1 := drop_atI h1
          rw [List.drop_zero] at h2
          rw [h2, hb0]
          rfl
        rw [e]
        simp
      have h0i : (0 : Int) < (s.size : Int) := by omega
      clear hb0
      cases hlo : lowB b0 with
      | false =>
        rw [hlo] at hl0
        have HF : Hid (nameI (vb s) = false) := by show _ = _; rw [HD.out, HT.out, hlo, Bool.and_false, Bool.false_and]
        clear hlo hlv
        go_enter Tryz.func19, Tryz.ntmps19
        go_wp2_with fail
        refine hl0.mono ?_
        rintro e w1 ⟨rfl, hw1⟩
        rw [hw1]
        clear hw1 hl0
        go_wp2
        go_ret
        exact ⟨by rw [HF.out]; rfl, rfl⟩
      | true =>
        rw [hlo] at hl0
        have HA : Hid (nameI (vb s) = (vb s).all nmB) := by show _ = _; rw [HD.out, HT.out, hlo, decide_eq_true ⟨h1, h20⟩]; rfl
        obtain ⟨R, hR⟩ : ∃ R, R = nameI (vb s) := ⟨_, rfl⟩
        rw [← hR]
        rw [← hR] at HA
        clear hlo hlv hR
        go_enter Tryz.func19, Tryz.ntmps19
        go_wp2_with fail
        refine hl0.mono ?_
        rintro e w1 ⟨rfl, hw1⟩
        rw [hw1]
        clear hw1 hl0
        go_wp2
        go_loop [20] (fun iv => ∃ i : Nat, i ≤ s.size ∧ iv = .int .i64 i ∧ Hid (((vb s).drop i).all nmB = R)) (fun iv => s.size - (intOf iv).toNat)
        case atStart => exact ⟨0, Nat.zero_le _, rfl, by rw [List.drop_zero]; exact HA.out.symm⟩
        case round =>
          obtain ⟨i, hi, rfl, HI⟩ := hrel
          by_cases hlt : i < s.size
          · have hlt' : (i : Int) < (s.size : Int) := by omega
            obtain ⟨b, hb⟩ : ∃ b, b = s[i] := ⟨_, rfl⟩
            have hb' : s[i].toNat = b.toNat := by rw [hb]
            have HS : Hid (((vb s).drop i).all nmB = (nmB b && ((vb s).drop (i + 1)).all nmB)) := by
              show _ = _
              rw [drop_atI hlt, List.all_cons, hb]
            have hlc := letter_ok b w
            have hdc := digit_ok b w
            clear hb
            cases hl : lowB b with
            | true =>
              rw [hl] at hlc
              have HN : Hid (((vb s).drop (i + 1)).all nmB = R) := by
                have h := HI.out
                rw [HS.out] at h
                unfold nmB at h
                rw [hl] at h
                exact h
              clear hl hdc
              go_wp2_with fail
              refine hlc.mono ?_
              rintro e w1 ⟨rfl, hw1⟩
              rw [hw1]
              clear hw1 hlc
              go_wp2
              go_round
              case rel => exact ⟨i + 1, by omega, by go_num, HN.out⟩
              case measure => simp [intOf]; omega
            | false =>
              rw [hl] at hlc
              cases hd : digB b with
              | true =>
                rw [hd] at hdc
                have HN : Hid (((vb s).drop (i + 1)).all nmB = R) := by
                  have h := HI.out
                  rw [HS.out] at h
                  unfold nmB at h
                  rw [hl, hd] at h
                  exact h
                clear hl hd
                go_wp2_with fail
                refine hlc.mono ?_
                rintro e w1 ⟨rfl, hw1⟩
                rw [hw1]
                clear hw1 hlc
                go_wp2_with fail
                refine hdc.mono ?_
                rintro e w1 ⟨rfl, hw1⟩
                rw [hw1]
                clear hw1 hdc
                go_wp2
                go_round
                case rel => exact ⟨i + 1, by omega, by go_num, HN.out⟩
                case measure => simp [intOf]; omega
              | false =>
                rw [hd] at hdc
                by_cases h45 : b = 45
                · have HN : Hid (((vb s).drop (i + 1)).all nmB = R) := by
                    have h := HI.out
                    rw [HS.out] at h
                    unfold nmB at h
                    rw [hl, hd, h45] at h
                    exact h
                  have HV45 : Hid (b.toNat = 45) := by show _ = _; rw [h45]; rfl
                  clear hl hd h45
                  go_wp2_with fail
                  refine hlc.mono ?_
                  rintro e w1 ⟨rfl, hw1⟩
                  rw [hw1]
                  clear hw1 hlc
                  go_wp2_with fail
                  refine hdc.mono ?_
                  rintro e w1 ⟨rfl, hw1⟩
                  rw [hw1]
                  clear hw1 hdc
                  have hv45 := HV45.out
                  go_wp2
                  go_round
                  case rel => exact ⟨i + 1, by omega, by go_num, HN.out⟩
                  case measure => simp [intOf]; omega
                · have hv45 : ¬ (b.toNat : Int) = 45 := fun e => h45 (UInt8.toNat_inj.1 (by simpa using (by omega : b.toNat = 45)))
                  have hvb := beqI hv45
                  have HF : Hid (R = false) := by
                    show _ = _
                    rw [← HI.out, HS.out]
                    unfold nmB
                    rw [hl, hd]
                    have : (b == 45) = false := by simpa using h45
                    rw [this]
                    rfl
                  clear hl hd h45
                  go_wp2_with fail
                  refine hlc.mono ?_
                  rintro e w1 ⟨rfl, hw1⟩
                  rw [hw1]
                  clear hw1 hlc
                  go_wp2_with fail
                  refine hdc.mono ?_
                  rintro e w1 ⟨rfl, hw1⟩
                  rw [hw1]
                  clear hw1 hdc
                  go_wp2
                  go_ret
                  exact ⟨by rw [HF.out]; rfl, rfl⟩
          · have hlt' : ¬ (i : Int) < (s.size : Int) := by omega
            have HT2 : Hid (R = true) := by
              have h := HI.out
              rw [List.drop_of_length_le (by rw [vb_len]; omega)] at h
              exact h.symm
            go_wp2
            go_ret
            exact ⟨by rw [HT2.out]; rfl, rfl⟩
    · have h20' : (20 : Int) < (s.size : Int) := by omega
      have HF : Hid (nameI (vb s) = false) := by show _ = _; rw [HD.out, decide_eq_false (fun h => h20 h.2)]; rfl
      clear hlv
      go_enter Tryz.func19, Tryz.ntmps19
      go_wp2
      go_ret
      exact ⟨by rw [HF.out]; rfl, rfl⟩
  · have h1' : (s.size : Int) < 1 := by omega
    have HF : Hid (nameI (vb s) = false) := by show _ = _; rw [HD.out, decide_eq_false (fun h => h1 h.1)]; rfl
    clear hlv
    go_enter Tryz.func19, Tryz.ntmps19
    go_wp2
    go_ret
    exact ⟨by rw [HF.out]; rfl, rfl⟩
end Go.Proofs.YtkbhckjpmgkgjaaGreatDoor
namespace Go.Proofs.YtkbhckjpmgkgjaaGreatDoor
open Go.RowKit

theorem infoPk : (Tryz.prog.info? 44).map (·.size) = some 3 := by kernel_rfl
theorem infoNd : (Tryz.prog.info? 61).map (·.size) = some 2 := by kernel_rfl
set_option maxRecDepth 20000 in
set_option maxHeartbeats 4000000 in
theorem rightPack_ok (nm vr : ByteArray) (na : Option Addr) (nl nc : Nat) (hn : nm.size ≤ 140737488355328) (hv : vr.size ≤ 140737488355328) {m : Nat} {E : List Rl} (w : World) (h : RelAt w m E) : Calls Tryz.prog 30 #[.agg #[.string nm, .string vr, .slice na nl nc], .map (some m)] w fun e w' => e = .returned (.int .i64 (rightP nm vr E)) ∧ Below w.heap.size w w' := by
  have hr1 : Row (w.alloc (.cells #[.string nm, .string vr, .slice na nl nc] 44)) w.heap.size #[.string nm, .string vr, .slice na nl nc] 44 := Row.new _ _ _
  have hb1 : Below w.heap.size w (w.alloc (.cells #[.string nm, .string vr, .slice na nl nc] 44)) := (Below.refl _ _).alloc (Nat.le_refl _) _
  obtain ⟨w1, hw1⟩ : ∃ x, x = w.alloc (.cells #[.string nm, .string vr, .slice na nl nc] 44) := ⟨_, rfl⟩
  have hw1' := hw1.symm
  rw [← hw1] at hr1 hb1
  have c0 : w1.cell? ⟨w.heap.size, 0, none⟩ = some (.string nm) := (hr1.cell 0).trans rfl
  have c1 : w1.cell? ⟨w.heap.size, 1, none⟩ = some (.string vr) := (hr1.cell 1).trans rfl
  have hnc := name_call nm hn w1
  have hpa := parse_ok vr w1 hv
  have HR1 : Hid (Row w1 w.heap.size #[.string nm, .string vr, .slice na nl nc] 44) := hr1
  have HB1 : Hid (Below w.heap.size w w1) := hb1
  have HRel : Hid (RelAt w m E) := h
  have HD : Hid (rightP nm vr E = if nameI (vb nm) = false then 17 else if (parseV (vb vr)).isNone = true then 20 else if (nm, vr) ∈ E then 13 else 0) := rfl
  obtain ⟨R, hR⟩ : ∃ R, R = rightP nm vr E := ⟨_, rfl⟩
  rw [← hR] at HD ⊢
  clear hw1 hr1 hb1 hn hv h hR
  cases hni : nameI (vb nm) with
  | false =>
    have HF : Hid (R = 17) := by show _ = _; rw [HD.out, if_pos hni]
    rw [hni] at hnc
    clear hni hpa
    go_enter Tryz.func30, Tryz.ntmps30
    go_wp2_with fail
    refine hnc.mono ?_
    rintro e w2 ⟨rfl, hw2⟩
    rw [hw2]
    clear hw2 hnc
    go_wp2
    go_ret
    exact ⟨by rw [HF.out]; rfl, HB1.out⟩
  | true =>
    rw [hni] at hnc
    cases hp : parseV (vb vr) with
    | none =>
      have HF : Hid (R = 20) := by show _ = _; rw [HD.out, if_neg (by rw [hni]; decide), hp]; rfl
      rw [parseE_no hp] at hpa
      clear hni hp
      go_enter Tryz.func30, Tryz.ntmps30
      go_wp2_with fail
      refine hnc.mono ?_
      rintro e w2 ⟨rfl, hw2⟩
      rw [hw2]
      clear hw2 hnc
      go_wp2_with fail
      refine hpa.mono ?_
      rintro e w3 ⟨rfl, hb3⟩
      have HB3 : Hid (Below w.heap.size w (w3.alloc (.cells (verC zeroV) 112))) := (HB1.out.trans (hb3.mono HB1.out.size)).alloc (Nat.le_trans HB1.out.size hb3.size) _
      clear hpa hb3
      go_wp2_with (refine wpList_store_new rfl 112 _ _ rfl w3 zeroC (verC zeroV) 112 rfl w3.heap.size rfl rfl rfl infoVs rfl (verC_one _) ?_)
      go_ret
      exact ⟨by rw [HF.out]; rfl, HB3.out⟩
    | some v =>
      have HF0 : Hid (R = if (nm, vr) ∈ E then 13 else 0) := by show _ = _; rw [HD.out, if_neg (by rw [hni]; decide), hp, if_neg (by simp)]
      rw [parseE_yes hp] at hpa
      clear hni hp HD
      go_enter Tryz.func30, Tryz.ntmps30
      go_wp2_with fail
      refine hnc.mono ?_
      rintro e w2 ⟨rfl, hw2⟩
      rw [hw2]
      clear hw2 hnc
      go_wp2_with fail
      refine hpa.mono ?_
      rintro e w3 ⟨rfl, hb3⟩
      have hb4 : Below w1.heap.size w1 (w3.alloc (.cells (verC v) 112)) := hb3.alloc hb3.size _
      obtain ⟨w4, hw4⟩ : ∃ x, x = w3.alloc (.cells (verC v) 112) := ⟨_, rfl⟩
      rw [← hw4] at hb4
      have hw4' := hw4.symm
      have HB4 : Hid (Below w.heap.size w w4) := HB1.out.trans (hb4.mono HB1.out.size)
      have hr4 : Row w4 w.heap.size #[.string nm, .string vr, .slice na nl nc] 44 := HR1.out.below hb4 HR1.out.lt
      have d0 : w4.cell? ⟨w.heap.size, 0, none⟩ = some (.string nm) := (hr4.cell 0).trans rfl
      have d1 : w4.cell? ⟨w.heap.size, 1, none⟩ = some (.string vr) := (hr4.cell 1).trans rfl
      obtain ⟨z, hlk⟩ := lookup_rel (HRel.out.next HB4.out) (nm, vr)
      clear hpa hb3 hb4 hw4 hr4 c0 c1 hw1'
      rcases hlk with ⟨hin, hlk⟩ | ⟨hin, hlk⟩
      · have HF : Hid (R = 13) := by show _ = _; rw [HF0.out, if_pos hin]
        clear hin
        go_wp2_with (refine wpList_store_new rfl 112 _ _ rfl w3 zeroC (verC v) 112 rfl w3.heap.size rfl rfl rfl infoVs rfl (verC_one _) ?_; rw [hw4'])
        go_ret
        exact ⟨by rw [HF.out]; rfl, HB4.out⟩
      · have HF : Hid (R = 0) := by show _ = _; rw [HF0.out, if_neg hin]
        clear hin
        go_wp2_with (refine wpList_store_new rfl 112 _ _ rfl w3 zeroC (verC v) 112 rfl w3.heap.size rfl rfl rfl infoVs rfl (verC_one _) ?_; rw [hw4'])
        go_ret
        exact ⟨by rw [HF.out]; rfl, HB4.out⟩
/-- One name held against another. -/
theorem sameName_ok (o : Ned) (nm rg : ByteArray) (k : Nat) (w : World) (h : Row w k #[.string nm, .string rg] 61) : Calls Tryz.prog 57 #[.agg (encN o).toArray, .pointer (some ⟨k, 0, none⟩)] w fun e w' => e = .returned (.bool (decide (o.nm = nm))) ∧ Below w.heap.size w w' := by
  have hr1 : Row (w.alloc (.cells #[.string o.nm, .string o.rg] 61)) w.heap.size #[.string o.nm, .string o.rg] 61 := Row.new _ _ _
  have hb1 : Below w.heap.size w (w.alloc (.cells #[.string o.nm, .string o.rg] 61)) := (Below.refl _ _).alloc (Nat.le_refl _) _
  have hk := h.below hb1 h.lt
  obtain ⟨w1, hw1⟩ : ∃ x, x = w.alloc (.cells #[.string o.nm, .string o.rg] 61) := ⟨_, rfl⟩
  have hw1' := hw1.symm
  rw [← hw1] at hr1 hb1 hk
  have c0 : w1.cell? ⟨w.heap.size, 0, none⟩ = some (.string o.nm) := (hr1.cell 0).trans rfl
  have c1 : w1.cell? ⟨k, 0, none⟩ = some (.string nm) := (hk.cell 0).trans rfl
  have HB1 : Hid (Below w.heap.size w w1) := hb1
  clear hw1 hr1 hb1 hk h
  by_cases he : o.nm = nm
  · have HD : Hid (decide (o.nm = nm) = true) := decide_eq_true he
    rw [HD.out]
    rw [he] at c0
    clear he HD
    go_enter Tryz.func57, Tryz.ntmps57
    go_wp2
    go_ret
    exact ⟨rfl, HB1.out⟩
  · have HD : Hid (decide (o.nm = nm) = false) := decide_eq_false he
    rw [HD.out]
    have h1 : ¬ o.nm.toList = nm.toList := fun e => he (list_eq.1 e)
    have h2 : (o.nm.toList == nm.toList) = false := by simpa using h1
    clear he HD
    go_enter Tryz.func57, Tryz.ntmps57
    go_wp2
    go_ret
    exact ⟨rfl, HB1.out⟩
set_option maxRecDepth 20000 in
set_option maxHeartbeats 4000000 in
/-- The first need of a name, or none. -/
theorem indexNeed_ok {A : List Ned} {pv : Value} {nm rg : ByteArray} {k : Nat} (w : World) (hA : NeedsIn w pv A) (hk : Row w k #[.string nm, .string rg] 61) (hl : A.length ≤ 1000000000) : Calls Tryz.prog 89 #[pv, .func (.func 57) #[] #[.pointer (some ⟨k, 0, none⟩)]] w fun e w' => ∃ z : Int, e = .returned (.int .i64 z) ∧ (0 ≤ z ↔ nm ∈ A.map Ned.nm) ∧ Below w.heap.size w w' := by
  obtain ⟨a, g, off, c, rfl, h2, h3, h4, h5⟩ := hA.ex
  have HA1 : Hid (0 < A.length → a = some ⟨g, off, none⟩) := fun h => (h3 h).1
  have HAg : Hid (0 < A.length → g < w.heap.size) := fun h => (h3 h).2
  have HA5 : Hid (∀ wx, Below w.heap.size w wx → ∀ i (h : i < A.length), wx.rangeAt g (off + i * 2) (encN A[i])) := fun wx hx i hi j u hj => (hx.cell (p := ⟨g, off + i * 2 + j, none⟩) (h3 (by omega)).2).trans (h5 i hi j u hj)
  have HK : Hid (Row w k #[.string nm, .string rg] 61) := hk
  obtain ⟨n, hn⟩ : ∃ n, n = A.length := ⟨_, rfl⟩
  have HN : Hid (n = A.length) := hn
  have hnn : A.length = n := hn.symm
  rw [hnn]
  rw [hnn] at h2 hl
  clear hA h3 h4 h5 hk hn hnn
  go_enter Tryz.func89, Tryz.ntmps89
  go_wp2
  go_loopw [8] (fun iv wr => ∃ i : Nat, i ≤ n ∧ iv = .int .i64 i ∧ Below w.heap.size w wr ∧ Hid (∀ j (h : j < A.length), j < i → A[j].nm ≠ nm)) (fun iv _ => n - (intOf iv).toNat)
  case atStart => exact ⟨0, Nat.zero_le _, rfl, Below.refl _ _, fun j _ h => absurd h (by omega)⟩
  case round =>
    obtain ⟨i, hi, rfl, hb, HI⟩ := hrel
    have HB : Hid (Below w.heap.size w wr) := hb
    clear hb
    by_cases hlt : i < n
    · have hlt' : (i : Int) < (n : Int) := by omega
      have hiA : i < A.length := by have := HN.out; omega
      obtain rfl := HA1.out (by omega)
      have hrg := HA5.out wr HB.out i hiA
      obtain ⟨o, ho⟩ : ∃ o, o = A[i] := ⟨_, rfl⟩
      rw [← ho] at hrg
      have HO : Hid (o = A[i]) := ho
      have hcl := sameName_ok o nm rg k wr (HK.out.below HB.out HK.out.lt)
      clear ho
      by_cases he : o.nm = nm
      · rw [decide_eq_true he] at hcl
        have HMem : Hid (nm ∈ A.map Ned.nm) := List.mem_map.2 ⟨o, by rw [HO.out]; exact List.getElem_mem _, he⟩
        clear he
        go_wp2_with (first | refine wpList_load_mid rfl 61 _ rfl g (off + i * 2) rfl _ _ hrg Tryz.underlying61 rfl infoNd ?_ | (go_at_call 57; refine hcl.mono ?_; rintro e w9 ⟨rfl, hb9⟩))
        go_ret
        exact ⟨i, rfl, ⟨fun _ => HMem.out, fun _ => by omega⟩, HB.out.trans (hb9.mono HB.out.size)⟩
      · rw [decide_eq_false he] at hcl
        have HN2 : Hid (∀ j (h : j < A.length), j < i + 1 → A[j].nm ≠ nm) := fun j hj h => by
          by_cases e : j = i
          · subst e; rw [← HO.out]; exact he
          · exact HI.out j hj (by omega)
        clear he
        go_wp2_with (first | refine wpList_load_mid rfl 61 _ rfl g (off + i * 2) rfl _ _ hrg Tryz.underlying61 rfl infoNd ?_ | (go_at_call 57; refine hcl.mono ?_; rintro e w9 ⟨rfl, hb9⟩))
        go_roundw
        case rel => exact ⟨i + 1, by omega, by go_num, HB.out.trans (hb9.mono HB.out.size), HN2.out⟩
        case measure => simp [intOf]; omega
    · have hlt' : ¬ (i : Int) < (n : Int) := by omega
      have HNot : Hid (nm ∉ A.map Ned.nm) := fun h => by
        obtain ⟨o, h1, h2⟩ := List.mem_map.1 h
        obtain ⟨j, hj, he⟩ := List.getElem_of_mem h1
        exact HI.out j hj (by have := HN.out; omega) (by rw [he]; exact h2)
      go_wp2
      go_ret
      exact ⟨-1, rfl, ⟨fun h => absurd h (by decide), fun h => absurd (by first | exact h | exact List.mem_map.2 h) HNot.out⟩, HB.out⟩
theorem containsNeed_ok {A : List Ned} {pv : Value} {nm rg : ByteArray} {k : Nat} (w : World) (hA : NeedsIn w pv A) (hk : Row w k #[.string nm, .string rg] 61) (hl : A.length ≤ 1000000000) : Calls Tryz.prog 56 #[pv, .func (.func 57) #[] #[.pointer (some ⟨k, 0, none⟩)]] w fun e w' => ∃ b : Bool, e = .returned (.bool b) ∧ (b = true ↔ nm ∈ A.map Ned.nm) ∧ Below w.heap.size w w' := by
  have h := indexNeed_ok w hA hk hl
  go_enter Tryz.func56, Tryz.ntmps56
  go_wp2_with fail
  refine h.mono ?_
  rintro e w1 ⟨z, rfl, hz, hb⟩
  have HZ : Hid (0 ≤ z ↔ nm ∈ A.map Ned.nm) := hz
  clear h hz
  go_wp2
  go_ret
  exact ⟨decide (0 ≤ z), (by first | rfl | (congr 2)), by rw [decide_eq_true_eq]; exact HZ.out, hb⟩
set_option maxRecDepth 20000 in
set_option maxHeartbeats 4000000 in
theorem rightNeed_ok (nm rg : ByteArray) (hn : nm.size ≤ 140737488355328) (hv : rg.size ≤ 140737488355328) {A : List Ned} {pv : Value} (w : World) (hA : NeedsIn w pv A) (hl : A.length ≤ 1000000000) : Calls Tryz.prog 31 #[.agg #[.string nm, .string rg], pv] w fun e w' => e = .returned (.int .i64 (rightN ⟨nm, rg⟩ A)) ∧ Below w.heap.size w w' := by
  have hr1 : Row (w.alloc (.cells #[.string nm, .string rg] 61)) w.heap.size #[.string nm, .string rg] 61 := Row.new _ _ _
  have hb1 : Below w.heap.size w (w.alloc (.cells #[.string nm, .string rg] 61)) := (Below.refl _ _).alloc (Nat.le_refl _) _
  obtain ⟨w1, hw1⟩ : ∃ x, x = w.alloc (.cells #[.string nm, .string rg] 61) := ⟨_, rfl⟩
  have hw1' := hw1.symm
  rw [← hw1] at hr1 hb1
  have c0 : w1.cell? ⟨w.heap.size, 0, none⟩ = some (.string nm) := (hr1.cell 0).trans rfl
  have c1 : w1.cell? ⟨w.heap.size, 1, none⟩ = some (.string rg) := (hr1.cell 1).trans rfl
  have hnc := name_call nm hn w1
  have hpa := rangeParse_ok rg w1 hv
  have HR1 : Hid (Row w1 w.heap.size #[.string nm, .string rg] 61) := hr1
  have HB1 : Hid (Below w.heap.size w w1) := hb1
  have HA1 : Hid (NeedsIn w1 pv A) := hA.keep (Nat.le_refl _) hb1
  have HLn : Hid (A.length ≤ 1000000000) := hl
  have HD : Hid (rightN ⟨nm, rg⟩ A = if nameI (vb nm) = false then 17 else if (rangeS (vb rg)).isNone = true then 21 else if nm ∈ A.map Ned.nm then 13 else 0) := rfl
  obtain ⟨R, hR⟩ : ∃ R, R = rightN ⟨nm, rg⟩ A := ⟨_, rfl⟩
  rw [← hR] at HD ⊢
  clear hw1 hr1 hb1 hn hv hA hR hl
  cases hni : nameI (vb nm) with
  | false =>
    have HF : Hid (R = 17) := by show _ = _; rw [HD.out, if_pos hni]
    rw [hni] at hnc
    clear hni hpa
    go_enter Tryz.func31, Tryz.ntmps31
    go_wp2_with fail
    refine hnc.mono ?_
    rintro e w2 ⟨rfl, hw2⟩
    rw [hw2]
    clear hw2 hnc
    go_wp2
    go_ret
    exact ⟨by rw [HF.out]; rfl, HB1.out⟩
  | true =>
    rw [hni] at hnc
    unfold PaPost at hpa
    cases hp : rangeS (vb rg) with
    | none =>
      have HF : Hid (R = 21) := by show _ = _; rw [HD.out, if_neg (by rw [hni]; decide), hp]; rfl
      rw [hp] at hpa
      clear hni hp
      go_enter Tryz.func31, Tryz.ntmps31
      go_wp2_with fail
      refine hnc.mono ?_
      rintro e w2 ⟨rfl, hw2⟩
      rw [hw2]
      clear hw2 hnc
      go_wp2_with fail
      refine hpa.mono ?_
      rintro e w3 (⟨_, rfl, hb3⟩ | ⟨_, _, h, _⟩)
      · have HB3 : Hid (Below w.heap.size w w3) := HB1.out.trans (hb3.mono HB1.out.size)
        clear hpa hb3
        go_wp2
        go_ret
        exact ⟨by rw [HF.out]; rfl, HB3.out⟩
      · cases h
    | some S =>
      have HF0 : Hid (R = if nm ∈ A.map Ned.nm then 13 else 0) := by show _ = _; rw [HD.out, if_neg (by rw [hni]; decide), hp, if_neg (by simp)]
      rw [hp] at hpa
      clear hni hp HD
      go_enter Tryz.func31, Tryz.ntmps31
      go_wp2_with fail
      refine hnc.mono ?_
      rintro e w2 ⟨rfl, hw2⟩
      rw [hw2]
      clear hw2 hnc
      go_wp2_with fail
      refine hpa.mono ?_
      rintro e w3 (⟨h, _⟩ | ⟨_, p, _, rfl, hg, _, hb3⟩)
      · cases h
      · have HB3 : Hid (Below w.heap.size w w3) := HB1.out.trans (hb3.mono HB1.out.size)
        have hcn := containsNeed_ok (nm := nm) (rg := rg) (k := w.heap.size) w3 (HA1.out.keep (Nat.le_refl _) hb3) (HR1.out.below hb3 HR1.out.lt) HLn.out
        obtain ⟨gp, vp, rfl, _⟩ := hg.at'.ex
        clear hpa hb3 hg
        go_wp2_with fail
        refine hcn.mono ?_
        rintro e w4 ⟨b, rfl, hb, hb4⟩
        have HB4 : Hid (Below w.heap.size w w4) := HB3.out.trans (hb4.mono HB3.out.size)
        have HBB : Hid (b = true ↔ nm ∈ A.map Ned.nm) := hb
        clear hcn hb4 hb
        cases b with
        | true =>
          have HF : Hid (R = 13) := by show _ = _; rw [HF0.out, if_pos (HBB.out.1 rfl)]
          go_wp2
          go_ret
          exact ⟨by rw [HF.out]; rfl, HB4.out⟩
        | false =>
          have HF : Hid (R = 0) := by show _ = _; rw [HF0.out, if_neg (fun h => by have := HBB.out.2 h; cases this)]
          go_wp2
          go_ret
          exact ⟨by rw [HF.out]; rfl, HB4.out⟩
/-- More needs than may be? -/
theorem manyNeeds_ok (nm vr : ByteArray) (na : Option Addr) (nl nc : Nat) (w : World) : Calls Tryz.prog 53 #[.agg #[.string nm, .string vr, .slice na nl nc]] w fun e w' => e = .returned (.bool (decide (64 < nl))) ∧ Below w.heap.size w w' := by
  have hr1 : Row (w.alloc (.cells #[.string nm, .string vr, .slice na nl nc] 44)) w.heap.size #[.string nm, .string vr, .slice na nl nc] 44 := Row.new _ _ _
  have hb1 : Below w.heap.size w (w.alloc (.cells #[.string nm, .string vr, .slice na nl nc] 44)) := (Below.refl _ _).alloc (Nat.le_refl _) _
  obtain ⟨w1, hw1⟩ : ∃ x, x = w.alloc (.cells #[.string nm, .string vr, .slice na nl nc] 44) := ⟨_, rfl⟩
  have hw1' := hw1.symm
  rw [← hw1] at hr1 hb1
  have c2 : w1.cell? ⟨w.heap.size, 2, none⟩ = some (.slice na nl nc) := (hr1.cell 2).trans rfl
  have HB1 : Hid (Below w.heap.size w w1) := hb1
  clear hw1 hr1 hb1
  by_cases h : 64 < nl
  · have h' : (64 : Int) < (nl : Int) := by omega
    rw [decide_eq_true h]
    go_enter Tryz.func53, Tryz.ntmps53
    go_wp2
    go_ret
    exact ⟨rfl, HB1.out⟩
  · have h' : ¬ (64 : Int) < (nl : Int) := by omega
    rw [decide_eq_false h]
    go_enter Tryz.func53, Tryz.ntmps53
    go_wp2
    go_ret
    exact ⟨rfl, HB1.out⟩
set_option maxRecDepth 20000 in
set_option maxHeartbeats 4000000 in
theorem indexPack_ok {L : List Pak} {pv : Value} (w : World) (hL : PacksIn w pv L) (hl : L.length ≤ 1000000000) : Calls Tryz.prog 81 #[pv, .func (.func 53) #[] #[]] w fun e w' => ∃ z : Int, e = .returned (.int .i64 z) ∧ (0 ≤ z ↔ ∃ p ∈ L, 64 < p.nd.length) ∧ Below w.heap.size w w' := by
  obtain ⟨a, g, off, c, rfl, h2, h3, h4, h5⟩ := hL.ex
  have HA1 : Hid (0 < L.length → a = some ⟨g, off, none⟩) := fun h => (h3 h).1
  have HL : Hid (PacksIn w (.slice a L.length c) L) := hL
  have HA5 : Hid (∀ wx, Below w.heap.size w wx → ∀ i (h : i < L.length), ∃ na nc, wx.rangeAt g (off + i * 3) (encP L[i] (.slice na L[i].nd.length nc))) := fun wx hx i hi => by
    obtain ⟨nv, k1, k2⟩ := h5 i hi
    obtain ⟨na, _, _, nc, rfl, _⟩ := k2.ex
    exact ⟨na, nc, fun j u hj => (hx.cell (p := ⟨g, off + i * 3 + j, none⟩) (h3 (by omega)).2).trans (k1 j u hj)⟩
  obtain ⟨n, hn⟩ : ∃ n, n = L.length := ⟨_, rfl⟩
  have HN : Hid (n = L.length) := hn
  have hnn : L.length = n := hn.symm
  rw [hnn]
  rw [hnn] at h2 hl
  clear hL h3 h4 h5 hn hnn
  go_enter Tryz.func81, Tryz.ntmps81
  go_wp2
  go_loopw [8] (fun iv wr => ∃ i : Nat, i ≤ n ∧ iv = .int .i64 i ∧ Below w.heap.size w wr ∧ Hid (∀ j (h : j < L.length), j < i → ¬ 64 < L[j].nd.length)) (fun iv _ => n - (intOf iv).toNat)
  case atStart => exact ⟨0, Nat.zero_le _, rfl, Below.refl _ _, fun j _ h => absurd h (by omega)⟩
  case round =>
    obtain ⟨i, hi, rfl, hb, HI⟩ := hrel
    have HB : Hid (Below w.heap.size w wr) := hb
    clear hb
    by_cases hlt : i < n
    · have hlt' : (i : Int) < (n : Int) := by omega
      have hiA : i < L.length := by have := HN.out; omega
      obtain rfl := HA1.out (by omega)
      obtain ⟨na, nc, hrg⟩ := HA5.out wr HB.out i hiA
      obtain ⟨o, ho⟩ : ∃ o, o = L[i] := ⟨_, rfl⟩
      rw [← ho] at hrg
      have HO : Hid (o = L[i]) := ho
      obtain ⟨nl, hnl⟩ : ∃ nl, nl = o.nd.length := ⟨_, rfl⟩
      rw [← hnl] at hrg
      have HNl : Hid (nl = o.nd.length) := hnl
      have hcl := manyNeeds_ok o.nm o.vr na nl nc wr
      clear ho hnl
      by_cases he : 64 < nl
      · rw [decide_eq_true he] at hcl
        have HMem : Hid (∃ p ∈ L, 64 < p.nd.length) := ⟨o, by rw [HO.out]; exact List.getElem_mem _, by rw [← HNl.out]; exact he⟩
        clear he
        go_wp2_with (first | refine wpList_load_mid rfl 44 _ rfl g (off + i * 3) rfl _ _ hrg Tryz.underlying44 rfl infoPk ?_ | (go_at_call 53; refine hcl.mono ?_; rintro e w9 ⟨rfl, hb9⟩))
        go_ret
        exact ⟨i, rfl, ⟨fun _ => HMem.out, fun _ => by omega⟩, HB.out.trans (hb9.mono HB.out.size)⟩
      · rw [decide_eq_false he] at hcl
        have HN2 : Hid (∀ j (h : j < L.length), j < i + 1 → ¬ 64 < L[j].nd.length) := fun j hj h => by
          by_cases e : j = i
          · subst e; rw [← HO.out, ← HNl.out]; exact he
          · exact HI.out j hj (by omega)
        clear he
        go_wp2_with (first | refine wpList_load_mid rfl 44 _ rfl g (off + i * 3) rfl _ _ hrg Tryz.underlying44 rfl infoPk ?_ | (go_at_call 53; refine hcl.mono ?_; rintro e w9 ⟨rfl, hb9⟩))
        go_roundw
        case rel => exact ⟨i + 1, by omega, by go_num, HB.out.trans (hb9.mono HB.out.size), HN2.out⟩
        case measure => simp [intOf]; omega
    · have hlt' : ¬ (i : Int) < (n : Int) := by omega
      have HNot : Hid (¬ ∃ p ∈ L, 64 < p.nd.length) := fun h => by
        obtain ⟨o, h1, h2⟩ := h
        obtain ⟨j, hj, he⟩ := List.getElem_of_mem h1
        exact HI.out j hj (by have := HN.out; omega) (by rw [he]; exact h2)
      go_wp2
      go_ret
      exact ⟨-1, rfl, ⟨fun h => absurd h (by decide), fun h => absurd h HNot.out⟩, HB.out⟩
theorem containsPack_ok {L : List Pak} {pv : Value} (w : World) (hL : PacksIn w pv L) (hl : L.length ≤ 1000000000) : Calls Tryz.prog 52 #[pv, .func (.func 53) #[] #[]] w fun e w' => ∃ b : Bool, e = .returned (.bool b) ∧ (b = true ↔ ∃ p ∈ L, 64 < p.nd.length) ∧ Below w.heap.size w w' := by
  have h := indexPack_ok w hL hl
  go_enter Tryz.func52, Tryz.ntmps52
  go_wp2_with fail
  refine h.mono ?_
  rintro e w1 ⟨z, rfl, hz, hb⟩
  have HZ : Hid (0 ≤ z ↔ ∃ p ∈ L, 64 < p.nd.length) := hz
  clear h hz
  go_wp2
  go_ret
  exact ⟨decide (0 ≤ z), (by first | rfl | (congr 2)), by rw [decide_eq_true_eq]; exact HZ.out, hb⟩
/-- Too many packages, or needs. -/
theorem tooMany_ok {L : List Pak} {pv : Value} (w : World) (hL : PacksIn w pv L) (hl : L.length < 9223372036854775807) : Calls Tryz.prog 29 #[pv] w fun e w' => e = .returned (.bool (bigL L)) ∧ Below w.heap.size w w' := by
  obtain ⟨a, g, off, c, rfl, h2, _⟩ := hL.ex
  by_cases hb : 1024 < L.length
  · have hb' : (1024 : Int) < (L.length : Int) := by omega
    have HB : Hid (bigL L = true) := by show _ = _; unfold bigL; rw [decide_eq_true hb]; rfl
    rw [HB.out]
    clear hL h2
    go_enter Tryz.func29, Tryz.ntmps29
    go_wp2
    go_ret
    exact ⟨rfl, Below.refl _ _⟩
  · have hb' : ¬ (1024 : Int) < (L.length : Int) := by omega
    have hc := containsPack_ok w hL (by omega)
    have HD : Hid (bigL L = L.any fun p => decide (64 < p.nd.length)) := by show _ = _; unfold bigL; rw [decide_eq_false hb]; rfl
    clear hL h2
    go_enter Tryz.func29, Tryz.ntmps29
    go_wp2_with fail
    refine hc.mono ?_
    rintro e w1 ⟨b, rfl, hbb, hb1⟩
    have HE : Hid (bigL L = b) := by
      show _ = _
      rw [HD.out, Bool.eq_iff_iff, hbb, List.any_eq_true]
      simp
    clear hc hbb
    go_wp2
    go_ret
    exact ⟨by rw [HE.out]; rfl, hb1⟩
end Go.Proofs.YtkbhckjpmgkgjaaGreatDoor
namespace Go.Proofs.YtkbhckjpmgkgjaaGreatDoor
open Go.RowKit
open Go.ChangeMaps (setBlock)
section
variable {P : Program} {ops : Array Oper} {C : World → Prop} {Q : Act → Prop} {a : Act} {o : Oper} {rest : List Oper}
end
theorem pk_one (nm vr : ByteArray) (na : Option Addr) (nl nc : Nat) : (#[Value.string nm, .string vr, .slice na nl nc]).all (·.oneCell') = true := by kernel_rfl
theorem nd_one (nm rg : ByteArray) : (#[Value.string nm, .string rg]).all (·.oneCell') = true := by kernel_rfl
abbrev zeroPk : Array Value := #[.string ⟨#[]⟩, .string ⟨#[]⟩, .slice none 0 0]
abbrev zeroNd : Array Value := #[.string ⟨#[]⟩, .string ⟨#[]⟩]
theorem needs_go {A : List Ned} {n : Ned} {r : List Ned} : needsE A (n :: r) = if rightN n A ≠ 0 then rightN n A else needsE (A ++ [n]) r := rfl
theorem needs_take {L : List Ned} {W : World} {ng noff nc : Nat} (h : NeedsIn W (.slice (some ⟨ng, noff, none⟩) L.length nc) L) (j : Nat) (hj : j < L.length) : NeedsIn W (.slice (some ⟨ng, noff, none⟩) j nc) (L.take j) := by
  obtain ⟨a, g, off, c, h1, h2, h3, h4, h5⟩ := h.ex
  simp only [Value.slice.injEq] at h1
  obtain ⟨rfl, _, rfl⟩ := h1
  obtain ⟨k1, k2⟩ := h3 (by omega)
  simp only [Option.some.injEq, Addr.mk.injEq, and_true] at k1
  obtain ⟨rfl, rfl⟩ := k1
  have hl : (L.take j).length = j := by rw [List.length_take]; omega
  refine ⟨some ⟨ng, noff, none⟩, ng, noff, nc, by rw [hl], by omega, fun _ => ⟨rfl, k2⟩, (fun h => by cases h), fun i hi => ?_⟩
  rw [List.getElem_take]
  exact h5 i (by omega)
/-- What is wrong, one package on. -/
theorem packs_go {A : List Rl} {p : Pak} {r : List Pak} (h1 : rightP p.nm p.vr A = 0) (h2 : needsE [] p.nd = 0) : packsE A (p :: r) = packsE (A ++ [p.key]) r := by
  rw [packsE_cons, if_neg]
  intro h
  apply h
  unfold packE
  rw [if_neg (fun k => k h1), h2]
/-- Texts that fit. -/
def FitP (L : List Pak) : Prop := ∀ p ∈ L, p.nm.size ≤ 140737488355328 ∧ p.vr.size ≤ 140737488355328 ∧ ∀ n ∈ p.nd, n.nm.size ≤ 140737488355328 ∧ n.rg.size ≤ 140737488355328
set_option maxRecDepth 40000 in
set_option maxHeartbeats 16000000 in
theorem right_ok {L : List Pak} {pv : Value} (w : World) (hL : PacksIn w pv L) (hF : FitP L) (hl : L.length < 9223372036854775807) : Calls Tryz.prog 12 #[pv] w fun e w' => e = .returned (.int .i64 (rightL L)) ∧ Below w.heap.size w w' := by
  have htm := tooMany_ok w hL hl
  obtain ⟨R, hR⟩ : ∃ R, R = rightL L := ⟨_, rfl⟩
  have HRD : Hid (R = if bigL L = true then 3 else packsE [] L) := hR
  rw [← hR]
  have HL : Hid (PacksIn w pv L) := hL
  have HF : Hid (FitP L) := hF
  obtain ⟨a, g, off, c, rfl, h2, h3, h4, h5⟩ := hL.ex
  have HA1 : Hid (0 < L.length → a = some ⟨g, off, none⟩) := fun h => (h3 h).1
  have HAg : Hid (0 < L.length → g < w.heap.size) := fun h => (h3 h).2
  have HA5 : Hid (∀ i (h : i < L.length), ∃ na nc, (∀ wx, Below w.heap.size w wx → wx.rangeAt g (off + i * 3) (encP L[i] (.slice na L[i].nd.length nc))) ∧ ∀ wx, Below w.heap.size w wx → NeedsIn wx (.slice na L[i].nd.length nc) L[i].nd) := fun i hi => by
    obtain ⟨nv, k1, k2⟩ := h5 i hi
    have k2' := k2
    obtain ⟨na, _, _, nc, rfl, _⟩ := k2.ex
    exact ⟨na, nc, fun wx hx j u hj => (hx.cell (p := ⟨g, off + i * 3 + j, none⟩) (h3 (by omega)).2).trans (k1 j u hj), fun wx hx => k2'.keep (Nat.le_refl _) hx⟩
  obtain ⟨n, hn⟩ : ∃ n, n = L.length := ⟨_, rfl⟩
  have HN : Hid (n = L.length) := hn
  have hnn : L.length = n := hn.symm
  rw [hnn]
  rw [hnn] at h2 hl htm
  have HBigD : Hid (bigL L = false → n ≤ 1024 ∧ ∀ p ∈ L, p.nd.length ≤ 64) := fun h => by
    have h1 := (bigL_iff L).1 h
    exact ⟨by rw [hn]; exact h1.1, h1.2⟩
  clear hL h3 h4 h5 hn hnn hR hF
  cases hbig : bigL L with
  | true =>
    have HF3 : Hid (R = 3) := by show _ = _; rw [HRD.out, if_pos hbig]
    rw [hbig] at htm
    clear hbig
    go_enter Tryz.func12, Tryz.ntmps12
    go_wp2_with fail
    refine htm.mono ?_
    rintro e w1 ⟨rfl, hb1⟩
    clear htm
    go_wp2
    go_ret
    exact ⟨by rw [HF3.out]; rfl, hb1⟩
  | false =>
    have HRP : Hid (R = packsE [] L) := by show _ = _; rw [HRD.out, if_neg (by rw [hbig]; decide)]
    obtain ⟨hn1024, hnd⟩ := HBigD.out hbig
    have HND : Hid (∀ p ∈ L, p.nd.length ≤ 64) := hnd
    rw [hbig] at htm
    clear hbig hnd
    go_enter Tryz.func12, Tryz.ntmps12
    go_wp2_with fail
    refine htm.mono ?_
    rintro e w1 ⟨rfl, hb1⟩
    have HB1 : Hid (Below w.heap.size w w1) := hb1
    have HRel0 : Hid (RelAt (w1.alloc (.map #[] 0)) w1.heap.size []) := rel_new w1
    have HB2 : Hid (Below w1.heap.size w1 (w1.alloc (.map #[] 0))) := (Below.refl _ _).alloc (Nat.le_refl _) _
    obtain ⟨m, hm⟩ : ∃ m, m = w1.heap.size := ⟨_, rfl⟩
    have HM : Hid (m = w1.heap.size) := hm
    have hmm := run_makeMap_plain (P := Tryz.prog) w1 64
    rw [← HM.out] at hmm HRel0 HB2
    clear htm hb1 hm
    go_wp2
    clear hmm
    go_loopw [15] (fun iv wr => ∃ i : Nat, i ≤ n ∧ iv = .int .i64 i ∧ Below m w1 wr ∧ RelAt wr m ((L.take i).map Pak.key) ∧ Hid (R = packsE ((L.take i).map Pak.key) (L.drop i))) (fun iv _ => n - (intOf iv).toNat)
    case atStart => exact ⟨0, Nat.zero_le _, rfl, HB2.out, HRel0.out, by rw [List.drop_zero]; exact HRP.out⟩
    case round =>
      obtain ⟨i, hi, rfl, hb, hrl, HI⟩ := hrel
      have HB : Hid (Below m w1 wr) := hb
      have HRl : Hid (RelAt wr m ((L.take i).map Pak.key)) := hrl
      have HMS : Hid (m ≤ wr.heap.size) := by show _ ≤ _; rw [HM.out]; exact hb.size
      have HBw : Hid (Below w.heap.size w wr) := HB1.out.trans (hb.mono (by rw [HM.out]; exact HB1.out.size))
      clear hb hrl HRel0 HB2
      by_cases hlt : i < n
      · have hlt' : (i : Int) < (n : Int) := by omega
        have hiL : i < L.length := by have := HN.out; omega
        obtain rfl := HA1.out (by omega)
        obtain ⟨na, nc, hrg0, hno⟩ := HA5.out i hiL
        have hrg := hrg0 wr HBw.out
        have hnin := hno wr HBw.out
        obtain ⟨p, hp⟩ : ∃ p, p = L[i] := ⟨_, rfl⟩
        rw [← hp] at hrg hnin hno
        have hpL : p ∈ L := by rw [hp]; exact List.getElem_mem _
        obtain ⟨hf1, hf2, hf3⟩ := HF.out p hpL
        have HF3 : Hid (∀ n ∈ p.nd, n.nm.size ≤ 140737488355328 ∧ n.rg.size ≤ 140737488355328) := hf3
        have hnd64 := HND.out p hpL
        have HDr : Hid (L.drop i = p :: L.drop (i + 1)) := by show _ = _; rw [List.drop_eq_getElem_cons hiL, hp]
        have HTk : Hid ((L.take (i + 1)).map Pak.key = (L.take i).map Pak.key ++ [p.key]) := by show _ = _; rw [List.take_succ_eq_append_getElem hiL, List.map_append, hp]; rfl
        obtain ⟨E, hE⟩ : ∃ E, E = (L.take i).map Pak.key := ⟨_, rfl⟩
        rw [← hE] at HRl HI HTk
        obtain ⟨nl, hnl⟩ : ∃ nl, nl = p.nd.length := ⟨_, rfl⟩
        rw [← hnl] at hrg hnin hnd64 hno
        have HNo : Hid (∀ wx, Below w.heap.size w wx → NeedsIn wx (.slice na nl nc) p.nd) := hno
        have HNl : Hid (nl = p.nd.length) := hnl
        have HNin : Hid (NeedsIn wr (.slice na nl nc) p.nd) := hnin
        have hb3 : Below wr.heap.size wr (wr.alloc (.cells #[.string p.nm, .string p.vr, .slice na nl nc] 44)) := (Below.refl _ _).alloc (Nat.le_refl _) _
        have hr3 : Row (wr.alloc (.cells #[.string p.nm, .string p.vr, .slice na nl nc] 44)) wr.heap.size #[.string p.nm, .string p.vr, .slice na nl nc] 44 := Row.new _ _ _
        obtain ⟨w3, hw3⟩ : ∃ x, x = wr.alloc (.cells #[.string p.nm, .string p.vr, .slice na nl nc] 44) := ⟨_, rfl⟩
        rw [← hw3] at hb3 hr3
        have hw3' := hw3.symm
        obtain ⟨k5, hk5⟩ : ∃ k, k = wr.heap.size := ⟨_, rfl⟩
        have hk5' := hk5.symm
        rw [← hk5] at hr3
        have HB3 : Hid (Below wr.heap.size wr w3) := hb3
        have HR3 : Hid (Row w3 k5 #[.string p.nm, .string p.vr, .slice na nl nc] 44) := hr3
        have hrp := rightPack_ok p.nm p.vr na nl nc hf1 hf2 w3 (HRl.out.next HB3.out)
        obtain ⟨e1, he1⟩ : ∃ e, e = rightP p.nm p.vr E := ⟨_, rfl⟩
        rw [← he1] at hrp
        have HE1 : Hid (e1 = rightP p.nm p.vr E) := he1
        have HMlt : Hid (m < wr.heap.size) := HRl.out.lt
        clear hp hE hnl hw3 hk5 hf1 hf2 hf3 hb3 he1 hnin hpL hno hrg0
        go_wp2_with (first | refine wpList_load_mid rfl 44 _ rfl g (off + i * 3) rfl _ _ hrg Tryz.underlying44 rfl infoPk ?_ | (refine wpList_store_new rfl 44 _ _ rfl wr zeroPk #[.string p.nm, .string p.vr, .slice na nl nc] 44 rfl wr.heap.size rfl rfl rfl infoPk rfl (pk_one _ _ _ _ _) ?_; rw [hw3']; rw [hk5']) | refine wpList_load_row rfl 44 _ rfl k5 rfl 44 #[.string p.nm, .string p.vr, .slice na nl nc] (0, 0) _ hr3 Tryz.underlying44 rfl infoPk ?_ | fail)
        refine hrp.mono ?_
        rintro e w4 ⟨rfl, hb4⟩
        have HB4 : Hid (Below wr.heap.size wr w4) := HB3.out.trans (hb4.mono HB3.out.size)
        have HR4 : Hid (Row w4 k5 #[.string p.nm, .string p.vr, .slice na nl nc] 44) := HR3.out.below hb4 HR3.out.lt
        clear hrp hb4 hr3 hrg hw3' HB3 HR3
        by_cases he0 : e1 = 0
        · have HE0 : Hid (rightP p.nm p.vr E = 0) := by show _ = _; rw [← HE1.out]; exact he0
          subst he0
          have hnin2 : (p.nm, p.vr) ∉ E := (rightP_ok HE0.out).2.2
          obtain ⟨o, hput, hrel5⟩ := put_rel (HRl.out.next HB4.out) hnin2 (i : Int)
          have d0 : w4.cell? ⟨k5, 0, none⟩ = some (.string p.nm) := (HR4.out.cell 0).trans rfl
          have d1 : w4.cell? ⟨k5, 1, none⟩ = some (.string p.vr) := (HR4.out.cell 1).trans rfl
          have hk5m : m < k5 := by rw [← hk5']; exact HMlt.out
          have hr5 : Row (setBlock w4 m o) k5 #[.string p.nm, .string p.vr, .slice na nl nc] 44 := (setBlock_other (by omega)).trans HR4.out
          have hb5 : Below m w1 (setBlock w4 m o) := (HB.out.trans (HB4.out.mono HMS.out)).trans (below_setBlock o (Nat.le_refl _))
          have hnin5 : NeedsIn (setBlock w4 m o) (.slice na nl nc) p.nd := by
            have hx : Below w.heap.size w (setBlock w4 m o) := HB1.out.trans (hb5.mono (by rw [HM.out]; exact HB1.out.size))
            exact HNo.out _ hx
          obtain ⟨w5, hw5⟩ : ∃ x, x = setBlock w4 m o := ⟨_, rfl⟩
          rw [← hw5] at hput hrel5 hr5 hb5 hnin5
          have HR5 : Hid (Row w5 k5 #[.string p.nm, .string p.vr, .slice na nl nc] 44) := hr5
          have HB5 : Hid (Below m w1 w5) := hb5
          have HM5 : Hid (m ≤ w5.heap.size) := by show _ ≤ _; rw [HM.out]; exact hb5.size
          have HRel5 : Hid (RelAt w5 m (E ++ [p.key])) := hrel5
          have HNin5 : Hid (NeedsIn w5 (.slice na nl nc) p.nd) := hnin5
          have d2 : w5.cell? ⟨k5, 2, none⟩ = some (.slice na nl nc) := (hr5.cell 2).trans rfl
          have HNs : Hid (R = if needsE [] p.nd ≠ 0 then needsE [] p.nd else packsE (E ++ [p.key]) (L.drop (i + 1))) := by
            show _ = _
            rw [HI.out, HDr.out, packsE_cons]
            unfold packE
            rw [HE0.out]
            simp
          clear hw5 hr5 hb5 hnin5 hrel5 hnin2
          go_wp2
          clear hput d0 d1
          go_loopw [36] (fun jv wi => ∃ j : Nat, j ≤ nl ∧ jv = .int .i64 j ∧ Below w5.heap.size w5 wi ∧ Hid (needsE [] p.nd = needsE (p.nd.take j) (p.nd.drop j))) (fun jv _ => nl - (intOf jv).toNat)
          case atStart => exact ⟨0, Nat.zero_le _, rfl, Below.refl _ _, by rw [List.drop_zero]; rfl⟩
          case round =>
            obtain ⟨j, hj, rfl, hbi, HJ⟩ := hrel
            have HBi : Hid (Below w5.heap.size w5 wr) := hbi
            clear hbi
            by_cases hjl : j < nl
            · have hjl' : (j : Int) < (nl : Int) := by omega
              have hjd : j < p.nd.length := by have := HNl.out; omega
              have hninr := HNin5.out.keep (Nat.le_refl _) HBi.out
              obtain ⟨na', ng, noff, nc', hne, hncl, hn3, _, hn5⟩ := hninr.ex
              simp only [Value.slice.injEq] at hne
              obtain ⟨rfl, -, rfl⟩ := hne
              obtain ⟨rfl, hng⟩ := hn3 (by omega)
              have hrg := hn5 j hjd
              obtain ⟨nd, hndq⟩ : ∃ nd, nd = p.nd[j] := ⟨_, rfl⟩
              rw [← hndq] at hrg
              obtain ⟨hf1, hf2⟩ := HF3.out nd (by rw [hndq]; exact List.getElem_mem _)
              have HDj : Hid (p.nd.drop j = nd :: p.nd.drop (j + 1)) := by show _ = _; rw [List.drop_eq_getElem_cons hjd, hndq]
              have HTj : Hid (p.nd.take (j + 1) = p.nd.take j ++ [nd]) := by show _ = _; rw [List.take_succ_eq_append_getElem hjd, hndq]
              have hb7 : Below wr.heap.size wr (wr.alloc (.cells #[.string nd.nm, .string nd.rg] 61)) := (Below.refl _ _).alloc (Nat.le_refl _) _
              have hr7 : Row (wr.alloc (.cells #[.string nd.nm, .string nd.rg] 61)) wr.heap.size #[.string nd.nm, .string nd.rg] 61 := Row.new _ _ _
              obtain ⟨w7, hw7⟩ : ∃ x, x = wr.alloc (.cells #[.string nd.nm, .string nd.rg] 61) := ⟨_, rfl⟩
              rw [← hw7] at hb7 hr7
              have hw7' := hw7.symm
              obtain ⟨k8, hk8⟩ : ∃ k, k = wr.heap.size := ⟨_, rfl⟩
              have hk8' := hk8.symm
              rw [← hk8] at hr7
              have HR8 : Hid (Row w7 k8 #[.string nd.nm, .string nd.rg] 61) := hr7
              have HB7 : Hid (Below w5.heap.size w5 w7) := HBi.out.trans (hb7.mono HBi.out.size)
              have HR5w : Hid (Row w7 k5 #[.string p.nm, .string p.vr, .slice (some ⟨ng, noff, none⟩) nl nc] 44) := HR5.out.below HB7.out HR5.out.lt
              obtain ⟨e0, he0⟩ : ∃ e, e = rightN nd (p.nd.take j) := ⟨_, rfl⟩
              have HE0n : Hid (e0 = rightN nd (p.nd.take j)) := he0
              have HNeed : Hid (∀ wx, Below w7.heap.size w7 wx → Calls Tryz.prog 31 #[.agg #[.string nd.nm, .string nd.rg], .slice (some ⟨ng, noff, none⟩) j nc] wx fun e w' => e = .returned (.int .i64 e0) ∧ Below wx.heap.size wx w') := fun wx hx => by
                have h1 := HNin5.out.keep (Nat.le_refl _) (HB7.out.trans (hx.mono HB7.out.size))
                rw [HNl.out] at h1
                have h2 := needs_take h1 j hjd
                have h3 := rightNeed_ok nd.nm nd.rg hf1 hf2 wx h2 (by rw [List.length_take]; omega)
                rw [he0]
                exact h3
              have HR5o := HR5
              have HR5 := HR5w
              have hjc : (j : Int) ≤ (nc : Int) := by omega
              clear hndq hb7 hr7 hw7 hk8 he0 hninr hn3 hn5 hng
              go_wp2_with (first | refine wpList_load_mid rfl 61 _ rfl ng (noff + j * 2) rfl _ _ hrg Tryz.underlying61 rfl infoNd ?_ | (refine wpList_store_new rfl 61 _ _ rfl wr zeroNd #[.string nd.nm, .string nd.rg] 61 rfl wr.heap.size rfl rfl rfl infoNd rfl (nd_one _ _) ?_; rw [hw7']; rw [hk8']))
              refine wp_region_quiet (C := fun wx => Below w7.heap.size w7 wx) (by kernel_rfl) (by kernel_rfl) ((Below.refl _ _).drew) ?_
              simp only []
              refine q_load 61 _ rfl (by rfl) k8 #[.string nd.nm, .string nd.rg] 61 _ rfl (fun wx hw => Row.below HR8.out hw (Row.lt HR8.out)) Tryz.underlying61 rfl infoNd ?_
              simp only [Act.put, List.setIfInBounds_toArray, List.set_cons_zero, List.set_cons_succ]
              refine q_value ?_ (by rfl) (fun wx hw => ?_) ?_
              rotate_left
              · go_simp
                with_reducible rfl
              simp only [Act.put, List.setIfInBounds_toArray, List.set_cons_zero, List.set_cons_succ]
              refine q_value (.slice (some ⟨ng, noff, none⟩) nl nc) (by rfl) (fun wx hw => ?_) ?_
              · have hc := ((Row.below HR5.out hw (Row.lt HR5.out)).cell 2).trans (show _ = some (Value.slice (some ⟨ng, noff, none⟩) nl nc) from rfl)
                go_simp
              simp only [Act.put, List.setIfInBounds_toArray, List.set_cons_zero, List.set_cons_succ]
              refine q_value ?_ (by rfl) (fun wx hw => ?_) ?_
              rotate_left
              · go_simp
                with_reducible rfl
              simp only [Act.put, List.setIfInBounds_toArray, List.set_cons_zero, List.set_cons_succ]
              refine q_value (.slice (some ⟨ng, noff, none⟩) j nc) (by rfl) (fun wx hw => ?_) ?_
              · go_simp
              simp only [Act.put, List.setIfInBounds_toArray, List.set_cons_zero, List.set_cons_succ]
              refine q_call (.int .i64 e0) (by rfl) 31 #[.agg #[.string nd.nm, .string nd.rg], .slice (some ⟨ng, noff, none⟩) j nc] (fun w h => by go_simp) (fun wx hw => (HNeed.out wx hw).mono fun e w' ⟨he, hb⟩ => ⟨he, hw.trans (hb.mono hw.size)⟩) ?_
              simp only [Act.put, List.setIfInBounds_toArray, List.set_cons_zero, List.set_cons_succ]
              refine q_value ?_ (by rfl) (fun wx hw => ?_) ?_
              rotate_left
              · go_simp
                with_reducible rfl
              simp only [Act.put, List.setIfInBounds_toArray, List.set_cons_zero, List.set_cons_succ]
              refine wpQuiet_nil ?_
              intro wB hB
              try simp only [Exit.then]
              have HBB : Hid (Below w5.heap.size w5 wB) := HB7.out.trans (hB.mono HB7.out.size)
              clear hB hrg
              by_cases hz : e0 = 0
              · have HZ : Hid (needsE [] p.nd = needsE (p.nd.take (j + 1)) (p.nd.drop (j + 1))) := by
                  show _ = _
                  rw [HJ.out, HDj.out, needs_go, ← HE0n.out, if_neg (fun k => k hz), HTj.out]
                subst hz
                go_wp2
                go_roundw
                case rel => exact ⟨j + 1, by omega, by go_num, HBB.out, HZ.out⟩
                case measure => simp [intOf]; omega
              · have hzb := beqI hz
                have HRe : Hid (R = e0) := by
                  have h1 : needsE [] p.nd = e0 := by rw [HJ.out, HDj.out, needs_go, ← HE0n.out, if_pos hz]
                  show _ = _
                  rw [HNs.out, h1, if_pos hz]
                have HBf : Hid (Below w.heap.size w wB) := HB1.out.trans ((HB5.out.trans (HBB.out.mono HM5.out)).mono (by rw [HM.out]; exact HB1.out.size))
                go_wp2
                go_ret
                exact ⟨by rw [HRe.out]; rfl, HBf.out⟩
            · have hjl' : ¬ (j : Int) < (nl : Int) := by omega
              have HNz : Hid (needsE [] p.nd = 0) := by
                show _ = _
                rw [HJ.out, List.drop_of_length_le (by have := HNl.out; omega)]
                rfl
              have HNext : Hid (R = packsE ((L.take (i + 1)).map Pak.key) (L.drop (i + 1))) := by
                show _ = _
                rw [HNs.out, HNz.out, if_neg (fun h => h rfl), HTk.out]
              have HRelN : Hid (RelAt wr m ((L.take (i + 1)).map Pak.key)) := by rw [HTk.out]; exact HRel5.out.next HBi.out
              have HBN : Hid (Below m w1 wr) := HB5.out.trans (HBi.out.mono HM5.out)
              go_wp2
              go_roundw
              case rel => exact ⟨i + 1, by omega, by go_num, HBN.out, HRelN.out, HNext.out⟩
              case measure => simp [intOf]; omega
        · have hzb := beqI he0
          have HRe : Hid (R = e1) := by
            show _ = _
            rw [HI.out, HDr.out, packsE_cons]
            unfold packE
            rw [← HE1.out, if_pos he0, if_pos he0]
          have HBf : Hid (Below w.heap.size w w4) := HBw.out.trans (HB4.out.mono HBw.out.size)
          go_wp2
          go_ret
          exact ⟨by rw [HRe.out]; rfl, HBf.out⟩
      · have hlt' : ¬ (i : Int) < (n : Int) := by omega
        have HR0 : Hid (R = 0) := by
          show _ = _
          rw [HI.out, List.drop_of_length_le (by have := HN.out; omega)]
          rfl
        go_wp2
        go_ret
        exact ⟨by rw [HR0.out]; rfl, HBw.out⟩
end Go.Proofs.YtkbhckjpmgkgjaaGreatDoor
