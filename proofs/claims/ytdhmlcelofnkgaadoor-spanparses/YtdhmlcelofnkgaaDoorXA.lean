/- My own work: the document's below; what a term has. My own work: what a term has, by the document. My own work: a text between bytes of one kind; what the document's term tells, and that the program's tells the same. My own work: what the document's Parse and Has tell, and that the program's set has just the same versions. -/
import Derived.Test.YtdhmlcelofnkgaaDoorLS0
import Derived.Test.YtdhmlcelofnkgaaDoorR5
import Derived.Test.YtdhmlcelofnkgaaDoorR3
import Derived.Test.YtdhmlcelofnkgaaDoorST2
import Derived.Test.YtdhmlcelofnkgaaDoorSG
namespace Go.Proofs.YtdhmlcelofnkgaaDoor
open Go.RowKit

/-- Below what bounds a version. -/
def belowB (w v : Ver) (n : Int) : Bool := if (bumpR v n).2 = 0 then decide (cmpV w (bumpR v n).1 < 0) else true
set_option maxRecDepth 20000 in
set_option maxHeartbeats 2000000 in
theorem below_ok (x v : Ver) (n : Int) (w : World) (hs : v.tag.size ≤ 140737488355328) : Calls Tryd.prog 38 #[verV x, verV v, .int .i64 n] w fun e w' => e = .returned (.bool (belowB x v n)) ∧ Below w.heap.size w w' := by
  have hX : Row ((w.alloc (.cells (verC x) 33)).alloc (.cells (verC v) 33)) w.heap.size (verC x) 33 := (Row.new w (verC x) 33).alloc _
  have hV : Row ((w.alloc (.cells (verC x) 33)).alloc (.cells (verC v) 33)) (w.heap.size + 1) (verC v) 33 := by
    have h := Row.new (w.alloc (.cells (verC x) 33)) (verC v) 33
    rw [World.size_alloc] at h
    exact h
  have hb1 : Below w.heap.size w ((w.alloc (.cells (verC x) 33)).alloc (.cells (verC v) 33)) := ((Below.refl _ _).alloc (Nat.le_refl _) _).alloc (by simp) _
  obtain ⟨w1, hw1⟩ : ∃ y, y = (w.alloc (.cells (verC x) 33)).alloc (.cells (verC v) 33) := ⟨_, rfl⟩
  have hw1' := hw1.symm
  rw [← hw1] at hX hV hb1
  have hbu := refBump_ok v n w1 hs
  unfold bumpE at hbu
  have HBB : Hid (belowB x v n = if (bumpR v n).2 = 0 then decide (cmpV x (bumpR v n).1 < 0) else true) := rfl
  obtain ⟨⟨u, e0⟩, hu⟩ : ∃ y, y = bumpR v n := ⟨_, rfl⟩
  rw [← hu] at hbu HBB
  simp only at hbu HBB
  generalize belowB x v n = r at HBB ⊢
  have HB1 : Hid (Below w.heap.size w w1) := hb1
  have HX1 : Hid (Row w1 w.heap.size (verC x) 33) := hX
  clear hw1 hu hb1 hX hs
  go_enter Tryd.func38, Tryd.ntmps38
  go_wp2_with (first | refine wpList_load_row rfl 33 _ rfl (w.heap.size + 1) rfl 33 (verC v) (0, 0) _ hV Tryd.underlying33 rfl infoRs ?_ | fail)
  refine hbu.mono ?_
  rintro e w2 ⟨rfl, hb2⟩
  have hq : Below w1.heap.size w1 (w2.alloc (.cells (verC u) 33)) := hb2.alloc hb2.size _
  have hx3 : Row (w2.alloc (.cells (verC u) 33)) w.heap.size (verC x) 33 := Row.below HX1.out hq (Row.lt HX1.out)
  have hu3 : Row (w2.alloc (.cells (verC u) 33)) w2.heap.size (verC u) 33 := Row.new _ _ _
  have HB3 : Hid (Below w.heap.size w (w2.alloc (.cells (verC u) 33))) := HB1.out.trans (hq.mono HB1.out.size)
  clear hbu hb2 hq hV
  go_upto_region 2 with (refine wpList_store_new rfl 33 _ _ rfl w2 zeroC (verC u) 33 rfl w2.heap.size rfl rfl rfl infoRs rfl (verC_one _) ?_)
  obtain ⟨w3, hw3⟩ : ∃ y, y = w2.alloc (.cells (verC u) 33) := ⟨_, rfl⟩
  rw [← hw3] at hx3 hu3 HB3
  rw [← hw3]
  clear hw3
  by_cases h0 : e0 = 0
  · subst h0
    have hcm := refCompare_ok x u w3
    have HRR : Hid (r = decide (cmpV x u < 0)) := by show _ = _; rw [HBB.out, if_pos rfl]
    generalize cmpV x u = cz at hcm HRR
    go_wp2_with (first | refine wpList_load_wanted (by rfl) 33 _ rfl w.heap.size rfl 33 (verC x) _ hx3 Tryd.underlying33 rfl infoRs ?_ | refine wpList_load_wanted (by rfl) 33 _ rfl w2.heap.size rfl 33 (verC u) _ hu3 Tryd.underlying33 rfl infoRs ?_ | fail)
    refine hcm.mono ?_
    rintro e w4 ⟨rfl, hb4⟩
    clear hcm
    go_wp2
    go_ret
    exact ⟨by rw [HRR.out]; rfl, HB3.out.trans (hb4.mono HB3.out.size)⟩
  · have h0' := beqI h0
    have HRR : Hid (r = true) := by show _ = _; rw [HBB.out, if_neg h0]
    go_wp2
    go_ret
    exact ⟨by rw [HRR.out]; rfl, HB3.out⟩
/-- A piece that begins at a version and ends ahead of Bump. -/
theorem has_ahead {v x : Ver} (n : Int) (hx : mayV x = true) : hasV [⟨1, v⟩, aheadB v n] x = (decide (0 ≤ cmpV x v) && belowB x v n) := by
  unfold hasV
  rw [hx, Bool.true_and, inn_two]
  have e1 : decide (le ⟨1, v⟩ ⟨1, x⟩) = decide (0 ≤ cmpV x v) := by
    have hc : ordC ⟨1, v⟩ ⟨1, x⟩ = cmpV v x := by
      by_cases h : v = x
      · rw [ord_side (a := ⟨1, v⟩) (b := ⟨1, x⟩) rfl h, h, (cmpV_zero x x).2 rfl]
        rfl
      · rw [ord_ver (a := ⟨1, v⟩) (b := ⟨1, x⟩) rfl h]
    have ha := preV.anti v x
    have hl : le ⟨1, v⟩ ⟨1, x⟩ ↔ cmpV v x ≤ 0 := by
      show ordC ⟨1, v⟩ ⟨1, x⟩ ≤ 0 ↔ _
      rw [hc]
    by_cases k : cmpV v x ≤ 0
    · rw [decide_eq_true (hl.2 k), decide_eq_true (by omega)]
    · rw [decide_eq_false (fun h => k (hl.1 h)), decide_eq_false (by omega)]
  have e2 : (!decide (le (aheadB v n) ⟨1, x⟩)) = belowB x v n := by
    unfold aheadB belowB
    by_cases h0 : (bumpR v n).2 = 0
    · rw [if_pos h0, if_pos h0]
      have hc : ordC ⟨1, (bumpR v n).1⟩ ⟨1, x⟩ = cmpV (bumpR v n).1 x := by
        by_cases h : (bumpR v n).1 = x
        · rw [ord_side (a := ⟨1, (bumpR v n).1⟩) (b := ⟨1, x⟩) rfl h, h, (cmpV_zero x x).2 rfl]
          rfl
        · rw [ord_ver (a := ⟨1, (bumpR v n).1⟩) (b := ⟨1, x⟩) rfl h]
      have ha := preV.anti (bumpR v n).1 x
      have hl : le ⟨1, (bumpR v n).1⟩ ⟨1, x⟩ ↔ cmpV (bumpR v n).1 x ≤ 0 := by
        show ordC ⟨1, (bumpR v n).1⟩ ⟨1, x⟩ ≤ 0 ↔ _
        rw [hc]
      by_cases k : cmpV (bumpR v n).1 x ≤ 0
      · rw [decide_eq_true (hl.2 k), decide_eq_false (by omega)]
        rfl
      · rw [decide_eq_false (fun h => k (hl.1 h)), decide_eq_true (by omega)]
        rfl
    · rw [if_neg h0, if_neg h0]
      rw [decide_eq_false (fun h => lt_irr fin (lt_le_trans (le_lt h (lt_fin 1 x (Or.inl rfl))) (le_rfl _)))]
      rfl
  rw [e1, e2]
end Go.Proofs.YtdhmlcelofnkgaaDoor
namespace Go.Proofs.YtdhmlcelofnkgaaDoor
open Go.RowKit

/-- What an operation and a version have, by the document. -/
def hasO (op : By) (v x : Ver) : Bool :=
  if op = [42] then true else if op = [62, 61] then decide (0 ≤ cmpV x v) else if op = [60, 61] then decide (cmpV x v ≤ 0) else if op = [62] then decide (0 < cmpV x v) else if op = [60] then decide (cmpV x v < 0) else if op = [61] then decide (cmpV x v = 0)
  else if op = [126] then decide (0 ≤ cmpV x v) && belowB x v (if v.cnt = 1 then 1 else 2) else decide (0 ≤ cmpV x v) && belowB x v (firstP v)
theorem le_one (v x : Ver) : le ⟨1, v⟩ ⟨1, x⟩ ↔ cmpV v x ≤ 0 := by
  show ordC ⟨1, v⟩ ⟨1, x⟩ ≤ 0 ↔ _
  by_cases h : v = x
  · rw [ord_side (a := ⟨1, v⟩) (b := ⟨1, x⟩) rfl h, h, (cmpV_zero x x).2 rfl]
    exact Iff.rfl
  · rw [ord_ver (a := ⟨1, v⟩) (b := ⟨1, x⟩) rfl h]
theorem le_two (v x : Ver) : le ⟨2, v⟩ ⟨1, x⟩ ↔ cmpV v x < 0 := by
  show ordC ⟨2, v⟩ ⟨1, x⟩ ≤ 0 ↔ _
  by_cases h : v = x
  · rw [ord_side (a := ⟨2, v⟩) (b := ⟨1, x⟩) rfl h, h, (cmpV_zero x x).2 rfl]
    show cmpI 2 1 ≤ 0 ↔ _
    decide
  · have hz : cmpV v x ≠ 0 := fun e => h ((cmpV_zero v x).1 e)
    rw [ord_ver (a := ⟨2, v⟩) (b := ⟨1, x⟩) rfl h]
    show cmpV v x ≤ 0 ↔ _
    omega
theorem le_beg (x : Ver) : le beg ⟨1, x⟩ := lt_le (beg_lt 1 x (Or.inl rfl))
theorem le_end (x : Ver) : ¬ le fin ⟨1, x⟩ := fun h => lt_irr fin (lt_le_trans (le_lt h (lt_fin 1 x (Or.inl rfl))) (le_rfl _))
theorem has_all {x : Ver} (hx : mayV x = true) : hasV allC x = true := by
  show (mayV x && inn false [beg, fin] ⟨1, x⟩) = true
  rw [hx, inn_two, decide_eq_true (le_beg x), decide_eq_false (le_end x)]
  rfl
/-- What the program's set of a term has is what the document's term has. -/
theorem has_op {op : By} {v x : Ver} {L : List Cut} (hx : mayV x = true) (hc : 1 ≤ v.cnt) (h : opS op v = some L) : hasV L x = hasO op v x := by
  have ha := preV.anti v x
  have hb := preV.anti x v
  have two (a b : Cut) : hasV [a, b] x = (decide (le a ⟨1, x⟩) && !decide (le b ⟨1, x⟩)) := by
    unfold hasV
    rw [hx, Bool.true_and, inn_two]
  unfold opS at h
  by_cases h1 : op = [62, 61]
  · rw [if_pos h1] at h
    cases h
    subst h1
    rw [two, decide_eq_false (le_end x), Bool.not_false, Bool.and_true]
    show _ = decide (0 ≤ cmpV x v)
    rw [decide_eq_decide, le_one]
    omega
  rw [if_neg h1] at h
  by_cases h2 : op = [62]
  · rw [if_pos h2] at h
    cases h
    subst h2
    rw [two, decide_eq_false (le_end x), Bool.not_false, Bool.and_true]
    show _ = decide (0 < cmpV x v)
    rw [decide_eq_decide, le_two]
    omega
  rw [if_neg h2] at h
  by_cases h3 : op = [60, 61]
  · rw [if_pos h3] at h
    cases h
    subst h3
    rw [two, decide_eq_true (le_beg x), Bool.true_and, ← decide_not]
    show _ = decide (cmpV x v ≤ 0)
    rw [decide_eq_decide, le_two]
    omega
  rw [if_neg h3] at h
  by_cases h4 : op = [60]
  · rw [if_pos h4] at h
    cases h
    subst h4
    rw [two, decide_eq_true (le_beg x), Bool.true_and, ← decide_not]
    show _ = decide (cmpV x v < 0)
    rw [decide_eq_decide, le_one]
    omega
  rw [if_neg h4] at h
  by_cases h5 : op = [61]
  · rw [if_pos h5] at h
    cases h
    subst h5
    rw [two, ← decide_not, ← Bool.decide_and]
    show _ = decide (cmpV x v = 0)
    rw [decide_eq_decide, le_one, le_two]
    omega
  rw [if_neg h5] at h
  by_cases h6 : op = [94]
  · rw [if_pos h6] at h
    cases h
    subst h6
    rw [has_ahead _ hx]
    rfl
  rw [if_neg h6] at h
  by_cases h7 : op = [126]
  · rw [if_pos h7] at h
    cases h
    subst h7
    rw [has_ahead _ hx]
    have hm : min v.cnt 2 = if v.cnt = 1 then 1 else 2 := by
      split <;> omega
    rw [hm]
    rfl
  rw [if_neg h7] at h
  cases h
end Go.Proofs.YtdhmlcelofnkgaaDoor
namespace Go.Proofs.YtdhmlcelofnkgaaDoor
open Go.RowKit

/-- A text parted at a byte, with no bound. -/
def cutAll (c : UInt8) (l : By) : List By := splitB c l.length l
theorem cutAll_none {c : UInt8} {l : By} (h : cutAt c l = none) : cutAll c l = [l] := by
  unfold cutAll
  cases hl : l.length with
  | zero => rfl
  | succ k => unfold splitB; rw [h]
theorem cutAll_some {c : UInt8} {l a r : By} (h : cutAt c l = some (a, r)) : cutAll c l = a :: cutAll c r := by
  have h1 := (cutAt_back h).1
  have h2 : l.length = (r.length + a.length) + 1 := by rw [h1]; simp; omega
  unfold cutAll
  rw [h2]
  show (match cutAt c l with | none => [l] | some p => p.1 :: splitB c (r.length + a.length) p.2) = _
  rw [h]
  show a :: splitB c (r.length + a.length) r = _
  rw [← splitB_less (Nat.le_refl _) a.length]
theorem cutAll_pos (c : UInt8) (l : By) : 1 ≤ (cutAll c l).length := splitB_pos c _ l
/-- With a bound it is the same, or longer than the bound. -/
theorem split_all (c : UInt8) (k : Nat) : ∀ l : By, ((cutAll c l).length ≤ k + 1 ∧ splitB c k l = cutAll c l) ∨ (k + 1 < (cutAll c l).length ∧ (splitB c k l).length = k + 1) := by
  induction k with
  | zero =>
    intro l
    cases h : cutAt c l with
    | none => rw [cutAll_none h]; exact Or.inl ⟨Nat.le_refl _, rfl⟩
    | some p =>
      rw [cutAll_some (a := p.1) (r := p.2) h]
      have := cutAll_pos c p.2
      exact Or.inr ⟨by rw [List.length_cons]; omega, rfl⟩
  | succ k ih =>
    intro l
    cases h : cutAt c l with
    | none =>
      rw [cutAll_none h]
      refine Or.inl ⟨by simp, ?_⟩
      unfold splitB; rw [h]
    | some p =>
      rw [cutAll_some (a := p.1) (r := p.2) h]
      have e : splitB c (k + 1) l = p.1 :: splitB c k p.2 := by rw [splitB, h]
      rw [e]
      rcases ih p.2 with ⟨h1, h2⟩ | ⟨h1, h2⟩
      · exact Or.inl ⟨by rw [List.length_cons]; omega, by rw [h2]⟩
      · exact Or.inr ⟨by rw [List.length_cons]; omega, by rw [List.length_cons, h2]⟩
theorem split16 (c : UInt8) (l : By) : (16 < (cutAll c l).length ∧ 16 < (splitB c 16 l).length) ∨ ((cutAll c l).length ≤ 16 ∧ splitB c 16 l = cutAll c l) := by
  rcases split_all c 16 l with ⟨h1, h2⟩ | ⟨h1, h2⟩
  · by_cases h : (cutAll c l).length ≤ 16
    · exact Or.inr ⟨h, h2⟩
    · exact Or.inl ⟨by omega, by rw [h2]; omega⟩
  · exact Or.inl ⟨by omega, by omega⟩
theorem cutAll_len (c : UInt8) : ∀ (n : Nat) (l : By), l.length = n → (cutAll c l).length ≤ n + 1 := by
  intro n
  induction n using Nat.strongRecOn with
  | ind n ih =>
    intro l hl
    cases h : cutAt c l with
    | none => rw [cutAll_none h]; simp
    | some p =>
      rw [cutAll_some (a := p.1) (r := p.2) h]
      have h1 := (cutAt_back (a := p.1) (r := p.2) h).1
      have h2 : l.length = p.1.length + (p.2.length + 1) := by rw [h1]; simp
      have := ih p.2.length (by omega) p.2 rfl
      rw [List.length_cons]
      omega
/-- The seven signs, in the document's order. -/
def signsR : List By := [[62, 61], [60, 61], [62], [60], [61], [94], [126]]
/-- The first sign that stands ahead of something, and what stands behind it. -/
def signR (l : By) : Option (By × By) := (signsR.find? fun g => decide (g.length < l.length) && (l.take g.length == g)).map fun g => (g, l.drop g.length)
def zeroVer : Ver := ⟨0, 0, 0, 0, 0, ⟨#[]⟩⟩
/-- What the document's term tells. -/
def termR (l : By) : Option (By × Ver) := if l = [42] then some ([42], zeroVer) else match signR l with
  | none => none
  | some p => match parseV p.2 with
    | none => none
    | some v => some (p.1, v)
theorem text_head {v : Ver} (h : May v) : ∃ d t, textV v = d :: t ∧ digB d = true := by
  have hp := parts_num h
  have hl := parts_len h
  have hc := h.cnt
  cases hP : partsV v with
  | nil => rw [hP] at hl; simp at hl; omega
  | cons x r =>
    have hx := hp x (by rw [hP]; exact List.mem_cons_self)
    obtain ⟨⟨h1, _⟩, _, h3⟩ := (isNum_iff x).1 hx
    cases hX : x with
    | nil => rw [hX] at h1; simp at h1
    | cons d t =>
      have hd := h3 d (by rw [hX]; exact List.mem_cons_self)
      have hj : ∃ t', joinP (partsV v) = d :: t' := by
        rw [hP, hX]
        cases r with
        | nil => exact ⟨t, rfl⟩
        | cons y r => exact ⟨t ++ 46 :: joinP (y :: r), by rw [joinP_cons _ (by simp)]; rfl⟩
      obtain ⟨t', ht⟩ := hj
      unfold textV
      rw [ht]
      exact ⟨d, _, rfl, hd⟩
theorem parse_head {l : By} {v : Ver} (h : parseV l = some v) : ∃ d t, l = d :: t ∧ digB d = true := by
  obtain ⟨h1, h2⟩ := parse_back h
  rw [← h2]
  exact text_head h1
theorem dig_ne {d : UInt8} (h : digB d = true) (c : UInt8) (hc : digB c = false) : ¬ d = c := fun e => by rw [e, hc] at h; cases h
theorem sign_dig {g : By} (hg : g ∈ signsR) {d : UInt8} (hd : digB d = true) (t : By) : signR (g ++ d :: t) = some (g, d :: t) := by
  have h61 : (d == 61) = false := by simpa using dig_ne hd 61 (by decide)
  unfold signsR at hg
  simp only [List.mem_cons, List.not_mem_nil, or_false] at hg
  rcases hg with rfl | rfl | rfl | rfl | rfl | rfl | rfl <;> simp [signR, signsR, List.find?, h61]
theorem sign_back {l : By} {p : By × By} (h : signR l = some p) : p.1 ∈ signsR ∧ l = p.1 ++ p.2 := by
  unfold signR at h
  cases hf : signsR.find? fun g => decide (g.length < l.length) && (l.take g.length == g) with
  | none => rw [hf] at h; cases h
  | some g =>
    rw [hf] at h
    cases h
    have h1 := List.find?_some hf
    simp only [Bool.and_eq_true, decide_eq_true_eq, beq_iff_eq] at h1
    refine ⟨List.mem_of_find?_eq_some hf, ?_⟩
    show l = g ++ l.drop g.length
    have h2 := h1.2
    conv => rhs; lhs; rw [← h2]
    rw [List.take_append_drop]
theorem idx_sign {g : By} (hg : g ∈ signsR) {d : UInt8} (hd : digB d = true) (t : By) : (g ++ d :: t).findIdx? digB = some g.length ∧ (g ++ d :: t).take g.length = g ∧ (g ++ d :: t).drop g.length = d :: t ∧ ¬ g ++ d :: t = [42] := by
  refine ⟨?_, by simp, by simp, ?_⟩
  · unfold signsR at hg
    simp only [List.mem_cons, List.not_mem_nil, or_false] at hg
    rcases hg with rfl | rfl | rfl | rfl | rfl | rfl | rfl <;> simp [List.findIdx?_cons, hd, show digB 62 = false from by decide, show digB 61 = false from by decide, show digB 60 = false from by decide, show digB 94 = false from by decide, show digB 126 = false from by decide]
  · intro e
    have h1 := congrArg List.length e
    rw [List.length_append] at h1
    unfold signsR at hg
    simp only [List.mem_cons, List.not_mem_nil, or_false] at hg
    rcases hg with rfl | rfl | rfl | rfl | rfl | rfl | rfl <;> simp at h1 <;> omega
theorem op_sign {g : By} (hg : g ∈ signsR) (v : Ver) : ∃ L, opS g v = some L := by
  unfold signsR at hg
  simp only [List.mem_cons, List.not_mem_nil, or_false] at hg
  rcases hg with rfl | rfl | rfl | rfl | rfl | rfl | rfl <;> exact ⟨_, rfl⟩
theorem sign_op {g : By} {v : Ver} {L : List Cut} (h : opS g v = some L) : g ∈ signsR := by
  unfold opS at h
  unfold signsR
  by_cases h1 : g = [62, 61]
  · subst h1; simp
  by_cases h2 : g = [62]
  · subst h2; simp
  by_cases h3 : g = [60, 61]
  · subst h3; simp
  by_cases h4 : g = [60]
  · subst h4; simp
  by_cases h5 : g = [61]
  · subst h5; simp
  by_cases h6 : g = [94]
  · subst h6; simp
  by_cases h7 : g = [126]
  · subst h7; simp
  rw [if_neg h1, if_neg h2, if_neg h3, if_neg h4, if_neg h5, if_neg h6, if_neg h7] at h
  cases h
theorem join_bytes (L : List By) (P : UInt8 → Prop) (h46 : P 46) (h : ∀ x ∈ L, ∀ b ∈ x, P b) : ∀ b ∈ joinP L, P b := by
  induction L with
  | nil => intro b hb; cases hb
  | cons x r ih =>
    cases r with
    | nil => exact h x List.mem_cons_self
    | cons y r =>
      show ∀ b ∈ x ++ 46 :: joinP (y :: r), P b
      intro b hb
      rcases List.mem_append.1 hb with hb | hb
      · exact h x List.mem_cons_self b hb
      · rcases List.mem_cons.1 hb with hb | hb
        · rw [hb]; exact h46
        · exact ih (fun z hz => h z (List.mem_cons_of_mem _ hz)) b hb
/-- The bytes of a version's text. -/
theorem text_bytes {v : Ver} (h1 : May v) : ∀ b ∈ textV v, 45 ≤ b.toNat ∧ b.toNat ≤ 122 := by
  unfold textV
  intro b hb
  rcases List.mem_append.1 hb with hb | hb
  · refine join_bytes (partsV v) (fun b => 45 ≤ b.toNat ∧ b.toNat ≤ 122) (by decide) (fun x hx b hb => ?_) b hb
    have := (digB_iff b).1 (((isNum_iff x).1 (parts_num h1 x hx)).2.2 b hb)
    omega
  · unfold tagT at hb
    split at hb
    · cases hb
    · rcases List.mem_cons.1 hb with hb | hb
      · rw [hb]; decide
      · rcases h1.tag with h3 | h3
        · rw [h3] at hb; cases hb
        · unfold tagB at h3
          rw [Bool.and_eq_true] at h3
          have h4 := List.all_eq_true.1 h3.2 b hb
          unfold tagC at h4
          rw [Bool.or_eq_true] at h4
          rcases h4 with h4 | h4
          · simp at h4
            omega
          · have := (digB_iff b).1 h4
            omega
theorem text_not {v : Ver} (h : May v) {c : UInt8} (hc : c.toNat < 45 ∨ 122 < c.toNat) : c ∉ textV v := fun k => by have := text_bytes h c k; omega
theorem term_text {g : By} (hg : g ∈ signsR) {v : Ver} (hv : May v) : termS (g ++ textV v) = opS g v := by
  obtain ⟨d, t, h1, h2⟩ := text_head hv
  obtain ⟨i1, i2, i3, i4⟩ := idx_sign hg h2 t
  unfold termS
  rw [h1, if_neg i4, i1]
  simp only
  rw [i3, i2, ← h1, parse_text hv]
/-- The program's term and the document's: neither is one, or both are. -/
theorem term_pair (l : By) : (termR l = none ∧ termS l = none) ∨ ∃ op v L, termR l = some (op, v) ∧ termS l = some L ∧ ((op = [42] ∧ v = zeroVer ∧ L = allC) ∨ (op ∈ signsR ∧ May v ∧ opS op v = some L)) := by
  by_cases h42 : l = [42]
  · subst h42
    exact Or.inr ⟨[42], zeroVer, allC, rfl, rfl, Or.inl ⟨rfl, rfl, rfl⟩⟩
  cases hR : termR l with
  | some p =>
    unfold termR at hR
    rw [if_neg h42] at hR
    cases hs : signR l with
    | none => rw [hs] at hR; cases hR
    | some q =>
      rw [hs] at hR
      simp only at hR
      cases hp : parseV q.2 with
      | none => rw [hp] at hR; cases hR
      | some v =>
        rw [hp] at hR
        cases hR
        obtain ⟨h1, h2⟩ := sign_back hs
        obtain ⟨d, t, h3, h4⟩ := parse_head hp
        obtain ⟨L, hL⟩ := op_sign h1 v
        refine Or.inr ⟨q.1, v, L, rfl, ?_, Or.inr ⟨h1, (parse_back hp).1, hL⟩⟩
        obtain ⟨i1, i2, i3, i4⟩ := idx_sign h1 h4 t
        rw [← h3, ← h2] at i1 i2 i3
        unfold termS
        rw [if_neg h42, i1]
        simp only
        rw [i3, hp]
        simp only
        rw [i2]
        exact hL
  | none =>
    refine Or.inl ⟨rfl, ?_⟩
    cases hS : termS l with
    | none => rfl
    | some L =>
      exfalso
      unfold termS at hS
      rw [if_neg h42] at hS
      cases hf : l.findIdx? digB with
      | none => rw [hf] at hS; cases hS
      | some k =>
        rw [hf] at hS
        simp only at hS
        cases hp : parseV (l.drop k) with
        | none => rw [hp] at hS; cases hS
        | some v =>
          rw [hp] at hS
          simp only at hS
          have hg := sign_op hS
          obtain ⟨d, t, h3, h4⟩ := parse_head hp
          have hs := sign_dig hg h4 t
          rw [← h3, List.take_append_drop] at hs
          unfold termR at hR
          rw [if_neg h42, hs] at hR
          simp only at hR
          rw [hp] at hR
          cases hR
end Go.Proofs.YtdhmlcelofnkgaaDoor
namespace Go.Proofs.YtdhmlcelofnkgaaDoor
open Go.RowKit

/-- A term: its operation and its version. -/
abbrev Tm := By × Ver
/-- Each of a list, or none. -/
def mapO {α β : Type} (f : α → Option β) : List α → Option (List β)
  | [] => some []
  | x :: r => match f x with
    | none => none
    | some a => match mapO f r with
      | none => none
      | some l => some (a :: l)
theorem mapO_none {α β : Type} {f : α → Option β} {x : α} {r : List α} (h : f x = none) : mapO f (x :: r) = none := by rw [mapO, h]
theorem mapO_cons {α β : Type} {f : α → Option β} {x : α} {r : List α} {a : β} (h : f x = some a) : mapO f (x :: r) = (mapO f r).map (a :: ·) := by
  rw [mapO, h]
  cases mapO f r <;> rfl
def altR (l : By) : Option (List Tm) := if 16 < (cutAll 44 l).length then none else mapO termR (cutAll 44 l)
def parseR (l : By) : Option (List (List Tm)) := if 16 < (cutAll 124 l).length then none else mapO altR (cutAll 124 l)
def hasA (a : List Tm) (x : Ver) : Bool := a.all fun t => hasO t.1 t.2 x
def hasR (p : List (List Tm)) (x : Ver) : Bool := p.any fun a => hasA a x
section
variable {α : Type} {rd : By → Option (List Cut)} {rr : By → Option α} {f : Bool → Bool → Bool} {hs : α → Ver → Bool}
theorem gathL_pair (hf : f false false = false) (hp : ∀ l, (rr l = none ∧ rd l = none) ∨ ∃ a L, rr l = some a ∧ rd l = some L ∧ SetOk L ∧ ∀ x, mayV x = true → hasV L x = hs a x) (hj : ∀ A B x, SetOk A → SetOk B → hasV (mk2 f A B) x = f (hasV A x) (hasV B x)) :
    ∀ (P : List By) (J : List Cut), SetOk J → (mapO rr P = none ∧ gathL rd (mk2 f) J P = none) ∨ ∃ ls L, mapO rr P = some ls ∧ gathL rd (mk2 f) J P = some L ∧ SetOk L ∧ ∀ x, mayV x = true → hasV L x = ls.foldl (fun b a => f b (hs a x)) (hasV J x) := by
  intro P
  induction P with
  | nil => intro J hJ; exact Or.inr ⟨[], J, rfl, rfl, hJ, fun x _ => rfl⟩
  | cons y r ih =>
    intro J hJ
    rcases hp y with ⟨h1, h2⟩ | ⟨a, L, h1, h2, h3, h4⟩
    · exact Or.inl ⟨mapO_none h1, by rw [gathL, h2]⟩
    · have e : gathL rd (mk2 f) J (y :: r) = gathL rd (mk2 f) (mk2 f J L) r := by rw [gathL, h2]
      rw [e, mapO_cons h1]
      rcases ih (mk2 f J L) (mk2_ok hf hJ h3) with ⟨k1, k2⟩ | ⟨ls, M, k1, k2, k3, k4⟩
      · exact Or.inl ⟨by rw [k1]; rfl, k2⟩
      · refine Or.inr ⟨a :: ls, M, by rw [k1]; rfl, k2, k3, fun x hx => ?_⟩
        rw [k4 x hx, hj J L x hJ h3, h4 x hx]
        rfl
theorem gath1_pair (hf : f false false = false) (hp : ∀ l, (rr l = none ∧ rd l = none) ∨ ∃ a L, rr l = some a ∧ rd l = some L ∧ SetOk L ∧ ∀ x, mayV x = true → hasV L x = hs a x) (hj : ∀ A B x, SetOk A → SetOk B → hasV (mk2 f A B) x = f (hasV A x) (hasV B x)) :
    ∀ (P : List By), P ≠ [] → (mapO rr P = none ∧ gath1 rd (mk2 f) P = none) ∨ ∃ a ls L, mapO rr P = some (a :: ls) ∧ gath1 rd (mk2 f) P = some L ∧ SetOk L ∧ ∀ x, mayV x = true → hasV L x = ls.foldl (fun b a => f b (hs a x)) (hs a x) := by
  intro P h0
  cases P with
  | nil => exact absurd rfl h0
  | cons y r =>
    rw [gath1_cons]
    rcases hp y with ⟨h1, h2⟩ | ⟨a, L, h1, h2, h3, h4⟩
    · exact Or.inl ⟨mapO_none h1, by rw [h2]⟩
    · rw [h2, mapO_cons h1]
      rcases gathL_pair hf hp hj r L h3 with ⟨k1, k2⟩ | ⟨ls, M, k1, k2, k3, k4⟩
      · exact Or.inl ⟨by rw [k1]; rfl, k2⟩
      · exact Or.inr ⟨a, ls, M, by rw [k1]; rfl, k2, k3, fun x hx => by rw [k4 x hx, h4 x hx]⟩
theorem gather_pair (c : UInt8) (hf : f false false = false) (hp : ∀ l, (rr l = none ∧ rd l = none) ∨ ∃ a L, rr l = some a ∧ rd l = some L ∧ SetOk L ∧ ∀ x, mayV x = true → hasV L x = hs a x) (hj : ∀ A B x, SetOk A → SetOk B → hasV (mk2 f A B) x = f (hasV A x) (hasV B x)) (l : By) :
    ((if 16 < (cutAll c l).length then none else mapO rr (cutAll c l)) = none ∧ gatherS c rd (mk2 f) l = none) ∨ ∃ a ls L, (if 16 < (cutAll c l).length then none else mapO rr (cutAll c l)) = some (a :: ls) ∧ gatherS c rd (mk2 f) l = some L ∧ SetOk L ∧ ∀ x, mayV x = true → hasV L x = ls.foldl (fun b a => f b (hs a x)) (hs a x) := by
  unfold gatherS
  rcases split16 c l with ⟨h1, h2⟩ | ⟨h1, h2⟩
  · rw [if_pos h1, if_pos h2]
    exact Or.inl ⟨rfl, rfl⟩
  · rw [h2, if_neg (by omega), if_neg (by omega)]
    exact gath1_pair hf hp hj _ fun e => by
      have := cutAll_pos c l
      rw [e] at this
      exact absurd this (by decide)
end
theorem foldl_and {α : Type} (g : α → Bool) : ∀ (l : List α) (b : Bool), l.foldl (fun b a => b && g a) b = (b && l.all g)
  | [], b => by simp
  | a :: l, b => by
    rw [List.foldl_cons, foldl_and g l, List.all_cons, Bool.and_assoc]
theorem foldl_or {α : Type} (g : α → Bool) : ∀ (l : List α) (b : Bool), l.foldl (fun b a => b || g a) b = (b || l.any g)
  | [], b => by simp
  | a :: l, b => by
    rw [List.foldl_cons, foldl_or g l, List.any_cons, Bool.or_assoc]
theorem tm_pair (l : By) : (termR l = none ∧ termS l = none) ∨ ∃ a L, termR l = some a ∧ termS l = some L ∧ SetOk L ∧ ∀ x, mayV x = true → hasV L x = hasO a.1 a.2 x := by
  rcases term_pair l with h | ⟨op, v, L, h1, h2, h3⟩
  · exact Or.inl h
  · refine Or.inr ⟨(op, v), L, h1, h2, (termS_ok h2).1, fun x hx => ?_⟩
    rcases h3 with ⟨rfl, rfl, rfl⟩ | ⟨_, h4, h5⟩
    · rw [has_all hx]; rfl
    · exact has_op hx h4.cnt.1 h5
/-- Alternatives: neither is one, or both are, with the same versions. -/
theorem alt_pair (l : By) : (altR l = none ∧ altS l = none) ∨ ∃ a L, altR l = some a ∧ altS l = some L ∧ SetOk L ∧ ∀ x, mayV x = true → hasV L x = hasA a x := by
  rcases gather_pair (f := fAnd) (hs := fun (a : Tm) x => hasO a.1 a.2 x) 44 rfl tm_pair (fun A B x hA hB => has_and hA hB x) l with ⟨h1, h2⟩ | ⟨a, ls, L, h1, h2, h3, h4⟩
  · exact Or.inl ⟨h1, h2⟩
  · refine Or.inr ⟨a :: ls, L, h1, h2, h3, fun x hx => (h4 x hx).trans ?_⟩
    exact (foldl_and (fun a : Tm => hasO a.1 a.2 x) ls _).trans rfl
/-- Ranges: neither is one, or both are, with the same versions. -/
theorem range_pair (l : By) : (parseR l = none ∧ rangeS l = none) ∨ ∃ p L, parseR l = some p ∧ rangeS l = some L ∧ SetOk L ∧ ∀ x, mayV x = true → hasV L x = hasR p x := by
  rcases gather_pair (f := fOr) (hs := hasA) 124 rfl alt_pair (fun A B x hA hB => has_or hA hB x) l with ⟨h1, h2⟩ | ⟨a, ls, L, h1, h2, h3, h4⟩
  · exact Or.inl ⟨h1, h2⟩
  · refine Or.inr ⟨a :: ls, L, h1, h2, h3, fun x hx => (h4 x hx).trans ?_⟩
    exact (foldl_or (fun a => hasA a x) ls _).trans rfl
end Go.Proofs.YtdhmlcelofnkgaaDoor
