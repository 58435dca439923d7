/- My own work: the document's below; what a term has. My own work: what a term has, by the document. My own work: a text between bytes of one kind; what the document's term tells, and that the program's tells the same. My own work: a set's text, and that it is a range of the same set. My own work: the range of all and of one version; how long a set's text is. My own work: pieceText. -/
import Derived.Test.YtdhmlcelofnkgaaDoorLS0
import Derived.Test.YtdhmlcelofnkgaaDoorR5
import Derived.Test.YtdhmlcelofnkgaaDoorR3
import Derived.Test.YtdhmlcelofnkgaaDoorST2
import Derived.Test.YtdhmlcelofnkgaaDoorSG
namespace Go.Proofs.YtdhmlcelofnkgaaDoor
open Go.RowKit

/-- Below what bounds a version. -/
def belowB (w v : Ver) (n : Int) : Bool := if (bumpR v n).2 = 0 then decide (cmpV w (bumpR v n).1 < 0) else true
set_option maxRecDepth 20000 in
set_option maxHeartbeats 2000000 in
theorem below_ok (x v : Ver) (n : Int) (w : World) (hs : v.tag.size ≤ 140737488355328) : Calls Tryd.prog 38 #[verV x, verV v, .int .i64 n] w fun e w' => e = .returned (.bool (belowB x v n)) ∧ Below w.heap.size w w' := by
  have hX : Row ((w.alloc (.cells (verC x) 33)).alloc (.cells (verC v) 33)) w.heap.size (verC x) 33 := (Row.new w (verC x) 33).alloc _
  have hV : Row ((w.alloc (.cells (verC x) 33)).alloc (.cells (verC v) 33)) (w.heap.size + 1) (verC v) 33 := by
    have h := Row.new (w.alloc (.cells (verC x) 33)) (verC v) 33
    rw [World.size_alloc] at h
    exact h
  have hb1 : Below w.heap.size w ((w.alloc (.cells (verC x) 33)).alloc (.cells (verC v) 33)) := ((Below.refl _ _).alloc (Nat.le_refl _) _).alloc (by simp) _
  obtain ⟨w1, hw1⟩ : ∃ y, y = (w.alloc (.cells (verC x) 33)).alloc (.cells (verC v) 33) := ⟨_, rfl⟩
  have hw1' := hw1.symm
  rw [← hw1] at hX hV hb1
  have hbu := refBump_ok v n w1 hs
  unfold bumpE at hbu
  have HBB : Hid (belowB x v n = if (bumpR v n).2 = 0 then decide (cmpV x (bumpR v n).1 < 0) else true) := rfl
  obtain ⟨⟨u, e0⟩, hu⟩ : ∃ y, y = bumpR v n := ⟨_, rfl⟩
  rw [← hu] at hbu HBB
  simp only at hbu HBB
  generalize belowB x v n = r at HBB ⊢
  have HB1 : Hid (Below w.heap.size w w1) := hb1
  have HX1 : Hid (Row w1 w.heap.size (verC x) 33) := hX
  clear hw1 hu hb1 hX hs
  go_enter Tryd.func38, Tryd.ntmps38
  go_wp2_with (first | refine wpList_load_row rfl 33 _ rfl (w.heap.size + 1) rfl 33 (verC v) (0, 0) _ hV Tryd.underlying33 rfl infoRs ?_ | fail)
  refine hbu.mono ?_
  rintro e w2 ⟨rfl, hb2⟩
  have hq : Below w1.heap.size w1 (w2.alloc (.cells (verC u) 33)) := hb2.alloc hb2.size _
  have hx3 : Row (w2.alloc (.cells (verC u) 33)) w.heap.size (verC x) 33 := Row.below HX1.out hq (Row.lt HX1.out)
  have hu3 : Row (w2.alloc (.cells (verC u) 33)) w2.heap.size (verC u) 33 := Row.new _ _ _
  have HB3 : Hid (Below w.heap.size w (w2.alloc (.cells (verC u) 33))) := HB1.out.trans (hq.mono HB1.out.size)
  clear hbu hb2 hq hV
  go_upto_region 2 with (refine wpList_store_new rfl 33 _ _ rfl w2 zeroC (verC u) 33 rfl w2.heap.size rfl rfl rfl infoRs rfl (verC_one _) ?_)
  obtain ⟨w3, hw3⟩ : ∃ y, y = w2.alloc (.cells (verC u) 33) := ⟨_, rfl⟩
  rw [← hw3] at hx3 hu3 HB3
  rw [← hw3]
  clear hw3
  by_cases h0 : e0 = 0
  · subst h0
    have hcm := refCompare_ok x u w3
    have HRR : Hid (r = decide (cmpV x u < 0)) := by show _ = _; rw [HBB.out, if_pos rfl]
    generalize cmpV x u = cz at hcm HRR
    go_wp2_with (first | refine wpList_load_wanted (by rfl) 33 _ rfl w.heap.size rfl 33 (verC x) _ hx3 Tryd.underlying33 rfl infoRs ?_ | refine wpList_load_wanted (by rfl) 33 _ rfl w2.heap.size rfl 33 (verC u) _ hu3 Tryd.underlying33 rfl infoRs ?_ | fail)
    refine hcm.mono ?_
    rintro e w4 ⟨rfl, hb4⟩
    clear hcm
    go_wp2
    go_ret
    exact ⟨by rw [HRR.out]; rfl, HB3.out.trans (hb4.mono HB3.out.size)⟩
  · have h0' := beqI h0
    have HRR : Hid (r = true) := by show _ = _; rw [HBB.out, if_neg h0]
    go_wp2
    go_ret
    exact ⟨by rw [HRR.out]; rfl, HB3.out⟩
/-- A piece that begins at a version and ends ahead of Bump. -/
theorem has_ahead {v x : Ver} (n : Int) (hx : mayV x = true) : hasV [⟨1, v⟩, aheadB v n] x = (decide (0 ≤ cmpV x v) && belowB x v n) := by
  unfold hasV
  rw [hx, Bool.true_and, inn_two]
  have e1 : decide (le ⟨1, v⟩ ⟨1, x⟩) = decide (0 ≤ cmpV x v) := by
    have hc : ordC ⟨1, v⟩ ⟨1, x⟩ = cmpV v x := by
      by_cases h : v = x
      · rw [ord_side (a := ⟨1, v⟩) (b := ⟨1, x⟩) rfl h, h, (cmpV_zero x x).2 rfl]
        rfl
      · rw [ord_ver (a := ⟨1, v⟩) (b := ⟨1, x⟩) rfl h]
    have ha := preV.anti v x
    have hl : le ⟨1, v⟩ ⟨1, x⟩ ↔ cmpV v x ≤ 0 := by
      show ordC ⟨1, v⟩ ⟨1, x⟩ ≤ 0 ↔ _
      rw [hc]
    by_cases k : cmpV v x ≤ 0
    · rw [decide_eq_true (hl.2 k), decide_eq_true (by omega)]
    · rw [decide_eq_false (fun h => k (hl.1 h)), decide_eq_false (by omega)]
  have e2 : (!decide (le (aheadB v n) ⟨1, x⟩)) = belowB x v n := by
    unfold aheadB belowB
    by_cases h0 : (bumpR v n).2 = 0
    · rw [if_pos h0, if_pos h0]
      have hc : ordC ⟨1, (bumpR v n).1⟩ ⟨1, x⟩ = cmpV (bumpR v n).1 x := by
        by_cases h : (bumpR v n).1 = x
        · rw [ord_side (a := ⟨1, (bumpR v n).1⟩) (b := ⟨1, x⟩) rfl h, h, (cmpV_zero x x).2 rfl]
          rfl
        · rw [ord_ver (a := ⟨1, (bumpR v n).1⟩) (b := ⟨1, x⟩) rfl h]
      have ha := preV.anti (bumpR v n).1 x
      have hl : le ⟨1, (bumpR v n).1⟩ ⟨1, x⟩ ↔ cmpV (bumpR v n).1 x ≤ 0 := by
        show ordC ⟨1, (bumpR v n).1⟩ ⟨1, x⟩ ≤ 0 ↔ _
        rw [hc]
      by_cases k : cmpV (bumpR v n).1 x ≤ 0
      · rw [decide_eq_true (hl.2 k), decide_eq_false (by omega)]
        rfl
      · rw [decide_eq_false (fun h => k (hl.1 h)), decide_eq_true (by omega)]
        rfl
    · rw [if_neg h0, if_neg h0]
      rw [decide_eq_false (fun h => lt_irr fin (lt_le_trans (le_lt h (lt_fin 1 x (Or.inl rfl))) (le_rfl _)))]
      rfl
  rw [e1, e2]
end Go.Proofs.YtdhmlcelofnkgaaDoor
namespace Go.Proofs.YtdhmlcelofnkgaaDoor
open Go.RowKit

/-- What an operation and a version have, by the document. -/
def hasO (op : By) (v x : Ver) : Bool :=
  if op = [42] then true else if op = [62, 61] then decide (0 ≤ cmpV x v) else if op = [60, 61] then decide (cmpV x v ≤ 0) else if op = [62] then decide (0 < cmpV x v) else if op = [60] then decide (cmpV x v < 0) else if op = [61] then decide (cmpV x v = 0)
  else if op = [126] then decide (0 ≤ cmpV x v) && belowB x v (if v.cnt = 1 then 1 else 2) else decide (0 ≤ cmpV x v) && belowB x v (firstP v)
theorem le_one (v x : Ver) : le ⟨1, v⟩ ⟨1, x⟩ ↔ cmpV v x ≤ 0 := by
  show ordC ⟨1, v⟩ ⟨1, x⟩ ≤ 0 ↔ _
  by_cases h : v = x
  · rw [ord_side (a := ⟨1, v⟩) (b := ⟨1, x⟩) rfl h, h, (cmpV_zero x x).2 rfl]
    exact Iff.rfl
  · rw [ord_ver (a := ⟨1, v⟩) (b := ⟨1, x⟩) rfl h]
theorem le_two (v x : Ver) : le ⟨2, v⟩ ⟨1, x⟩ ↔ cmpV v x < 0 := by
  show ordC ⟨2, v⟩ ⟨1, x⟩ ≤ 0 ↔ _
  by_cases h : v = x
  · rw [ord_side (a := ⟨2, v⟩) (b := ⟨1, x⟩) rfl h, h, (cmpV_zero x x).2 rfl]
    show cmpI 2 1 ≤ 0 ↔ _
    decide
  · have hz : cmpV v x ≠ 0 := fun e => h ((cmpV_zero v x).1 e)
    rw [ord_ver (a := ⟨2, v⟩) (b := ⟨1, x⟩) rfl h]
    show cmpV v x ≤ 0 ↔ _
    omega
theorem le_beg (x : Ver) : le beg ⟨1, x⟩ := lt_le (beg_lt 1 x (Or.inl rfl))
theorem le_end (x : Ver) : ¬ le fin ⟨1, x⟩ := fun h => lt_irr fin (lt_le_trans (le_lt h (lt_fin 1 x (Or.inl rfl))) (le_rfl _))
theorem has_all {x : Ver} (hx : mayV x = true) : hasV allC x = true := by
  show (mayV x && inn false [beg, fin] ⟨1, x⟩) = true
  rw [hx, inn_two, decide_eq_true (le_beg x), decide_eq_false (le_end x)]
  rfl
/-- What the program's set of a term has is what the document's term has. -/
theorem has_op {op : By} {v x : Ver} {L : List Cut} (hx : mayV x = true) (hc : 1 ≤ v.cnt) (h : opS op v = some L) : hasV L x = hasO op v x := by
  have ha := preV.anti v x
  have hb := preV.anti x v
  have two (a b : Cut) : hasV [a, b] x = (decide (le a ⟨1, x⟩) && !decide (le b ⟨1, x⟩)) := by
    unfold hasV
    rw [hx, Bool.true_and, inn_two]
  unfold opS at h
  by_cases h1 : op = [62, 61]
  · rw [if_pos h1] at h
    cases h
    subst h1
    rw [two, decide_eq_false (le_end x), Bool.not_false, Bool.and_true]
    show _ = decide (0 ≤ cmpV x v)
    rw [decide_eq_decide, le_one]
    omega
  rw [if_neg h1] at h
  by_cases h2 : op = [62]
  · rw [if_pos h2] at h
    cases h
    subst h2
    rw [two, decide_eq_false (le_end x), Bool.not_false, Bool.and_true]
    show _ = decide (0 < cmpV x v)
    rw [decide_eq_decide, le_two]
    omega
  rw [if_neg h2] at h
  by_cases h3 : op = [60, 61]
  · rw [if_pos h3] at h
    cases h
    subst h3
    rw [two, decide_eq_true (le_beg x), Bool.true_and, ← decide_not]
    show _ = decide (cmpV x v ≤ 0)
    rw [decide_eq_decide, le_two]
    omega
  rw [if_neg h3] at h
  by_cases h4 : op = [60]
  · rw [if_pos h4] at h
    cases h
    subst h4
    rw [two, decide_eq_true (le_beg x), Bool.true_and, ← decide_not]
    show _ = decide (cmpV x v < 0)
    rw [decide_eq_decide, le_one]
    omega
  rw [if_neg h4] at h
  by_cases h5 : op = [61]
  · rw [if_pos h5] at h
    cases h
    subst h5
    rw [two, ← decide_not, ← Bool.decide_and]
    show _ = decide (cmpV x v = 0)
    rw [decide_eq_decide, le_one, le_two]
    omega
  rw [if_neg h5] at h
  by_cases h6 : op = [94]
  · rw [if_pos h6] at h
    cases h
    subst h6
    rw [has_ahead _ hx]
    rfl
  rw [if_neg h6] at h
  by_cases h7 : op = [126]
  · rw [if_pos h7] at h
    cases h
    subst h7
    rw [has_ahead _ hx]
    have hm : min v.cnt 2 = if v.cnt = 1 then 1 else 2 := by
      split <;> omega
    rw [hm]
    rfl
  rw [if_neg h7] at h
  cases h
end Go.Proofs.YtdhmlcelofnkgaaDoor
namespace Go.Proofs.YtdhmlcelofnkgaaDoor
open Go.RowKit

/-- A text parted at a byte, with no bound. -/
def cutAll (c : UInt8) (l : By) : List By := splitB c l.length l
theorem cutAll_none {c : UInt8} {l : By} (h : cutAt c l = none) : cutAll c l = [l] := by
  unfold cutAll
  cases hl : l.length with
  | zero => rfl
  | succ k => unfold splitB; rw [h]
theorem cutAll_some {c : UInt8} {l a r : By} (h : cutAt c l = some (a, r)) : cutAll c l = a :: cutAll c r := by
  have h1 := (cutAt_back h).1
  have h2 : l.length = (r.length + a.length) + 1 := by rw [h1]; simp; omega
  unfold cutAll
  rw [h2]
  show (match cutAt c l with | none => [l] | some p => p.1 :: splitB c (r.length + a.length) p.2) = _
  rw [h]
  show a :: splitB c (r.length + a.length) r = _
  rw [← splitB_less (Nat.le_refl _) a.length]
theorem cutAll_pos (c : UInt8) (l : By) : 1 ≤ (cutAll c l).length := splitB_pos c _ l
/-- With a bound it is the same, or longer than the bound. -/
theorem split_all (c : UInt8) (k : Nat) : ∀ l : By, ((cutAll c l).length ≤ k + 1 ∧ splitB c k l = cutAll c l) ∨ (k + 1 < (cutAll c l).length ∧ (splitB c k l).length = k + 1) := by
  induction k with
  | zero =>
    intro l
    cases h : cutAt c l with
    | none => rw [cutAll_none h]; exact Or.inl ⟨Nat.le_refl _, rfl⟩
    | some p =>
      rw [cutAll_some (a := p.1) (r := p.2) h]
      have := cutAll_pos c p.2
      exact Or.inr ⟨by rw [List.length_cons]; omega, rfl⟩
  | succ k ih =>
    intro l
    cases h : cutAt c l with
    | none =>
      rw [cutAll_none h]
      refine Or.inl ⟨by simp, ?_⟩
      unfold splitB; rw [h]
    | some p =>
      rw [cutAll_some (a := p.1) (r := p.2) h]
      have e : splitB c (k + 1) l = p.1 :: splitB c k p.2 := by rw [splitB, h]
      rw [e]
      rcases ih p.2 with ⟨h1, h2⟩ | ⟨h1, h2⟩
      · exact Or.inl ⟨by rw [List.length_cons]; omega, by rw [h2]⟩
      · exact Or.inr ⟨by rw [List.length_cons]; omega, by rw [List.length_cons, h2]⟩
theorem split16 (c : UInt8) (l : By) : (16 < (cutAll c l).length ∧ 16 < (splitB c 16 l).length) ∨ ((cutAll c l).length ≤ 16 ∧ splitB c 16 l = cutAll c l) := by
  rcases split_all c 16 l with ⟨h1, h2⟩ | ⟨h1, h2⟩
  · by_cases h : (cutAll c l).length ≤ 16
    · exact Or.inr ⟨h, h2⟩
    · exact Or.inl ⟨by omega, by rw [h2]; omega⟩
  · exact Or.inl ⟨by omega, by omega⟩
theorem cutAll_len (c : UInt8) : ∀ (n : Nat) (l : By), l.length = n → (cutAll c l).length ≤ n + 1 := by
  intro n
  induction n using Nat.strongRecOn with
  | ind n ih =>
    intro l hl
    cases h : cutAt c l with
    | none => rw [cutAll_none h]; simp
    | some p =>
      rw [cutAll_some (a := p.1) (r := p.2) h]
      have h1 := (cutAt_back (a := p.1) (r := p.2) h).1
      have h2 : l.length = p.1.length + (p.2.length + 1) := by rw [h1]; simp
      have := ih p.2.length (by omega) p.2 rfl
      rw [List.length_cons]
      omega
/-- The seven signs, in the document's order. -/
def signsR : List By := [[62, 61], [60, 61], [62], [60], [61], [94], [126]]
/-- The first sign that stands ahead of something, and what stands behind it. -/
def signR (l : By) : Option (By × By) := (signsR.find? fun g => decide (g.length < l.length) && (l.take g.length == g)).map fun g => (g, l.drop g.length)
def zeroVer : Ver := ⟨0, 0, 0, 0, 0, ⟨#[]⟩⟩
/-- What the document's term tells. -/
def termR (l : By) : Option (By × Ver) := if l = [42] then some ([42], zeroVer) else match signR l with
  | none => none
  | some p => match parseV p.2 with
    | none => none
    | some v => some (p.1, v)
theorem text_head {v : Ver} (h : May v) : ∃ d t, textV v = d :: t ∧ digB d = true := by
  have hp := parts_num h
  have hl := parts_len h
  have hc := h.cnt
  cases hP : partsV v with
  | nil => rw [hP] at hl; simp at hl; omega
  | cons x r =>
    have hx := hp x (by rw [hP]; exact List.mem_cons_self)
    obtain ⟨⟨h1, _⟩, _, h3⟩ := (isNum_iff x).1 hx
    cases hX : x with
    | nil => rw [hX] at h1; simp at h1
    | cons d t =>
      have hd := h3 d (by rw [hX]; exact List.mem_cons_self)
      have hj : ∃ t', joinP (partsV v) = d :: t' := by
        rw [hP, hX]
        cases r with
        | nil => exact ⟨t, rfl⟩
        | cons y r => exact ⟨t ++ 46 :: joinP (y :: r), by rw [joinP_cons _ (by simp)]; rfl⟩
      obtain ⟨t', ht⟩ := hj
      unfold textV
      rw [ht]
      exact ⟨d, _, rfl, hd⟩
theorem parse_head {l : By} {v : Ver} (h : parseV l = some v) : ∃ d t, l = d :: t ∧ digB d = true := by
  obtain ⟨h1, h2⟩ := parse_back h
  rw [← h2]
  exact text_head h1
theorem dig_ne {d : UInt8} (h : digB d = true) (c : UInt8) (hc : digB c = false) : ¬ d = c := fun e => by rw [e, hc] at h; cases h
theorem sign_dig {g : By} (hg : g ∈ signsR) {d : UInt8} (hd : digB d = true) (t : By) : signR (g ++ d :: t) = some (g, d :: t) := by
  have h61 : (d == 61) = false := by simpa using dig_ne hd 61 (by decide)
  unfold signsR at hg
  simp only [List.mem_cons, List.not_mem_nil, or_false] at hg
  rcases hg with rfl | rfl | rfl | rfl | rfl | rfl | rfl <;> simp [signR, signsR, List.find?, h61]
theorem sign_back {l : By} {p : By × By} (h : signR l = some p) : p.1 ∈ signsR ∧ l = p.1 ++ p.2 := by
  unfold signR at h
  cases hf : signsR.find? fun g => decide (g.length < l.length) && (l.take g.length == g) with
  | none => rw [hf] at h; cases h
  | some g =>
    rw [hf] at h
    cases h
    have h1 := List.find?_some hf
    simp only [Bool.and_eq_true, decide_eq_true_eq, beq_iff_eq] at h1
    refine ⟨List.mem_of_find?_eq_some hf, ?_⟩
    show l = g ++ l.drop g.length
    have h2 := h1.2
    conv => rhs; lhs; rw [← h2]
    rw [List.take_append_drop]
theorem idx_sign {g : By} (hg : g ∈ signsR) {d : UInt8} (hd : digB d = true) (t : By) : (g ++ d :: t).findIdx? digB = some g.length ∧ (g ++ d :: t).take g.length = g ∧ (g ++ d :: t).drop g.length = d :: t ∧ ¬ g ++ d :: t = [42] := by
  refine ⟨?_, by simp, by simp, ?_⟩
  · unfold signsR at hg
    simp only [List.mem_cons, List.not_mem_nil, or_false] at hg
    rcases hg with rfl | rfl | rfl | rfl | rfl | rfl | rfl <;> simp [List.findIdx?_cons, hd, show digB 62 = false from by decide, show digB 61 = false from by decide, show digB 60 = false from by decide, show digB 94 = false from by decide, show digB 126 = false from by decide]
  · intro e
    have h1 := congrArg List.length e
    rw [List.length_append] at h1
    unfold signsR at hg
    simp only [List.mem_cons, List.not_mem_nil, or_false] at hg
    rcases hg with rfl | rfl | rfl | rfl | rfl | rfl | rfl <;> simp at h1 <;> omega
theorem op_sign {g : By} (hg : g ∈ signsR) (v : Ver) : ∃ L, opS g v = some L := by
  unfold signsR at hg
  simp only [List.mem_cons, List.not_mem_nil, or_false] at hg
  rcases hg with rfl | rfl | rfl | rfl | rfl | rfl | rfl <;> exact ⟨_, rfl⟩
theorem sign_op {g : By} {v : Ver} {L : List Cut} (h : opS g v = some L) : g ∈ signsR := by
  unfold opS at h
  unfold signsR
  by_cases h1 : g = [62, 61]
  · subst h1; simp
  by_cases h2 : g = [62]
  · subst h2; simp
  by_cases h3 : g = [60, 61]
  · subst h3; simp
  by_cases h4 : g = [60]
  · subst h4; simp
  by_cases h5 : g = [61]
  · subst h5; simp
  by_cases h6 : g = [94]
  · subst h6; simp
  by_cases h7 : g = [126]
  · subst h7; simp
  rw [if_neg h1, if_neg h2, if_neg h3, if_neg h4, if_neg h5, if_neg h6, if_neg h7] at h
  cases h
theorem join_bytes (L : List By) (P : UInt8 → Prop) (h46 : P 46) (h : ∀ x ∈ L, ∀ b ∈ x, P b) : ∀ b ∈ joinP L, P b := by
  induction L with
  | nil => intro b hb; cases hb
  | cons x r ih =>
    cases r with
    | nil => exact h x List.mem_cons_self
    | cons y r =>
      show ∀ b ∈ x ++ 46 :: joinP (y :: r), P b
      intro b hb
      rcases List.mem_append.1 hb with hb | hb
      · exact h x List.mem_cons_self b hb
      · rcases List.mem_cons.1 hb with hb | hb
        · rw [hb]; exact h46
        · exact ih (fun z hz => h z (List.mem_cons_of_mem _ hz)) b hb
/-- The bytes of a version's text. -/
theorem text_bytes {v : Ver} (h1 : May v) : ∀ b ∈ textV v, 45 ≤ b.toNat ∧ b.toNat ≤ 122 := by
  unfold textV
  intro b hb
  rcases List.mem_append.1 hb with hb | hb
  · refine join_bytes (partsV v) (fun b => 45 ≤ b.toNat ∧ b.toNat ≤ 122) (by decide) (fun x hx b hb => ?_) b hb
    have := (digB_iff b).1 (((isNum_iff x).1 (parts_num h1 x hx)).2.2 b hb)
    omega
  · unfold tagT at hb
    split at hb
    · cases hb
    · rcases List.mem_cons.1 hb with hb | hb
      · rw [hb]; decide
      · rcases h1.tag with h3 | h3
        · rw [h3] at hb; cases hb
        · unfold tagB at h3
          rw [Bool.and_eq_true] at h3
          have h4 := List.all_eq_true.1 h3.2 b hb
          unfold tagC at h4
          rw [Bool.or_eq_true] at h4
          rcases h4 with h4 | h4
          · simp at h4
            omega
          · have := (digB_iff b).1 h4
            omega
theorem text_not {v : Ver} (h : May v) {c : UInt8} (hc : c.toNat < 45 ∨ 122 < c.toNat) : c ∉ textV v := fun k => by have := text_bytes h c k; omega
theorem term_text {g : By} (hg : g ∈ signsR) {v : Ver} (hv : May v) : termS (g ++ textV v) = opS g v := by
  obtain ⟨d, t, h1, h2⟩ := text_head hv
  obtain ⟨i1, i2, i3, i4⟩ := idx_sign hg h2 t
  unfold termS
  rw [h1, if_neg i4, i1]
  simp only
  rw [i3, i2, ← h1, parse_text hv]
/-- The program's term and the document's: neither is one, or both are. -/
theorem term_pair (l : By) : (termR l = none ∧ termS l = none) ∨ ∃ op v L, termR l = some (op, v) ∧ termS l = some L ∧ ((op = [42] ∧ v = zeroVer ∧ L = allC) ∨ (op ∈ signsR ∧ May v ∧ opS op v = some L)) := by
  by_cases h42 : l = [42]
  · subst h42
    exact Or.inr ⟨[42], zeroVer, allC, rfl, rfl, Or.inl ⟨rfl, rfl, rfl⟩⟩
  cases hR : termR l with
  | some p =>
    unfold termR at hR
    rw [if_neg h42] at hR
    cases hs : signR l with
    | none => rw [hs] at hR; cases hR
    | some q =>
      rw [hs] at hR
      simp only at hR
      cases hp : parseV q.2 with
      | none => rw [hp] at hR; cases hR
      | some v =>
        rw [hp] at hR
        cases hR
        obtain ⟨h1, h2⟩ := sign_back hs
        obtain ⟨d, t, h3, h4⟩ := parse_head hp
        obtain ⟨L, hL⟩ := op_sign h1 v
        refine Or.inr ⟨q.1, v, L, rfl, ?_, Or.inr ⟨h1, (parse_back hp).1, hL⟩⟩
        obtain ⟨i1, i2, i3, i4⟩ := idx_sign h1 h4 t
        rw [← h3, ← h2] at i1 i2 i3
        unfold termS
        rw [if_neg h42, i1]
        simp only
        rw [i3, hp]
        simp only
        rw [i2]
        exact hL
  | none =>
    refine Or.inl ⟨rfl, ?_⟩
    cases hS : termS l with
    | none => rfl
    | some L =>
      exfalso
      unfold termS at hS
      rw [if_neg h42] at hS
      cases hf : l.findIdx? digB with
      | none => rw [hf] at hS; cases hS
      | some k =>
        rw [hf] at hS
        simp only at hS
        cases hp : parseV (l.drop k) with
        | none => rw [hp] at hS; cases hS
        | some v =>
          rw [hp] at hS
          simp only at hS
          have hg := sign_op hS
          obtain ⟨d, t, h3, h4⟩ := parse_head hp
          have hs := sign_dig hg h4 t
          rw [← h3, List.take_append_drop] at hs
          unfold termR at hR
          rw [if_neg h42, hs] at hR
          simp only at hR
          rw [hp] at hR
          cases hR
end Go.Proofs.YtdhmlcelofnkgaaDoor
namespace Go.Proofs.YtdhmlcelofnkgaaDoor
open Go.RowKit

/-- Texts with a byte between. -/
def joinC (c : UInt8) : List By → By
  | [] => []
  | [x] => x
  | x :: y :: r => x ++ c :: joinC c (y :: r)
theorem joinC_cons (c : UInt8) (x : By) {r : List By} (h : r ≠ []) : joinC c (x :: r) = x ++ c :: joinC c r := by
  cases r with
  | nil => exact absurd rfl h
  | cons y r => rfl
theorem joinC_lib (c : UInt8) (L : List By) : Lib.join L [c] = joinC c L := by
  induction L with
  | nil => rfl
  | cons x r ih =>
    cases r with
    | nil => exact Lib.join_one x [c]
    | cons y r =>
      rw [Lib.join_cons]
      rw [Lib.join_cons] at ih
      show _ = x ++ c :: joinC c (y :: r)
      rw [← ih]
      rfl
theorem cut_join {c : UInt8} : ∀ (P : List By), P ≠ [] → (∀ x ∈ P, c ∉ x) → cutAll c (joinC c P) = P
  | [x], _, h => cutAll_none (cutAt_none (h x List.mem_cons_self))
  | x :: y :: r, _, h => by
    show cutAll c (x ++ c :: joinC c (y :: r)) = _
    rw [cutAll_some (cutAt_some (h x List.mem_cons_self) _), cut_join (y :: r) (by simp) fun z hz => h z (List.mem_cons_of_mem _ hz)]
theorem count_join {c : UInt8} : ∀ (P : List By), P ≠ [] → (∀ x ∈ P, c ∉ x) → (joinC c P).count c + 1 = P.length
  | [x], _, h => by rw [show joinC c [x] = x from rfl, List.count_eq_zero_of_not_mem (h x List.mem_cons_self)]; rfl
  | x :: y :: r, _, h => by
    show (x ++ c :: joinC c (y :: r)).count c + 1 = _
    have := count_join (y :: r) (by simp) fun z hz => h z (List.mem_cons_of_mem _ hz)
    rw [List.count_append, List.count_cons_self, List.count_eq_zero_of_not_mem (h x List.mem_cons_self)]
    rw [List.length_cons (a := x)]
    omega
theorem split_join {c : UInt8} {P : List By} (h0 : P ≠ []) (h : ∀ x ∈ P, c ∉ x) : (16 < P.length ∧ 16 < (splitB c 16 (joinC c P)).length) ∨ (P.length ≤ 16 ∧ splitB c 16 (joinC c P) = P) := by
  have h1 := split16 c (joinC c P)
  rw [cut_join P h0 h] at h1
  exact h1
/-- What is told of a piece's beginning, and of its end. -/
def lowT (c : Cut) : List By := if c.side = 1 then [[62, 61] ++ textV c.v] else if c.side = 2 then [[62] ++ textV c.v] else []
def uppT (c : Cut) : List By := if c.side = 1 then [[60] ++ textV c.v] else if c.side = 2 then [[60, 61] ++ textV c.v] else []
def pieceT (a b : Cut) : By := if a = ⟨1, b.v⟩ ∧ b.side = 2 then [61] ++ textV a.v else if lowT a ++ uppT b = [] then [42] else joinC 44 (lowT a ++ uppT b)
def piecesT : List Cut → List By
  | a :: b :: r => pieceT a b :: piecesT r
  | _ => []
def noneT : By := [62, 48, 45, 48, 44, 60, 48, 45, 48]
/-- A set's text. -/
def setT (L : List Cut) : By := if L = [] then noneT else joinC 124 (piecesT L)
theorem alt_one {x : By} {L : List Cut} (h : (44 : UInt8) ∉ x) (ht : termS x = some L) : altS x = some L := by
  unfold altS gatherS
  have : splitB 44 16 x = [x] := by rw [splitB, cutAt_none h]
  rw [this, if_neg (by rw [List.length_singleton]; omega), gath1_cons, ht]
  rfl
theorem alt_two {x y : By} {L M : List Cut} (h : (44 : UInt8) ∉ x) (k : (44 : UInt8) ∉ y) (hx : termS x = some L) (hy : termS y = some M) : altS (x ++ 44 :: y) = some (andS L M) := by
  unfold altS gatherS
  have : splitB 44 16 (x ++ 44 :: y) = [x, y] := by rw [splitB, cutAt_some h]; show x :: splitB 44 15 y = _; rw [splitB, cutAt_none k]
  rw [this, if_neg (by simp), gath1_cons, hx]
  simp only [gathL, hy]
theorem and_piece {a b : Cut} (ha : CutOk a) (hb : CutOk b) (h : lt a b) (h1 : lt a fin) (h2 : lt beg b) : andS [a, fin] [beg, b] = [a, b] := by
  refine set_one (and_good (piece_ok ha fin_ok h1) (piece_ok beg_ok hb h2)) (piece_ok ha hb h) fun p => ?_
  rw [and_inn (piece_ok ha fin_ok h1) (piece_ok beg_ok hb h2), inn_two, inn_two, inn_two]
  by_cases c1 : le a p
  · have c2 : le beg p := le_trans (beg_le ha) c1
    by_cases c3 : le fin p
    · have c4 : le b p := le_trans (le_fin hb) c3
      simp [c1, c2, c3, c4]
    · simp [c1, c2, c3]
  · simp [c1]
theorem sg1 : [62, 61] ∈ signsR := by simp [signsR]
theorem sg2 : [62] ∈ signsR := by simp [signsR]
theorem sg3 : [60] ∈ signsR := by simp [signsR]
theorem sg4 : [60, 61] ∈ signsR := by simp [signsR]
theorem sg5 : [61] ∈ signsR := by simp [signsR]
theorem sign_not {g : By} (hg : g ∈ signsR) {c : UInt8} (hc : c = 44 ∨ c = 124) : c ∉ g := by
  unfold signsR at hg
  simp only [List.mem_cons, List.not_mem_nil, or_false] at hg
  rcases hc with rfl | rfl <;> rcases hg with rfl | rfl | rfl | rfl | rfl | rfl | rfl <;> decide
theorem opt_not {g : By} (hg : g ∈ signsR) {v : Ver} (hv : May v) {c : UInt8} (hc : c = 44 ∨ c = 124) : c ∉ g ++ textV v := fun k => by
  rcases List.mem_append.1 k with k | k
  · exact sign_not hg hc k
  · rcases hc with rfl | rfl
    · exact text_not hv (Or.inl (by decide)) k
    · exact text_not hv (Or.inr (by decide)) k
/-- A piece's text is an alternative that is the piece. -/
theorem alt_piece {a b : Cut} (ha : CutOk a) (hb : CutOk b) (h : lt a b) : altS (pieceT a b) = some [a, b] ∧ (124 : UInt8) ∉ pieceT a b := by
  unfold pieceT
  by_cases he : a = ⟨1, b.v⟩ ∧ b.side = 2
  · rw [if_pos he]
    obtain ⟨e1, e2⟩ := he
    have hv : May b.v := by
      rcases hb with ⟨h0, _⟩ | ⟨h3, _⟩ | ⟨_, h⟩
      · rw [h0] at e2; exact absurd e2 (by decide)
      · rw [h3] at e2; exact absurd e2 (by decide)
      · exact h
    have hav : a.v = b.v := by rw [e1]
    rw [hav]
    refine ⟨alt_one (opt_not sg5 hv (Or.inl rfl)) ((term_text sg5 hv).trans ?_), opt_not sg5 hv (Or.inr rfl)⟩
    have hbb : b = ⟨2, b.v⟩ := (cut_eq _ _).2 ⟨e2, rfl⟩
    rw [e1]
    conv => rhs; rw [hbb]
    rfl
  · rw [if_neg he]
    have lowA : a = beg ∨ ∃ g, g ∈ signsR ∧ May a.v ∧ lowT a = [g ++ textV a.v] ∧ opS g a.v = some [a, fin] ∧ lt a fin := by
      rcases ha with ⟨h0, hz⟩ | ⟨h3, hz⟩ | ⟨h12, hm⟩
      · exact Or.inl ((cut_eq _ _).2 ⟨h0, hz⟩)
      · exfalso
        have : a = fin := (cut_eq _ _).2 ⟨h3, hz⟩
        rw [this] at h
        exact lt_irr fin (lt_le_trans h (le_fin hb))
      · refine Or.inr ?_
        rcases h12 with h1 | h2
        · have e : a = ⟨1, a.v⟩ := (cut_eq _ _).2 ⟨h1, rfl⟩
          exact ⟨[62, 61], sg1, hm, by unfold lowT; rw [if_pos h1], (by rw [e]; rfl), by rw [e]; exact lt_fin 1 _ (Or.inl rfl)⟩
        · have e : a = ⟨2, a.v⟩ := (cut_eq _ _).2 ⟨h2, rfl⟩
          exact ⟨[62], sg2, hm, by unfold lowT; rw [if_neg (by omega), if_pos h2], (by rw [e]; rfl), by rw [e]; exact lt_fin 2 _ (Or.inr rfl)⟩
    have uppB : b = fin ∨ ∃ g, g ∈ signsR ∧ May b.v ∧ uppT b = [g ++ textV b.v] ∧ opS g b.v = some [beg, b] ∧ lt beg b := by
      rcases hb with ⟨h0, hz⟩ | ⟨h3, hz⟩ | ⟨h12, hm⟩
      · exfalso
        have : b = beg := (cut_eq _ _).2 ⟨h0, hz⟩
        rw [this] at h
        exact lt_irr beg (le_lt (beg_le ha) h)
      · exact Or.inl ((cut_eq _ _).2 ⟨h3, hz⟩)
      · refine Or.inr ?_
        rcases h12 with h1 | h2
        · have e : b = ⟨1, b.v⟩ := (cut_eq _ _).2 ⟨h1, rfl⟩
          exact ⟨[60], sg3, hm, by unfold uppT; rw [if_pos h1], (by rw [e]; rfl), by rw [e]; exact beg_lt 1 _ (Or.inl rfl)⟩
        · have e : b = ⟨2, b.v⟩ := (cut_eq _ _).2 ⟨h2, rfl⟩
          exact ⟨[60, 61], sg4, hm, by unfold uppT; rw [if_neg (by omega), if_pos h2], (by rw [e]; rfl), by rw [e]; exact beg_lt 2 _ (Or.inr rfl)⟩
    rcases lowA with rfl | ⟨g, g1, g2, g3, g4, g5⟩
    · rcases uppB with rfl | ⟨k, k1, k2, k3, k4, k5⟩
      · refine ⟨?_, by decide⟩
        rfl
      · have e : lowT beg ++ uppT b = [k ++ textV b.v] := by rw [k3]; rfl
        rw [e, if_neg (by simp)]
        exact ⟨alt_one (opt_not k1 k2 (Or.inl rfl)) ((term_text k1 k2).trans k4), opt_not k1 k2 (Or.inr rfl)⟩
    · rcases uppB with rfl | ⟨k, k1, k2, k3, k4, k5⟩
      · have e : lowT a ++ uppT fin = [g ++ textV a.v] := by rw [g3]; rfl
        rw [e, if_neg (by simp)]
        exact ⟨alt_one (opt_not g1 g2 (Or.inl rfl)) ((term_text g1 g2).trans g4), opt_not g1 g2 (Or.inr rfl)⟩
      · rw [g3, k3, if_neg (by simp)]
        refine ⟨(alt_two (opt_not g1 g2 (Or.inl rfl)) (opt_not k1 k2 (Or.inl rfl)) ((term_text g1 g2).trans g4) ((term_text k1 k2).trans k4)).trans ?_, ?_⟩
        · rw [and_piece ha hb h g5 k5]
        · intro hm
          rcases List.mem_append.1 hm with hm | hm
          · exact opt_not g1 g2 (Or.inr rfl) hm
          · rcases List.mem_cons.1 hm with hm | hm
            · exact absurd hm (by decide)
            · exact opt_not k1 k2 (Or.inr rfl) hm
/-- A list of cuts that may be, rises and is even is a set. -/
theorem set_of {L : List Cut} (hr : Rise L) (hok : ∀ c ∈ L, CutOk c) (he : L.length % 2 = 0) : SetOk L := by
  refine ⟨hr, hok, fun p hp => ?_⟩
  rw [inn_two]
  have h1 : le beg p := by
    by_cases k : ∃ c ∈ L, le c p
    · obtain ⟨c, hc, hcp⟩ := k
      exact le_trans (beg_le (hok c hc)) hcp
    · rw [inn_out false (fun c hc => not_le.1 fun h => k ⟨c, hc, h⟩)] at hp
      cases hp
  have h2 : ¬ le fin p := fun k => by
    rw [inn_even false L p (fun c hc => le_trans (le_fin (hok c hc)) k), if_pos he] at hp
    cases hp
  rw [decide_eq_true h1, decide_eq_false h2]
  rfl
theorem inn_app : ∀ (s : Bool) (A B : List Cut) (p : Cut), (∀ c ∈ A, le c p) → inn s (A ++ B) p = inn (if A.length % 2 = 0 then s else !s) B p := by
  intro s A
  induction A generalizing s with
  | nil => intro B p _; rfl
  | cons c r ih =>
    intro B p h
    rw [List.cons_append, inn_cons, if_pos (h c (List.mem_cons_self ..)), ih (!s) B p (fun x hx => h x (List.mem_cons_of_mem _ hx)), List.length_cons]
    by_cases k : r.length % 2 = 0
    · rw [if_pos k, if_neg (by omega)]
    · rw [if_neg k, if_pos (by omega), Bool.not_not]
theorem inn_far : ∀ (s : Bool) (A B : List Cut) (p : Cut), (∀ c ∈ B, lt p c) → inn s (A ++ B) p = inn s A p := by
  intro s A
  induction A generalizing s with
  | nil => intro B p h; rw [List.nil_append, inn_out s h]; rfl
  | cons c r ih =>
    intro B p h
    rw [List.cons_append, inn_cons, inn_cons]
    split
    · exact ih _ B p h
    · rfl
theorem or_piece {A : List Cut} {a b : Cut} (h : SetOk (A ++ [a, b])) (he : A.length % 2 = 0) (hA : SetOk A) (hB : SetOk [a, b]) : orS A [a, b] = A ++ [a, b] := by
  refine set_one (or_good hA hB) h fun p => ?_
  rw [or_inn hA hB]
  have hr := List.pairwise_append.1 h.rise
  have hab : lt a b := List.rel_of_pairwise_cons hr.2.1 (by simp)
  by_cases k : le a p
  · have h1 : ∀ c ∈ A, le c p := fun c hc => le_trans (lt_le (hr.2.2 c hc a (by simp))) k
    rw [inn_app false A [a, b] p h1, if_pos he, inn_even false A p h1, if_pos he, Bool.false_or]
  · have h2 : ∀ c ∈ [a, b], lt p c := by
      intro c hc
      have hpa := not_le.1 k
      rcases List.mem_cons.1 hc with rfl | hc
      · exact hpa
      · rw [List.mem_singleton.1 hc]; exact lt_trans hpa hab
    rw [inn_far false A [a, b] p h2, inn_out false h2, Bool.or_false]
theorem piecesT_len : ∀ (n : Nat) (L : List Cut), L.length = 2 * n → (piecesT L).length = n
  | 0, L, h => by rw [List.eq_nil_of_length_eq_zero (by omega : L.length = 0)]; rfl
  | n + 1, [], h => by simp at h
  | n + 1, [x], h => by simp at h; omega
  | n + 1, a :: b :: r, h => by
    show (piecesT r).length + 1 = n + 1
    rw [piecesT_len n r (by simp at h; omega)]
/-- The pieces' texts, joined, are the whole set. -/
theorem gath_pieces : ∀ (n : Nat) (R J : List Cut), R.length = 2 * n → J.length % 2 = 0 → SetOk (J ++ R) → gathL altS orS J (piecesT R) = some (J ++ R) ∧ ∀ x ∈ piecesT R, (124 : UInt8) ∉ x
  | 0, R, J, h, _, _ => by
    rw [List.eq_nil_of_length_eq_zero (by omega : R.length = 0), List.append_nil]
    exact ⟨rfl, fun x hx => by cases hx⟩
  | n + 1, [], J, h, _, _ => by simp at h
  | n + 1, [x], J, h, _, _ => by simp at h; omega
  | n + 1, a :: b :: r, J, h, hJ, hS => by
    have hr := List.pairwise_append.1 hS.rise
    have hab : lt a b := List.rel_of_pairwise_cons hr.2.1 (by simp)
    have ha := hS.ok a (by simp)
    have hb := hS.ok b (by simp)
    obtain ⟨p1, p2⟩ := alt_piece ha hb hab
    have e : J ++ a :: b :: r = (J ++ [a, b]) ++ r := by simp
    have hr2 := List.pairwise_append.1 (show Rise ((J ++ [a, b]) ++ r) from e ▸ hS.rise)
    have hS1 : SetOk (J ++ [a, b]) := set_of hr2.1 (fun c hc => hS.ok c (by rw [e]; exact List.mem_append_left _ hc)) (by rw [List.length_append]; simp; omega)
    have hS0 : SetOk J := set_of hr.1 (fun c hc => hS.ok c (List.mem_append_left _ hc)) hJ
    obtain ⟨i1, i2⟩ := gath_pieces n r (J ++ [a, b]) (by simp at h; omega) (by rw [List.length_append]; simp; omega) (e ▸ hS)
    refine ⟨?_, fun x hx => ?_⟩
    · show gathL altS orS J (pieceT a b :: piecesT r) = _
      rw [gathL, p1]
      simp only
      rw [or_piece hS1 hJ hS0 (piece_ok ha hb hab), i1, e]
    · rcases List.mem_cons.1 hx with rfl | hx
      · exact p2
      · exact i2 x hx
theorem none_back : rangeS noneT = some [] := by
  have h0 : May ⟨0, 0, 0, 0, 1, ⟨#[48]⟩⟩ := ⟨by decide, Or.inr (by decide), by decide, by decide, by decide, by decide⟩
  have ht : textV ⟨0, 0, 0, 0, 1, ⟨#[48]⟩⟩ = [48, 45, 48] := by
    have e : partsV ⟨0, 0, 0, 0, 1, ⟨#[48]⟩⟩ = [[48]] := by
      show [Lib.itoa ((0 : Nat) : Int)] = _
      rw [itoa_nat, dec_small (by decide)]
      rfl
    unfold textV
    rw [e]
    rfl
  have e : noneT = ([62] ++ textV ⟨0, 0, 0, 0, 1, ⟨#[48]⟩⟩) ++ 44 :: ([60] ++ textV ⟨0, 0, 0, 0, 1, ⟨#[48]⟩⟩) := by rw [ht]; rfl
  have ha : altS noneT = some (andS [⟨2, ⟨0, 0, 0, 0, 1, ⟨#[48]⟩⟩⟩, fin] [beg, ⟨1, ⟨0, 0, 0, 0, 1, ⟨#[48]⟩⟩⟩]) := by
    rw [e]
    exact alt_two (opt_not sg2 h0 (Or.inl rfl)) (opt_not sg3 h0 (Or.inl rfl)) ((term_text sg2 h0).trans rfl) ((term_text sg3 h0).trans rfl)
  have hs : splitB 124 16 noneT = [noneT] := by rw [splitB, cutAt_none (by decide)]
  unfold rangeS gatherS
  rw [hs, if_neg (by decide), gath1_cons, ha]
  show some (andS _ _) = some []
  congr 1
/-- A set's text is a range of that set, or has too many alternatives. -/
theorem set_back {L : List Cut} (hS : SetOk L) : (16 < (setT L).count 124 + 1 ∧ rangeS (setT L) = none) ∨ ((setT L).count 124 + 1 ≤ 16 ∧ rangeS (setT L) = some L) := by
  unfold setT
  by_cases h0 : L = []
  · rw [if_pos h0, h0]
    exact Or.inr ⟨by decide, none_back⟩
  · rw [if_neg h0]
    have hev := hS.even
    obtain ⟨n, hn⟩ : ∃ n, L.length = 2 * n := ⟨L.length / 2, by omega⟩
    obtain ⟨g1, g2⟩ := gath_pieces n L [] hn rfl hS
    have hpl := piecesT_len n L hn
    have hn0 : n ≠ 0 := fun e => h0 (List.eq_nil_of_length_eq_zero (by omega))
    have hp0 : piecesT L ≠ [] := fun e => by rw [e] at hpl; simp at hpl; omega
    rw [count_join _ hp0 g2]
    rcases split_join hp0 g2 with ⟨h1, h2⟩ | ⟨h1, h2⟩
    · exact Or.inl ⟨h1, by unfold rangeS gatherS; rw [if_pos h2]⟩
    · refine Or.inr ⟨h1, ?_⟩
      unfold rangeS gatherS
      rw [h2, if_neg (by omega)]
      match L, h0, g1, hS, hn with
      | [x], _, _, _, hn => simp at hn; omega
      | a :: b :: r, _, g1, hS, hn =>
        have hab : lt a b := List.rel_of_pairwise_cons hS.rise (by simp)
        obtain ⟨p1, p2⟩ := alt_piece (hS.ok a (by simp)) (hS.ok b (by simp)) hab
        show gath1 altS orS (pieceT a b :: piecesT r) = _
        rw [gath1_cons, p1]
        obtain ⟨i1, _⟩ := gath_pieces (n - 1) r [a, b] (by simp at hn; omega) (by simp) hS
        exact i1
end Go.Proofs.YtdhmlcelofnkgaaDoor
namespace Go.Proofs.YtdhmlcelofnkgaaDoor
open Go.RowKit

theorem one_back : rangeS [42, 124, 61, 49] = some allC := by
  have h0 : May ⟨1, 0, 0, 0, 1, ⟨#[]⟩⟩ := ⟨by decide, Or.inl rfl, by decide, by decide, by decide, by decide⟩
  have ht : textV ⟨1, 0, 0, 0, 1, ⟨#[]⟩⟩ = [49] := by
    have e : partsV ⟨1, 0, 0, 0, 1, ⟨#[]⟩⟩ = [[49]] := by
      show [Lib.itoa ((1 : Nat) : Int)] = _
      rw [itoa_nat, dec_small (by decide)]
      rfl
    unfold textV
    rw [e]
    rfl
  have h1 : altS [42] = some allC := alt_one (by decide) rfl
  have h2 : altS ([61] ++ textV ⟨1, 0, 0, 0, 1, ⟨#[]⟩⟩) = some [⟨1, ⟨1, 0, 0, 0, 1, ⟨#[]⟩⟩⟩, ⟨2, ⟨1, 0, 0, 0, 1, ⟨#[]⟩⟩⟩] := alt_one (opt_not sg5 h0 (Or.inl rfl)) ((term_text sg5 h0).trans rfl)
  rw [ht] at h2
  have hs : splitB 124 16 [42, 124, 61, 49] = [[42], [61, 49]] := by
    show splitB 124 16 ([42] ++ 124 :: [61, 49]) = _
    rw [splitB, cutAt_some (by decide)]
    show [42] :: splitB 124 15 [61, 49] = _
    rw [splitB, cutAt_none (by decide)]
  unfold rangeS gatherS
  rw [hs, if_neg (by decide), gath1_cons, h1]
  show gathL altS orS allC [[61] ++ [49]] = _
  rw [gathL, h2]
  show some (orS _ _) = some allC
  congr 1
theorem text_small {v : Ver} (h : May v) : (textV v).length ≤ 60 := by
  unfold textV
  rw [List.length_append]
  have h1 := join_small h
  have h2 : (tagT (vb v.tag)).length ≤ 13 := by
    unfold tagT
    split
    · exact Nat.zero_le _
    · rcases h.tag with h3 | h3
      · rw [List.length_cons, h3]; decide
      · unfold tagB at h3
        rw [Bool.and_eq_true, decide_eq_true_eq] at h3
        rw [List.length_cons]
        have := h3.1.2
        omega
  omega
theorem cut_text {c : Cut} (h : CutOk c) (k : c.side = 1 ∨ c.side = 2) : (textV c.v).length ≤ 60 := by
  rcases h with ⟨h0, _⟩ | ⟨h3, _⟩ | ⟨_, h⟩
  · rw [h0] at k; exact absurd k (by decide)
  · rw [h3] at k; exact absurd k (by decide)
  · exact text_small h
theorem piece_small {a b : Cut} (ha : CutOk a) (hb : CutOk b) : (pieceT a b).length ≤ 200 := by
  unfold pieceT
  split
  · rename_i h
    have : (textV a.v).length ≤ 60 := cut_text ha (Or.inl (by rw [h.1]))
    rw [List.length_append]
    simp
    omega
  · split
    · decide
    · unfold lowT uppT
      by_cases a1 : a.side = 1
      · have h1 := cut_text ha (Or.inl a1)
        rw [if_pos a1]
        by_cases b1 : b.side = 1
        · have h2 := cut_text hb (Or.inl b1)
          rw [if_pos b1]
          simp [joinC]; omega
        · rw [if_neg b1]
          by_cases b2 : b.side = 2
          · have h2 := cut_text hb (Or.inr b2)
            rw [if_pos b2]
            simp [joinC]; omega
          · rw [if_neg b2]
            simp [joinC]; omega
      · rw [if_neg a1]
        by_cases a2 : a.side = 2
        · have h1 := cut_text ha (Or.inr a2)
          rw [if_pos a2]
          by_cases b1 : b.side = 1
          · have h2 := cut_text hb (Or.inl b1)
            rw [if_pos b1]
            simp [joinC]; omega
          · rw [if_neg b1]
            by_cases b2 : b.side = 2
            · have h2 := cut_text hb (Or.inr b2)
              rw [if_pos b2]
              simp [joinC]; omega
            · rw [if_neg b2]
              simp [joinC]; omega
        · rw [if_neg a2]
          by_cases b1 : b.side = 1
          · have h2 := cut_text hb (Or.inl b1)
            rw [if_pos b1]
            simp [joinC]; omega
          · rw [if_neg b1]
            by_cases b2 : b.side = 2
            · have h2 := cut_text hb (Or.inr b2)
              rw [if_pos b2]
              simp [joinC]; omega
            · rw [if_neg b2]
              simp [joinC]
theorem joinC_small (c : UInt8) (N : Nat) : ∀ (P : List By), (∀ x ∈ P, x.length ≤ N) → (joinC c P).length ≤ (N + 1) * P.length
  | [], _ => Nat.zero_le _
  | [x], h => by
    have := h x (by simp)
    show x.length ≤ (N + 1) * 1
    omega
  | x :: y :: r, h => by
    have h1 := h x (by simp)
    have h2 := joinC_small c N (y :: r) fun z hz => h z (List.mem_cons_of_mem _ hz)
    show (x ++ c :: joinC c (y :: r)).length ≤ (N + 1) * ((y :: r).length + 1)
    rw [List.length_append, List.length_cons (a := c), Nat.mul_succ]
    omega
theorem pieces_small : ∀ (L : List Cut), (∀ c ∈ L, CutOk c) → ∀ x ∈ piecesT L, x.length ≤ 200
  | [], _ => fun x hx => by cases hx
  | [a], _ => fun x hx => by cases hx
  | a :: b :: r, h => fun x hx => by
    rcases List.mem_cons.1 hx with rfl | hx
    · exact piece_small (h a (by simp)) (h b (by simp))
    · exact pieces_small r (fun c hc => h c (by simp [hc])) x hx
theorem setT_small {L : List Cut} (hS : SetOk L) : (setT L).length ≤ 201 * (L.length + 1) := by
  unfold setT
  split
  · show 9 ≤ _; omega
  · have hev := hS.even
    have h1 := joinC_small 124 200 (piecesT L) (pieces_small L hS.ok)
    have h2 := piecesT_len (L.length / 2) L (by omega)
    rw [h2] at h1
    omega
end Go.Proofs.YtdhmlcelofnkgaaDoor
namespace Go.Proofs.YtdhmlcelofnkgaaDoor
open Go.RowKit Go.Shelf

/-- Join of texts in a row of one's own. -/
theorem join_any {B : Nat} {sv : Value} (P : List ByteArray) (c : UInt8) (w : World) (hown : w.ownsRow B 9 1 sv P.length (P.map Value.string)) (h0 : P ≠ []) (hs : (joinC c (P.map vb)).length ≤ 1000000) (hl : P.length ≤ 100000) : Calls Tryd.prog 26 #[sv, .string ⟨#[c]⟩] w fun e w' => e = .returned (.string (tx (joinC c (P.map vb)))) ∧ Below w.heap.size w w' := by
  have hp : 0 < P.length := List.length_pos_iff.2 h0
  obtain ⟨hx, ⟨_, h0⟩ | ⟨g, cap, cur, rfl, h2, h3, h4, h5, h6, h7⟩⟩ := hown
  · omega
  have hown : w.ownsRow B 9 1 (.slice (some ⟨g, 0, none⟩) P.length cap) P.length (P.map Value.string) := ⟨hx, .inr ⟨g, cap, cur, rfl, h2, h3, h4, h5, h6, h7⟩⟩
  have e : P.map (fun x => x.data.toList) = P.map vb := rfl
  have H := Any.strings_Join Tryd.lays156 Builder_Extra_156 g 0 cap P ⟨#[c]⟩ w (fun j x hj => by
    have hj' : j < P.length := (List.getElem?_eq_some_iff.1 hj).1
    rw [Nat.zero_add, hown.cellAt j (by omega), List.getElem?_map, hj]
    rfl) (Array.getElem?_eq_some_iff.1 h3).1 (by omega) (by simpa using h4) (by
      rw [e, show (⟨#[c]⟩ : ByteArray).data.toList = [c] from rfl, joinC_lib]
      omega)
  rw [e, show (⟨#[c]⟩ : ByteArray).data.toList = [c] from rfl, joinC_lib] at H
  exact H
theorem text_form (v : Ver) : ∃ (t : ByteArray) (n : Int), textE v = .tuple #[.string t, .int .i64 n] ∧ (May v → vb t = textV v) ∧ (vb t).length ≤ 60 := by
  cases h : mayV v with
  | true => exact ⟨tx (textV v), 0, textE_yes h, fun _ => vb_tx _, by rw [vb_tx]; exact text_small ((mayV_iff v).1 h)⟩
  | false => exact ⟨⟨#[]⟩, 20, textE_no h, (fun hm => by rw [(mayV_iff v).2 hm] at h; cases h), by decide⟩
theorem row_ver {w : World} {g : Nat} {c : Cut} (h : Row w g (cutC c) 62) : w.rangeAt g 1 (encV1 c.v) := fun j u hj => by
  have h6 : j < 6 := (List.getElem?_eq_some_iff.1 hj).1
  rw [h.cell (1 + j), ← hj]
  match j, h6 with
  | 0, _ => rfl
  | 1, _ => rfl
  | 2, _ => rfl
  | 3, _ => rfl
  | 4, _ => rfl
  | 5, _ => rfl
/-- What holds while a piece is told. -/
structure PcS (w : World) (a b : Cut) (wx : World) : Prop where
  a : Row wx w.heap.size (cutC a) 62
  b : Row wx (w.heap.size + 1) (cutC b) 62
  t : Pw wx
  old : Below w.heap.size w wx
theorem PcS.next {w : World} {a b : Cut} {wx w' : World} (h : PcS w a b wx) (hb : Below wx.heap.size wx w') : PcS w a b w' :=
  ⟨h.a.below hb h.a.lt, h.b.below hb h.b.lt, h.t.keep hb h.t.lt, h.old.trans (hb.mono h.old.size)⟩
theorem PcS.start (w : World) (a b : Cut) (hT : Pw w) : PcS w a b (twoC w a b) := by
  have hb : Below w.heap.size w (twoC w a b) := ((Below.refl _ _).alloc (Nat.le_refl _) _).alloc (by simp) _
  refine ⟨(Row.new w _ _).alloc _, ?_, hT.keep hb hT.lt, hb⟩
  have h := Row.new (w.alloc (.cells (cutC a) 62)) (cutC b) 62
  rw [World.size_alloc] at h
  exact h
theorem PcS.sideA {w : World} {a b : Cut} {wx : World} (h : PcS w a b wx) : wx.cell? ⟨w.heap.size, 0, none⟩ = some (.int .i64 a.side) := (h.a.cell 0).trans rfl
theorem PcS.sideB {w : World} {a b : Cut} {wx : World} (h : PcS w a b wx) : wx.cell? ⟨w.heap.size + 1, 0, none⟩ = some (.int .i64 b.side) := (h.b.cell 0).trans rfl
theorem wp_eqcV {w : World} {ops : Array Oper} {rest : List Oper} {o : Oper} {act : Act} {Q : Exit → Act → World → Prop} (a b : Cut) (r : Bool) (hr : decide (a = b) = r) (hgd : o.guard = none) (x y : Operand) (ho : o.op = .binOp .eql 62 x y 62) (hx : act.eval x = cutV a) (hy : act.eval y = cutV b)
    (k : wpList Tryd.prog ops Q rest (act.put o.dst (.bool r)) w) : wpList Tryd.prog ops Q (o :: rest) act w :=
  wp_eqc a b hgd x y ho hx hy (by rw [hr]; exact k)
theorem below_ap {w w5 : World} {v : Value} {o : Obj} (hg : (w.alloc o).grownBy w5 v.ownBlock) (hB : ∀ k, v.ownBlock = some k → w.heap.size ≤ k) : Below w.heap.size w w5 :=
  ((Below.refl _ _).alloc (Nat.le_refl _) o).trans (below_own' hg (by simp) hB)
end Go.Proofs.YtdhmlcelofnkgaaDoor
