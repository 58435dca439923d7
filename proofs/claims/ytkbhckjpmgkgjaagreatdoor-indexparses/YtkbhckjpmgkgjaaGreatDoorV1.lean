/- My own work: versions: what a version's text is; text and version are each other's. -/
import Derived.Test.YtkbhckjpmgkgjaaGreatDoorV0
namespace Go.Proofs.YtkbhckjpmgkgjaaGreatDoor

/-- Is it a digit? -/
def digB (b : UInt8) : Bool := decide (48 ≤ b.toNat) && decide (b.toNat ≤ 57)
/-- The number that digits tell. -/
def numG (n : Nat) (l : By) : Nat := l.foldl (fun n b => 10 * n + (b.toNat - 48)) n
abbrev numOf (l : By) : Nat := numG 0 l
/-- Is it a number's text? -/
def isNum (l : By) : Bool := decide (1 ≤ l.length ∧ l.length ≤ 9) && !(l.headD 0 == 48 && decide (1 < l.length)) && l.all digB
def tagC (b : UInt8) : Bool := (decide (97 ≤ b.toNat) && decide (b.toNat ≤ 122)) || digB b
/-- Is it a tag? -/
def tagB (l : By) : Bool := decide (1 ≤ l.length ∧ l.length ≤ 12) && l.all tagC

theorem digB_iff (b : UInt8) : digB b = true ↔ 48 ≤ b.toNat ∧ b.toNat ≤ 57 := by unfold digB; simp
theorem numG_append (n : Nat) (a b : By) : numG n (a ++ b) = numG (numG n a) b := List.foldl_append
theorem numG_one (n : Nat) (b : UInt8) : numG n [b] = 10 * n + (b.toNat - 48) := rfl
theorem ofNat_dig {k : Nat} (h : k < 10) : (UInt8.ofNat (48 + k)).toNat = 48 + k := by rw [UInt8.toNat_ofNat']; omega
theorem dig_back {b : UInt8} (h : digB b = true) : UInt8.ofNat (48 + (b.toNat - 48)) = b := by
  rw [digB_iff] at h
  rw [show 48 + (b.toNat - 48) = b.toNat by omega]
  exact UInt8.ofNat_toNat
theorem dec_small {u : Nat} (h : u < 10) : Lib.decDigits u = [UInt8.ofNat (48 + u)] := by rw [Lib.decDigits, dif_pos h]
theorem dec_big {u : Nat} (h : ¬ u < 10) : Lib.decDigits u = Lib.decDigits (u / 10) ++ [UInt8.ofNat (48 + u % 10)] := by rw [Lib.decDigits, dif_neg h]
theorem dec_dig (u : Nat) : ∀ b ∈ Lib.decDigits u, digB b = true := by
  induction u using Nat.strongRecOn with
  | _ u ih =>
    by_cases h : u < 10
    · rw [dec_small h]
      intro b hb
      rw [List.mem_singleton.1 hb, digB_iff, ofNat_dig h]
      omega
    · rw [dec_big h]
      intro b hb
      rcases List.mem_append.1 hb with hb | hb
      · exact ih (u / 10) (by omega) b hb
      · rw [List.mem_singleton.1 hb, digB_iff, ofNat_dig (Nat.mod_lt _ (by decide))]
        omega
theorem dec_num (u : Nat) : numOf (Lib.decDigits u) = u := by
  induction u using Nat.strongRecOn with
  | _ u ih =>
    by_cases h : u < 10
    · rw [dec_small h]
      show numG 0 [_] = _
      rw [numG_one, ofNat_dig h]
      omega
    · rw [dec_big h]
      show numG 0 (_ ++ _) = _
      rw [numG_append, numG_one, ofNat_dig (Nat.mod_lt _ (by decide))]
      have := ih (u / 10) (by omega)
      unfold numOf at this
      rw [this]
      omega
theorem dec_len (k : Nat) : ∀ u, u < 10 ^ (k + 1) → (Lib.decDigits u).length ≤ k + 1 := by
  induction k with
  | zero => intro u h; rw [dec_small (by omega)]; exact Nat.le_refl _
  | succ k ih =>
    intro u h
    by_cases h1 : u < 10
    · rw [dec_small h1]; show 1 ≤ _; omega
    · rw [dec_big h1, List.length_append]
      have := ih (u / 10) (by rw [Nat.pow_succ] at h; omega)
      show _ + 1 ≤ _
      omega
theorem dec_pos (u : Nat) : 1 ≤ (Lib.decDigits u).length := by
  by_cases h : u < 10
  · rw [dec_small h]; exact Nat.le_refl _
  · rw [dec_big h, List.length_append]; show 1 ≤ _ + 1; omega
theorem dec_one {u : Nat} (h : 1 < (Lib.decDigits u).length) : ¬ u < 10 := fun k => by rw [dec_small k] at h; simp at h
theorem dec_head (u : Nat) (h : 1 ≤ u) : (Lib.decDigits u).headD 0 ≠ 48 := by
  induction u using Nat.strongRecOn with
  | _ u ih =>
    by_cases h1 : u < 10
    · rw [dec_small h1]
      intro e
      have e2 : UInt8.ofNat (48 + u) = 48 := e
      have := congrArg UInt8.toNat e2
      rw [ofNat_dig h1] at this
      have : 48 + u = 48 := this
      omega
    · rw [dec_big h1]
      have := ih (u / 10) (by omega) (by omega)
      have hp := dec_pos (u / 10)
      cases hd : Lib.decDigits (u / 10) with
      | nil => rw [hd] at hp; exact absurd hp (by decide)
      | cons x r => rw [hd] at this; exact this
/-- A number's numeral is its text. -/
theorem dec_isNum {u : Nat} (h : u ≤ 999999999) : isNum (Lib.decDigits u) = true := by
  unfold isNum
  have h1 := dec_pos u
  have h2 := dec_len 8 u (by omega)
  rw [decide_eq_true ⟨h1, by omega⟩, List.all_eq_true.2 (dec_dig u)]
  by_cases h3 : 1 < (Lib.decDigits u).length
  · have h4 := dec_head u (by have := dec_one h3; omega)
    rw [beq_false_of_ne h4]
    rfl
  · rw [decide_eq_false h3, Bool.and_false]
    rfl
theorem num_lt (l : By) (h : ∀ b ∈ l, digB b = true) : numOf l < 10 ^ l.length := by
  suffices ∀ n, numG n l < (n + 1) * 10 ^ l.length by have := this 0; rwa [Nat.zero_add, Nat.one_mul] at this
  induction l with
  | nil => intro n; show n < (n + 1) * 1; omega
  | cons b l ih =>
    intro n
    have h1 := (digB_iff b).1 (h b (List.mem_cons_self ..))
    have h2 := ih (fun x hx => h x (List.mem_cons_of_mem _ hx)) (10 * n + (b.toNat - 48))
    show numG (10 * n + (b.toNat - 48)) l < _
    refine Nat.lt_of_lt_of_le h2 ?_
    rw [List.length_cons, Nat.pow_succ, Nat.mul_comm (10 ^ l.length) 10, ← Nat.mul_assoc]
    exact Nat.mul_le_mul_right _ (by omega)
theorem num_ge (n : Nat) (l : By) : n ≤ numG n l := by
  induction l generalizing n with
  | nil => exact Nat.le_refl _
  | cons b l ih => exact Nat.le_trans (by omega) (ih (10 * n + (b.toNat - 48)))
theorem num_pos {l : By} (h0 : l ≠ []) (h : ∀ b ∈ l, digB b = true) (hh : l.headD 0 ≠ 48) : 1 ≤ numOf l := by
  cases l with
  | nil => exact absurd rfl h0
  | cons b l =>
    have h1 := (digB_iff b).1 (h b (List.mem_cons_self ..))
    have h2 : b.toNat ≠ 48 := fun e => hh (UInt8.toNat_inj.1 e)
    refine Nat.le_trans ?_ (num_ge (10 * 0 + (b.toNat - 48)) l)
    omega
/-- Digits without noughts ahead are their number's numeral. -/
theorem dec_back (k : Nat) : ∀ l : By, l.length = k → l ≠ [] → (∀ b ∈ l, digB b = true) → (l.headD 0 ≠ 48 ∨ l.length = 1) → Lib.decDigits (numOf l) = l := by
  induction k with
  | zero => intro l hl h0; exact absurd (List.eq_nil_of_length_eq_zero hl) h0
  | succ k ih =>
    intro l hl h0 hd hh
    obtain ⟨r, b, rfl⟩ : ∃ r b, l = r ++ [b] := ⟨l.dropLast, l.getLast h0, (List.dropLast_concat_getLast h0).symm⟩
    have hb := hd b (by simp)
    have hb1 := (digB_iff b).1 hb
    have hrd : ∀ x ∈ r, digB x = true := fun x hx => hd x (List.mem_append_left _ hx)
    have hn : numOf (r ++ [b]) = 10 * numOf r + (b.toNat - 48) := by
      show numG 0 _ = _
      rw [numG_append, numG_one]
    rw [hn]
    by_cases hr : r = []
    · subst hr
      show Lib.decDigits (10 * 0 + (b.toNat - 48)) = [b]
      rw [Nat.mul_zero, Nat.zero_add, dec_small (by omega), dig_back hb]
    · have hl1 : (r ++ [b]).length ≠ 1 := by
        rw [List.length_append]
        have : r.length ≠ 0 := fun e => hr (List.eq_nil_of_length_eq_zero e)
        show r.length + 1 ≠ 1
        omega
      have hrh : r.headD 0 ≠ 48 := by
        rcases hh with hh | hh
        · cases r with
          | nil => exact absurd rfl hr
          | cons x r => exact hh
        · exact absurd hh hl1
      have hp := num_pos hr hrd hrh
      rw [dec_big (by omega), show (10 * numOf r + (b.toNat - 48)) / 10 = numOf r by omega, show (10 * numOf r + (b.toNat - 48)) % 10 = b.toNat - 48 by omega, dig_back hb]
      rw [ih r (by rw [List.length_append] at hl; have : r.length + 1 = k + 1 := hl; omega) hr hrd (Or.inl hrh)]
theorem isNum_iff (l : By) : isNum l = true ↔ (1 ≤ l.length ∧ l.length ≤ 9) ∧ (l.headD 0 ≠ 48 ∨ l.length ≤ 1) ∧ ∀ b ∈ l, digB b = true := by
  unfold isNum
  rw [Bool.and_eq_true, Bool.and_eq_true, decide_eq_true_eq, List.all_eq_true, Bool.not_eq_true', Bool.and_eq_false_iff, and_assoc]
  refine and_congr_right fun _ => and_congr_left fun _ => or_congr ?_ ?_
  · exact beq_eq_false_iff_ne
  · rw [decide_eq_false_iff_not]; omega
theorem isNum_back {l : By} (h : isNum l = true) : Lib.decDigits (numOf l) = l ∧ numOf l ≤ 999999999 := by
  obtain ⟨⟨h1, h2⟩, h3, h4⟩ := (isNum_iff l).1 h
  refine ⟨dec_back l.length l rfl (fun e => by rw [e] at h1; exact absurd h1 (by decide)) h4 (by rcases h3 with h3 | h3; exact Or.inl h3; exact Or.inr (by omega)), ?_⟩
  have h5 := num_lt l h4
  have h6 : 10 ^ l.length ≤ 10 ^ 9 := Nat.pow_le_pow_right (by decide) h2
  have h7 : (10 : Nat) ^ 9 = 1000000000 := by decide
  omega
/-- A text parted at the first of a byte. -/
def cutAt (c : UInt8) : By → Option (By × By)
  | [] => none
  | b :: r => if b == c then some ([], r) else (cutAt c r).map fun p => (b :: p.1, p.2)
theorem cutAt_none {c : UInt8} {l : By} (h : c ∉ l) : cutAt c l = none := by
  induction l with
  | nil => rfl
  | cons b r ih =>
    unfold cutAt
    rw [beq_false_of_ne (fun e => h (by rw [← e]; exact List.mem_cons_self ..)), ih (fun k => h (List.mem_cons_of_mem _ k))]
    rfl
theorem cutAt_some {c : UInt8} {a : By} (h : c ∉ a) (r : By) : cutAt c (a ++ c :: r) = some (a, r) := by
  induction a with
  | nil => show (if c == c then _ else _) = _; rw [beq_self_eq_true]; rfl
  | cons b a ih =>
    show (if b == c then some ([], a ++ c :: r) else (cutAt c (a ++ c :: r)).map fun p => (b :: p.1, p.2)) = _
    rw [beq_false_of_ne (fun e => h (by rw [← e]; exact List.mem_cons_self ..)), ih (fun k => h (List.mem_cons_of_mem _ k))]
    rfl
theorem cutAt_back {c : UInt8} {l a r : By} (h : cutAt c l = some (a, r)) : l = a ++ c :: r ∧ c ∉ a := by
  induction l generalizing a with
  | nil => cases h
  | cons b l ih =>
    unfold cutAt at h
    by_cases e : b = c
    · subst e
      rw [beq_self_eq_true] at h
      injection h with h
      injection h with h1 h2
      subst h1 h2
      exact ⟨rfl, by simp⟩
    · rw [beq_false_of_ne e] at h
      cases hc : cutAt c l with
      | none => rw [hc] at h; cases h
      | some p =>
        rw [hc] at h
        injection h with h
        injection h with h1 h2
        subst h1 h2
        obtain ⟨h3, h4⟩ := ih hc
        exact ⟨by rw [h3]; rfl, fun k => by rcases List.mem_cons.1 k with k | k; exact e k.symm; exact h4 k⟩
theorem cutAt_no {c : UInt8} {l : By} (h : cutAt c l = none) : c ∉ l := by
  induction l with
  | nil => simp
  | cons b l ih =>
    unfold cutAt at h
    by_cases e : b = c
    · subst e; rw [beq_self_eq_true] at h; cases h
    · rw [beq_false_of_ne e] at h
      cases hc : cutAt c l with
      | none => exact fun k => by rcases List.mem_cons.1 k with k | k; exact e k.symm; exact ih hc k
      | some p => rw [hc] at h; cases h
/-- A text parted at a byte, at most so many times. -/
def splitN : Nat → By → List By
  | 0, l => [l]
  | k + 1, l => match cutAt 46 l with
    | none => [l]
    | some p => p.1 :: splitN k p.2
theorem splitN_pos (k : Nat) (l : By) : 1 ≤ (splitN k l).length := by
  cases k with
  | zero => exact Nat.le_refl _
  | succ k =>
    unfold splitN
    split
    · exact Nat.le_refl _
    · rw [List.length_cons]; omega
theorem splitN_le (k : Nat) (l : By) : (splitN k l).length ≤ k + 1 := by
  induction k generalizing l with
  | zero => exact Nat.le_refl _
  | succ k ih =>
    unfold splitN
    split
    · show 1 ≤ _; omega
    · rw [List.length_cons]; have := ih ‹By × By›.2; omega
/-- Points between. -/
def joinP : List By → By
  | [] => []
  | [x] => x
  | x :: y :: r => x ++ 46 :: joinP (y :: r)
theorem joinP_cons (x : By) {r : List By} (h : r ≠ []) : joinP (x :: r) = x ++ 46 :: joinP r := by
  cases r with
  | nil => exact absurd rfl h
  | cons y r => rfl
theorem joinP_eq (L : List By) : Lib.join L [46] = joinP L := by
  induction L with
  | nil => rfl
  | cons x r ih =>
    cases r with
    | nil => exact Lib.join_one x [46]
    | cons y r =>
      rw [Lib.join_cons]
      rw [Lib.join_cons] at ih
      show _ = x ++ 46 :: joinP (y :: r)
      rw [← ih]
      rfl
theorem splitN_join (k : Nat) (l : By) : joinP (splitN k l) = l := by
  induction k generalizing l with
  | zero => rfl
  | succ k ih =>
    unfold splitN
    cases h : cutAt 46 l with
    | none => rfl
    | some p =>
      show joinP (p.1 :: splitN k p.2) = l
      rw [joinP_cons _ (fun e => by have := splitN_pos k p.2; rw [e] at this; exact absurd this (by decide)), ih]
      exact (cutAt_back (a := p.1) (r := p.2) h).1.symm
theorem join_splitN (k : Nat) (L : List By) (h0 : L ≠ []) (hk : L.length ≤ k + 1) (h : ∀ x ∈ L, (46 : UInt8) ∉ x) : splitN k (joinP L) = L := by
  induction k generalizing L with
  | zero =>
    match L, h0, hk with
    | [x], _, _ => rfl
  | succ k ih =>
    match L, h0 with
    | [x], _ =>
      unfold splitN
      rw [show joinP [x] = x from rfl, cutAt_none (h x (by simp))]
    | x :: y :: r, _ =>
      unfold splitN
      rw [show joinP (x :: y :: r) = x ++ 46 :: joinP (y :: r) from rfl, cutAt_some (h x (by simp))]
      show x :: splitN k (joinP (y :: r)) = _
      rw [ih (y :: r) (by simp) (by rw [List.length_cons] at hk; omega) (fun z hz => h z (List.mem_cons_of_mem _ hz))]
/-- A version of numbers and a tag. -/
def mkV (N : List Nat) (t : ByteArray) : Ver := ⟨N.getD 0 0, N.getD 1 0, N.getD 2 0, N.getD 3 0, N.length, t⟩
/-- What is parted off as a tag. -/
def cutTag (l : By) : By × By × Bool := match cutAt 45 l with
  | none => (l, [], false)
  | some p => (p.1, p.2, true)
/-- Parse. -/
def parseV (l : By) : Option Ver :=
  if (cutTag l).2.2 && !tagB (cutTag l).2.1 then none
  else if 4 < (splitN 4 (cutTag l).1).length then none
  else if (splitN 4 (cutTag l).1).all isNum then some (mkV ((splitN 4 (cutTag l).1).map numOf) ⟨(cutTag l).2.1.toArray⟩) else none
def numsV (v : Ver) : List Int := [v.n0, v.n1, v.n2, v.n3]
/-- May it be? -/
def mayV (v : Ver) : Bool := decide (1 ≤ v.cnt ∧ v.cnt ≤ 4) && (decide (vb v.tag = []) || tagB (vb v.tag)) &&
  (decide (0 ≤ v.n0 ∧ v.n0 ≤ 999999999 ∧ (v.cnt ≤ 0 → v.n0 = 0)) && decide (0 ≤ v.n1 ∧ v.n1 ≤ 999999999 ∧ (v.cnt ≤ 1 → v.n1 = 0)) && decide (0 ≤ v.n2 ∧ v.n2 ≤ 999999999 ∧ (v.cnt ≤ 2 → v.n2 = 0)) && decide (0 ≤ v.n3 ∧ v.n3 ≤ 999999999 ∧ (v.cnt ≤ 3 → v.n3 = 0)))
structure May (v : Ver) : Prop where
  cnt : 1 ≤ v.cnt ∧ v.cnt ≤ 4
  tag : vb v.tag = [] ∨ tagB (vb v.tag) = true
  n0 : 0 ≤ v.n0 ∧ v.n0 ≤ 999999999 ∧ (v.cnt ≤ 0 → v.n0 = 0)
  n1 : 0 ≤ v.n1 ∧ v.n1 ≤ 999999999 ∧ (v.cnt ≤ 1 → v.n1 = 0)
  n2 : 0 ≤ v.n2 ∧ v.n2 ≤ 999999999 ∧ (v.cnt ≤ 2 → v.n2 = 0)
  n3 : 0 ≤ v.n3 ∧ v.n3 ≤ 999999999 ∧ (v.cnt ≤ 3 → v.n3 = 0)
theorem mayV_iff (v : Ver) : mayV v = true ↔ May v := by
  unfold mayV
  simp only [Bool.and_eq_true, Bool.or_eq_true, decide_eq_true_eq]
  exact ⟨fun ⟨⟨h1, h2⟩, ⟨⟨⟨h3, h4⟩, h5⟩, h6⟩⟩ => ⟨h1, h2, h3, h4, h5, h6⟩, fun ⟨h1, h2, h3, h4, h5, h6⟩ => ⟨⟨h1, h2⟩, ⟨⟨⟨h3, h4⟩, h5⟩, h6⟩⟩⟩
theorem mk_may (a b c d k : Nat) (t : ByteArray) (ha : a ≤ 999999999) (hb : b ≤ 999999999) (hc : c ≤ 999999999) (hd : d ≤ 999999999) (hk : 1 ≤ k ∧ k ≤ 4) (hb0 : k ≤ 1 → b = 0) (hc0 : k ≤ 2 → c = 0) (hd0 : k ≤ 3 → d = 0) (ht : vb t = [] ∨ tagB (vb t) = true) : May ⟨a, b, c, d, k, t⟩ :=
  ⟨⟨by show (1 : Int) ≤ k; omega, by show (k : Int) ≤ 4; omega⟩, ht, ⟨by show (0 : Int) ≤ a; omega, by show (a : Int) ≤ _; omega, fun h => by have h : (k : Int) ≤ 0 := h; omega⟩,
    ⟨by show (0 : Int) ≤ b; omega, by show (b : Int) ≤ _; omega, fun h => by have h : (k : Int) ≤ 1 := h; show (b : Int) = 0; omega⟩,
    ⟨by show (0 : Int) ≤ c; omega, by show (c : Int) ≤ _; omega, fun h => by have h : (k : Int) ≤ 2 := h; show (c : Int) = 0; omega⟩,
    ⟨by show (0 : Int) ≤ d; omega, by show (d : Int) ≤ _; omega, fun h => by have h : (k : Int) ≤ 3 := h; show (d : Int) = 0; omega⟩⟩
/-- A tag with what stands ahead of it. -/
def tagT (t : By) : By := if t = [] then [] else 45 :: t
/-- The numbers that count, as texts. -/
def partsV (v : Ver) : List By := ((numsV v).take v.cnt.toNat).map fun n => Lib.itoa n
/-- Text. -/
def textV (v : Ver) : By := joinP (partsV v) ++ tagT (vb v.tag)
theorem itoa_nat (n : Nat) : Lib.itoa (n : Int) = Lib.decDigits n := by unfold Lib.itoa; rw [if_neg (by omega)]; simp
theorem nums_all {v : Ver} (h : May v) : ∀ n ∈ numsV v, 0 ≤ n ∧ n ≤ 999999999 := by
  intro n hn
  unfold numsV at hn
  simp only [List.mem_cons, List.not_mem_nil, or_false] at hn
  rcases hn with rfl | rfl | rfl | rfl
  · exact ⟨h.n0.1, h.n0.2.1⟩
  · exact ⟨h.n1.1, h.n1.2.1⟩
  · exact ⟨h.n2.1, h.n2.2.1⟩
  · exact ⟨h.n3.1, h.n3.2.1⟩
theorem parts_num {v : Ver} (h : May v) : ∀ x ∈ partsV v, isNum x = true := by
  intro x hx
  obtain ⟨n, hn, rfl⟩ := List.mem_map.1 hx
  obtain ⟨h1, h2⟩ := nums_all h n (List.mem_of_mem_take hn)
  obtain ⟨k, rfl⟩ := Int.eq_ofNat_of_zero_le h1
  rw [itoa_nat]
  exact dec_isNum (by omega)
theorem parts_len {v : Ver} (h : May v) : (partsV v).length = v.cnt.toNat := by
  unfold partsV
  rw [List.length_map, List.length_take]
  have := h.cnt
  show min _ 4 = _
  omega
theorem dig_not {x : By} (h : isNum x = true) {c : UInt8} (hc : digB c = false) : c ∉ x := fun k => by
  have := ((isNum_iff x).1 h).2.2 c k
  rw [hc] at this
  cases this
theorem join_not {L : List By} (h : ∀ x ∈ L, isNum x = true) : (45 : UInt8) ∉ joinP L := by
  induction L with
  | nil => simp [joinP]
  | cons x r ih =>
    cases r with
    | nil => exact dig_not (h x (by simp)) (by decide)
    | cons y r =>
      show (45 : UInt8) ∉ x ++ 46 :: joinP (y :: r)
      intro k
      rcases List.mem_append.1 k with k | k
      · exact dig_not (h x (by simp)) (by decide) k
      · rcases List.mem_cons.1 k with k | k
        · exact absurd k (by decide)
        · exact ih (fun z hz => h z (List.mem_cons_of_mem _ hz)) k
theorem cutTag_text {v : Ver} (h : May v) : cutTag (textV v) = (joinP (partsV v), vb v.tag, !decide (vb v.tag = [])) := by
  have hn := join_not (parts_num h)
  unfold cutTag textV tagT
  by_cases ht : vb v.tag = []
  · rw [if_pos ht, List.append_nil, cutAt_none hn, ht]
    rfl
  · rw [if_neg ht, cutAt_some hn, decide_eq_false ht]
    rfl
theorem parts_back {v : Ver} (h : May v) (t : ByteArray) (ht : vb t = vb v.tag) : mkV ((partsV v).map numOf) t = v := by
  obtain rfl := vb_inj ht
  obtain ⟨a, b, c, d, n, t⟩ := v
  obtain ⟨h1, h2, ⟨h3, h4, h5⟩, ⟨h6, h7, h8⟩, ⟨h9, h10, h11⟩, ⟨h12, h13, h14⟩⟩ := h
  simp only at *
  obtain ⟨a, rfl⟩ := Int.eq_ofNat_of_zero_le h3
  obtain ⟨b, rfl⟩ := Int.eq_ofNat_of_zero_le h6
  obtain ⟨c, rfl⟩ := Int.eq_ofNat_of_zero_le h9
  obtain ⟨d, rfl⟩ := Int.eq_ofNat_of_zero_le h12
  have hi : ∀ k : Nat, numOf (Lib.itoa (k : Int)) = k := fun k => by rw [itoa_nat, dec_num]
  have hn : n = 1 ∨ n = 2 ∨ n = 3 ∨ n = 4 := by omega
  unfold partsV numsV mkV
  rcases hn with rfl | rfl | rfl | rfl
  · simp only [show (1 : Int).toNat = 1 from rfl, List.take_succ_cons, List.take_zero, List.map_cons, List.map_nil, hi]
    rw [show b = 0 by omega, show c = 0 by omega, show d = 0 by omega]
    rfl
  · simp only [show (2 : Int).toNat = 2 from rfl, List.take_succ_cons, List.take_zero, List.map_cons, List.map_nil, hi]
    rw [show c = 0 by omega, show d = 0 by omega]
    rfl
  · simp only [show (3 : Int).toNat = 3 from rfl, List.take_succ_cons, List.take_zero, List.map_cons, List.map_nil, hi]
    rw [show d = 0 by omega]
    rfl
  · simp only [show (4 : Int).toNat = 4 from rfl, List.take_succ_cons, List.take_zero, List.map_cons, List.map_nil, hi]
    rfl
/-- A version's text is that version. -/
theorem parse_text {v : Ver} (h : May v) : parseV (textV v) = some v := by
  have h1 := parts_len h
  have hc := h.cnt
  have hs : splitN 4 (joinP (partsV v)) = partsV v := join_splitN 4 _ (fun e => by rw [e] at h1; simp at h1; omega) (by omega) (fun x hx => dig_not (parts_num h x hx) (by decide))
  unfold parseV
  rw [cutTag_text h]
  simp only
  rw [hs, if_neg, if_neg (by omega), if_pos (List.all_eq_true.2 (parts_num h)), parts_back h _ (by simp)]
  rw [Bool.and_eq_true]
  rintro ⟨k1, k2⟩
  rcases h.tag with e | e
  · rw [decide_eq_true e] at k1; cases k1
  · rw [e] at k2; cases k2
/-- What is read as a version may be, and has that text. -/
theorem parse_back {l : By} {v : Ver} (h : parseV l = some v) : May v ∧ textV v = l := by
  unfold parseV at h
  by_cases h1 : ((cutTag l).2.2 && !tagB (cutTag l).2.1) = true
  · rw [if_pos h1] at h; cases h
  · rw [if_neg h1] at h
    by_cases h2 : 4 < (splitN 4 (cutTag l).1).length
    · rw [if_pos h2] at h; cases h
    · rw [if_neg h2] at h
      by_cases h3 : (splitN 4 (cutTag l).1).all isNum = true
      · rw [if_pos h3] at h
        injection h with h
        have hj := splitN_join 4 (cutTag l).1
        have hp := splitN_pos 4 (cutTag l).1
        have htl : l = (cutTag l).1 ++ tagT (cutTag l).2.1 ∧ ((cutTag l).2.1 = [] ∨ tagB (cutTag l).2.1 = true) := by
          unfold cutTag at h1 ⊢
          cases hc : cutAt 45 l with
          | none => exact ⟨by show l = l ++ tagT []; unfold tagT; rw [if_pos rfl, List.append_nil], Or.inl rfl⟩
          | some p =>
            rw [hc] at h1
            have ht : tagB p.2 = true := by
              cases e : tagB p.2 with
              | true => rfl
              | false => exact absurd (by show (true && !tagB p.2) = true; rw [e]; rfl) h1
            refine ⟨?_, Or.inr ht⟩
            show l = p.1 ++ tagT p.2
            unfold tagT
            rw [if_neg (fun e => by rw [e] at ht; exact absurd ht (by decide))]
            exact (cutAt_back (a := p.1) (r := p.2) hc).1
        obtain ⟨htl, htag⟩ := htl
        generalize hL : splitN 4 (cutTag l).1 = L at h h2 h3 hj hp
        generalize hT : (cutTag l).2.1 = T at h htl htag
        generalize hX : (cutTag l).1 = X at hj htl
        have hb : ∀ x ∈ L, Lib.itoa ((numOf x : Nat) : Int) = x ∧ numOf x ≤ 999999999 := fun x hx => by
          have := isNum_back (List.all_eq_true.1 h3 x hx)
          rw [itoa_nat]
          exact this
        subst h
        clear hL hT hX h3 h1
        have hvt : vb (⟨T.toArray⟩ : ByteArray) = T := by simp
        have key : May (mkV (L.map numOf) ⟨T.toArray⟩) ∧ partsV (mkV (L.map numOf) ⟨T.toArray⟩) = L := by
          match L, hp, h2, hb with
          | [a], _, _, hb =>
            obtain ⟨a1, a2⟩ := hb a (by simp)
            refine ⟨mk_may (numOf a) 0 0 0 1 ⟨T.toArray⟩ a2 (by omega) (by omega) (by omega) (by omega) (by omega) (by omega) (by omega) (by rw [hvt]; exact htag), ?_⟩
            show [Lib.itoa ((numOf a : Nat) : Int)] = _
            rw [a1]
          | [a, b], _, _, hb =>
            obtain ⟨a1, a2⟩ := hb a (by simp)
            obtain ⟨b1, b2⟩ := hb b (by simp)
            refine ⟨mk_may (numOf a) (numOf b) 0 0 2 ⟨T.toArray⟩ a2 b2 (by omega) (by omega) (by omega) (by omega) (by omega) (by omega) (by rw [hvt]; exact htag), ?_⟩
            show [Lib.itoa ((numOf a : Nat) : Int), Lib.itoa ((numOf b : Nat) : Int)] = _
            rw [a1, b1]
          | [a, b, c], _, _, hb =>
            obtain ⟨a1, a2⟩ := hb a (by simp)
            obtain ⟨b1, b2⟩ := hb b (by simp)
            obtain ⟨c1, c2⟩ := hb c (by simp)
            refine ⟨mk_may (numOf a) (numOf b) (numOf c) 0 3 ⟨T.toArray⟩ a2 b2 c2 (by omega) (by omega) (by omega) (by omega) (by omega) (by rw [hvt]; exact htag), ?_⟩
            show [Lib.itoa ((numOf a : Nat) : Int), Lib.itoa ((numOf b : Nat) : Int), Lib.itoa ((numOf c : Nat) : Int)] = _
            rw [a1, b1, c1]
          | [a, b, c, d], _, _, hb =>
            obtain ⟨a1, a2⟩ := hb a (by simp)
            obtain ⟨b1, b2⟩ := hb b (by simp)
            obtain ⟨c1, c2⟩ := hb c (by simp)
            obtain ⟨d1, d2⟩ := hb d (by simp)
            refine ⟨mk_may (numOf a) (numOf b) (numOf c) (numOf d) 4 ⟨T.toArray⟩ a2 b2 c2 d2 (by omega) (by omega) (by omega) (by omega) (by rw [hvt]; exact htag), ?_⟩
            show [Lib.itoa ((numOf a : Nat) : Int), Lib.itoa ((numOf b : Nat) : Int), Lib.itoa ((numOf c : Nat) : Int), Lib.itoa ((numOf d : Nat) : Int)] = _
            rw [a1, b1, c1, d1]
          | _ :: _ :: _ :: _ :: _ :: r, _, h2, _ => exact absurd (by simp) h2
        refine ⟨key.1, ?_⟩
        unfold textV
        rw [key.2, hj, show (mkV (L.map numOf) ⟨T.toArray⟩).tag = ⟨T.toArray⟩ from rfl, hvt]
        exact htl.symm
      · rw [if_neg h3] at h; cases h
end Go.Proofs.YtkbhckjpmgkgjaaGreatDoor
