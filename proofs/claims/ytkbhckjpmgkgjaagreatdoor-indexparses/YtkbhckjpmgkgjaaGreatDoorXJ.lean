/- My own work: what the document's Parse and Has tell, and that the program's set has just the same versions. My own work: what the document's own Parse reads, byte by byte; of a version's text it is the version. My own work: the walk of the document's own Parse. My own work: the document's cut: a text between bytes of one kind. My own work: the document's own reading of an index's lines: what its words and its pack come to. My own work: the document's words of a line, by contract. -/
import Derived.Test.YtkbhckjpmgkgjaaGreatDoorXC
import Derived.Test.YtkbhckjpmgkgjaaGreatDoorR3
import Derived.Test.YtkbhckjpmgkgjaaGreatDoorPerm
import Derived.Test.YtkbhckjpmgkgjaaGreatDoorXH
namespace Go.Proofs.YtkbhckjpmgkgjaaGreatDoor
open Go.RowKit

/-- A term: its operation and its version. -/
abbrev Tm := By × Ver
/-- Each of a list, or none. -/
def mapO {α β : Type} (f : α → Option β) : List α → Option (List β)
  | [] => some []
  | x :: r => match f x with
    | none => none
    | some a => match mapO f r with
      | none => none
      | some l => some (a :: l)
theorem mapO_none {α β : Type} {f : α → Option β} {x : α} {r : List α} (h : f x = none) : mapO f (x :: r) = none := by rw [mapO, h]
theorem mapO_cons {α β : Type} {f : α → Option β} {x : α} {r : List α} {a : β} (h : f x = some a) : mapO f (x :: r) = (mapO f r).map (a :: ·) := by
  rw [mapO, h]
  cases mapO f r <;> rfl
def altR (l : By) : Option (List Tm) := if 16 < (cutAll 44 l).length then none else mapO termR (cutAll 44 l)
def parseR (l : By) : Option (List (List Tm)) := if 16 < (cutAll 124 l).length then none else mapO altR (cutAll 124 l)
def hasA (a : List Tm) (x : Ver) : Bool := a.all fun t => hasO t.1 t.2 x
def hasR (p : List (List Tm)) (x : Ver) : Bool := p.any fun a => hasA a x
section
variable {α : Type} {rd : By → Option (List Cut)} {rr : By → Option α} {f : Bool → Bool → Bool} {hs : α → Ver → Bool}
theorem gathL_pair (hf : f false false = false) (hp : ∀ l, (rr l = none ∧ rd l = none) ∨ ∃ a L, rr l = some a ∧ rd l = some L ∧ SetOk L ∧ ∀ x, mayV x = true → hasV L x = hs a x) (hj : ∀ A B x, SetOk A → SetOk B → hasV (mk2 f A B) x = f (hasV A x) (hasV B x)) :
    ∀ (P : List By) (J : List Cut), SetOk J → (mapO rr P = none ∧ gathL rd (mk2 f) J P = none) ∨ ∃ ls L, mapO rr P = some ls ∧ gathL rd (mk2 f) J P = some L ∧ SetOk L ∧ ∀ x, mayV x = true → hasV L x = ls.foldl (fun b a => f b (hs a x)) (hasV J x) := by
  intro P
  induction P with
  | nil => intro J hJ; exact Or.inr ⟨[], J, rfl, rfl, hJ, fun x _ => rfl⟩
  | cons y r ih =>
    intro J hJ
    rcases hp y with ⟨h1, h2⟩ | ⟨a, L, h1, h2, h3, h4⟩
    · exact Or.inl ⟨mapO_none h1, by rw [gathL, h2]⟩
    · have e : gathL rd (mk2 f) J (y :: r) = gathL rd (mk2 f) (mk2 f J L) r := by rw [gathL, h2]
      rw [e, mapO_cons h1]
      rcases ih (mk2 f J L) (mk2_ok hf hJ h3) with ⟨k1, k2⟩ | ⟨ls, M, k1, k2, k3, k4⟩
      · exact Or.inl ⟨by rw [k1]; rfl, k2⟩
      · refine Or.inr ⟨a :: ls, M, by rw [k1]; rfl, k2, k3, fun x hx => ?_⟩
        rw [k4 x hx, hj J L x hJ h3, h4 x hx]
        rfl
theorem gath1_pair (hf : f false false = false) (hp : ∀ l, (rr l = none ∧ rd l = none) ∨ ∃ a L, rr l = some a ∧ rd l = some L ∧ SetOk L ∧ ∀ x, mayV x = true → hasV L x = hs a x) (hj : ∀ A B x, SetOk A → SetOk B → hasV (mk2 f A B) x = f (hasV A x) (hasV B x)) :
    ∀ (P : List By), P ≠ [] → (mapO rr P = none ∧ gath1 rd (mk2 f) P = none) ∨ ∃ a ls L, mapO rr P = some (a :: ls) ∧ gath1 rd (mk2 f) P = some L ∧ SetOk L ∧ ∀ x, mayV x = true → hasV L x = ls.foldl (fun b a => f b (hs a x)) (hs a x) := by
  intro P h0
  cases P with
  | nil => exact absurd rfl h0
  | cons y r =>
    rw [gath1_cons]
    rcases hp y with ⟨h1, h2⟩ | ⟨a, L, h1, h2, h3, h4⟩
    · exact Or.inl ⟨mapO_none h1, by rw [h2]⟩
    · rw [h2, mapO_cons h1]
      rcases gathL_pair hf hp hj r L h3 with ⟨k1, k2⟩ | ⟨ls, M, k1, k2, k3, k4⟩
      · exact Or.inl ⟨by rw [k1]; rfl, k2⟩
      · exact Or.inr ⟨a, ls, M, by rw [k1]; rfl, k2, k3, fun x hx => by rw [k4 x hx, h4 x hx]⟩
theorem gather_pair (c : UInt8) (hf : f false false = false) (hp : ∀ l, (rr l = none ∧ rd l = none) ∨ ∃ a L, rr l = some a ∧ rd l = some L ∧ SetOk L ∧ ∀ x, mayV x = true → hasV L x = hs a x) (hj : ∀ A B x, SetOk A → SetOk B → hasV (mk2 f A B) x = f (hasV A x) (hasV B x)) (l : By) :
    ((if 16 < (cutAll c l).length then none else mapO rr (cutAll c l)) = none ∧ gatherS c rd (mk2 f) l = none) ∨ ∃ a ls L, (if 16 < (cutAll c l).length then none else mapO rr (cutAll c l)) = some (a :: ls) ∧ gatherS c rd (mk2 f) l = some L ∧ SetOk L ∧ ∀ x, mayV x = true → hasV L x = ls.foldl (fun b a => f b (hs a x)) (hs a x) := by
  unfold gatherS
  rcases split16 c l with ⟨h1, h2⟩ | ⟨h1, h2⟩
  · rw [if_pos h1, if_pos h2]
    exact Or.inl ⟨rfl, rfl⟩
  · rw [h2, if_neg (by omega), if_neg (by omega)]
    exact gath1_pair hf hp hj _ fun e => by
      have := cutAll_pos c l
      rw [e] at this
      exact absurd this (by decide)
end
theorem foldl_and {α : Type} (g : α → Bool) : ∀ (l : List α) (b : Bool), l.foldl (fun b a => b && g a) b = (b && l.all g)
  | [], b => by simp
  | a :: l, b => by
    rw [List.foldl_cons, foldl_and g l, List.all_cons, Bool.and_assoc]
theorem foldl_or {α : Type} (g : α → Bool) : ∀ (l : List α) (b : Bool), l.foldl (fun b a => b || g a) b = (b || l.any g)
  | [], b => by simp
  | a :: l, b => by
    rw [List.foldl_cons, foldl_or g l, List.any_cons, Bool.or_assoc]
theorem tm_pair (l : By) : (termR l = none ∧ termS l = none) ∨ ∃ a L, termR l = some a ∧ termS l = some L ∧ SetOk L ∧ ∀ x, mayV x = true → hasV L x = hasO a.1 a.2 x := by
  rcases term_pair l with h | ⟨op, v, L, h1, h2, h3⟩
  · exact Or.inl h
  · refine Or.inr ⟨(op, v), L, h1, h2, (termS_ok h2).1, fun x hx => ?_⟩
    rcases h3 with ⟨rfl, rfl, rfl⟩ | ⟨_, h4, h5⟩
    · rw [has_all hx]; rfl
    · exact has_op hx h4.cnt.1 h5
/-- Alternatives: neither is one, or both are, with the same versions. -/
theorem alt_pair (l : By) : (altR l = none ∧ altS l = none) ∨ ∃ a L, altR l = some a ∧ altS l = some L ∧ SetOk L ∧ ∀ x, mayV x = true → hasV L x = hasA a x := by
  rcases gather_pair (f := fAnd) (hs := fun (a : Tm) x => hasO a.1 a.2 x) 44 rfl tm_pair (fun A B x hA hB => has_and hA hB x) l with ⟨h1, h2⟩ | ⟨a, ls, L, h1, h2, h3, h4⟩
  · exact Or.inl ⟨h1, h2⟩
  · refine Or.inr ⟨a :: ls, L, h1, h2, h3, fun x hx => (h4 x hx).trans ?_⟩
    exact (foldl_and (fun a : Tm => hasO a.1 a.2 x) ls _).trans rfl
/-- Ranges: neither is one, or both are, with the same versions. -/
theorem range_pair (l : By) : (parseR l = none ∧ rangeS l = none) ∨ ∃ p L, parseR l = some p ∧ rangeS l = some L ∧ SetOk L ∧ ∀ x, mayV x = true → hasV L x = hasR p x := by
  rcases gather_pair (f := fOr) (hs := hasA) 124 rfl alt_pair (fun A B x hA hB => has_or hA hB x) l with ⟨h1, h2⟩ | ⟨a, ls, L, h1, h2, h3, h4⟩
  · exact Or.inl ⟨h1, h2⟩
  · refine Or.inr ⟨a :: ls, L, h1, h2, h3, fun x hx => (h4 x hx).trans ?_⟩
    exact (foldl_or (fun a => hasA a x) ls _).trans rfl
end Go.Proofs.YtkbhckjpmgkgjaaGreatDoor
namespace Go.Proofs.YtkbhckjpmgkgjaaGreatDoor

/-- One byte more. -/
def stepR (u : Ver) (b : UInt8) : Option Ver :=
  if b = 46 then (if 4 < u.cnt + 1 then none else some { u with cnt := u.cnt + 1 })
  else if digB b = true ∧ nAt u (u.cnt.toNat - 1) ≤ 999999999 then some (setN u (u.cnt.toNat - 1) (nAt u (u.cnt.toNat - 1) * 10 + ((b.toNat - 48 : Nat) : Int))) else none
/-- The bytes up to the end, or to a dash. -/
def refR : By → Ver → Option Ver
  | [], u => some u
  | b :: r, u => if b = 45 then some { u with tag := tx r } else (stepR u b).bind (refR r)
def startV : Ver := ⟨0, 0, 0, 0, 1, ⟨#[]⟩⟩
theorem refR_dash (r : By) (u : Ver) : refR (45 :: r) u = some { u with tag := tx r } := by unfold refR; rw [if_pos rfl]
theorem refR_point (r : By) (u : Ver) (h : u.cnt + 1 ≤ 4) : refR (46 :: r) u = refR r { u with cnt := u.cnt + 1 } := by
  rw [refR, if_neg (by decide)]
  unfold stepR
  rw [if_pos rfl, if_neg (by omega)]
  rfl
theorem refR_digit (b : UInt8) (r : By) (u : Ver) (hb : digB b = true) (h : nAt u (u.cnt.toNat - 1) ≤ 999999999) : refR (b :: r) u = refR r (setN u (u.cnt.toNat - 1) (nAt u (u.cnt.toNat - 1) * 10 + ((b.toNat - 48 : Nat) : Int))) := by
  have h1 := (digB_iff b).1 hb
  have h45 : ¬ b = 45 := fun e => by rw [e] at h1; exact absurd h1 (by decide)
  have h46 : ¬ b = 46 := fun e => by rw [e] at h1; exact absurd h1 (by decide)
  rw [refR, if_neg h45]
  unfold stepR
  rw [if_neg h46, if_pos ⟨hb, h⟩]
  rfl
theorem setN_cnt (u : Ver) (k : Nat) (y : Int) : (setN u k y).cnt = u.cnt := by unfold setN; split <;> rfl
theorem setN_tag (u : Ver) (k : Nat) (y : Int) : (setN u k y).tag = u.tag := by unfold setN; split <;> rfl
theorem setN_set (u : Ver) (k : Nat) (y z : Int) : setN (setN u k y) k z = setN u k z := by
  match k with
  | 0 => rfl
  | 1 => rfl
  | 2 => rfl
  | n + 3 => rfl
theorem setN_self (u : Ver) (k : Nat) : setN u k (nAt u k) = u := by
  match k with
  | 0 => rfl
  | 1 => rfl
  | 2 => rfl
  | n + 3 => rfl
theorem nAt_set (u : Ver) (k : Nat) (y : Int) : nAt (setN u k y) k = y := by
  match k with
  | 0 => rfl
  | 1 => rfl
  | 2 => rfl
  | n + 3 => rfl
/-- Digits, one behind another. -/
theorem refR_digits (l r : By) (hl : ∀ b ∈ l, digB b = true) : ∀ (u : Ver) (m : Nat), nAt u (u.cnt.toNat - 1) = (m : Int) → numG m l ≤ 999999999 → refR (l ++ r) u = refR r (setN u (u.cnt.toNat - 1) (numG m l : Nat)) := by
  induction l with
  | nil =>
    intro u m hm _
    show refR r u = refR r (setN u _ ((m : Nat) : Int))
    rw [← hm, setN_self]
  | cons b l ih =>
    intro u m hm hn
    have hge : m ≤ numG m (b :: l) := num_ge m (b :: l)
    have hb := hl b (List.mem_cons_self ..)
    show refR (b :: (l ++ r)) u = _
    rw [refR_digit b (l ++ r) u hb (by rw [hm]; omega), hm]
    have e : ((m : Int) * 10 + ((b.toNat - 48 : Nat) : Int)) = ((10 * m + (b.toNat - 48) : Nat) : Int) := by omega
    rw [e]
    have h2 := ih (fun x hx => hl x (List.mem_cons_of_mem _ hx)) (setN u (u.cnt.toNat - 1) ((10 * m + (b.toNat - 48) : Nat) : Int)) (10 * m + (b.toNat - 48)) (by rw [setN_cnt, nAt_set]) hn
    rw [h2, setN_cnt, setN_set]
    rfl
/-- A number's numeral, where nought stood. -/
theorem refR_num (n : Nat) (r : By) (u : Ver) (hn : n ≤ 999999999) (h0 : nAt u (u.cnt.toNat - 1) = 0) : refR (Lib.itoa (n : Int) ++ r) u = refR r (setN u (u.cnt.toNat - 1) (n : Int)) := by
  have e : numG 0 (Lib.decDigits n) = n := dec_num n
  rw [itoa_nat, refR_digits (Lib.decDigits n) r (dec_dig n) u 0 h0 (by rw [e]; exact hn), e]
theorem refR_tag (t : ByteArray) (u : Ver) (h : u.tag = ⟨#[]⟩) : refR (tagT (vb t)) u = some { u with tag := t } := by
  unfold tagT
  by_cases ht : vb t = []
  · rw [if_pos ht]
    have : t = ⟨#[]⟩ := vb_nil ht
    rw [this]
    show some u = _
    rw [← h]
  · rw [if_neg ht, refR_dash, tx_vb]
theorem refR_text {v : Ver} (h : May v) : refR (textV v) startV = some v := by
  obtain ⟨c, hc⟩ : ∃ c : Nat, v.cnt = (c : Int) := ⟨v.cnt.toNat, by have := h.cnt; omega⟩
  have hc4 : 1 ≤ c ∧ c ≤ 4 := by have := h.cnt; omega
  obtain ⟨n0, n1, n2, n3, cn, t⟩ := v
  obtain ⟨_, _, ⟨h3, h4, h5⟩, ⟨h6, h7, h8⟩, ⟨h9, h10, h11⟩, ⟨h12, h13, h14⟩⟩ := h
  simp only at *
  subst hc
  obtain ⟨a, rfl⟩ := Int.eq_ofNat_of_zero_le h3
  obtain ⟨b, rfl⟩ := Int.eq_ofNat_of_zero_le h6
  obtain ⟨x, rfl⟩ := Int.eq_ofNat_of_zero_le h9
  obtain ⟨y, rfl⟩ := Int.eq_ofNat_of_zero_le h12
  unfold textV
  rw [parts_list (c := c) rfl hc4.2]
  have hcc : c = 1 ∨ c = 2 ∨ c = 3 ∨ c = 4 := by omega
  rcases hcc with rfl | rfl | rfl | rfl
  · obtain rfl : b = 0 := by omega
    obtain rfl : x = 0 := by omega
    obtain rfl : y = 0 := by omega
    show refR (Lib.itoa (a : Int) ++ tagT (vb t)) startV = _
    rw [refR_num a _ startV (by omega) rfl, refR_tag t _ rfl]
    rfl
  · obtain rfl : x = 0 := by omega
    obtain rfl : y = 0 := by omega
    show refR ((Lib.itoa (a : Int) ++ 46 :: Lib.itoa (b : Int)) ++ tagT (vb t)) startV = _
    rw [List.append_assoc, refR_num a _ startV (by omega) rfl]
    show refR (46 :: (Lib.itoa (b : Int) ++ tagT (vb t))) _ = _
    rw [refR_point _ _ (by first | (show (1 : Int) + 1 ≤ 4; decide) | (show ((1 : Int) + 1) + 1 ≤ 4; decide) | (show (((1 : Int) + 1) + 1) + 1 ≤ 4; decide)), refR_num b _ _ (by omega) rfl, refR_tag t _ rfl]
    rfl
  · obtain rfl : y = 0 := by omega
    show refR ((Lib.itoa (a : Int) ++ 46 :: (Lib.itoa (b : Int) ++ 46 :: Lib.itoa (x : Int))) ++ tagT (vb t)) startV = _
    rw [List.append_assoc, refR_num a _ startV (by omega) rfl]
    show refR (46 :: ((Lib.itoa (b : Int) ++ 46 :: Lib.itoa (x : Int)) ++ tagT (vb t))) _ = _
    rw [refR_point _ _ (by first | (show (1 : Int) + 1 ≤ 4; decide) | (show ((1 : Int) + 1) + 1 ≤ 4; decide) | (show (((1 : Int) + 1) + 1) + 1 ≤ 4; decide)), List.append_assoc, refR_num b _ _ (by omega) rfl]
    show refR (46 :: (Lib.itoa (x : Int) ++ tagT (vb t))) _ = _
    rw [refR_point _ _ (by first | (show (1 : Int) + 1 ≤ 4; decide) | (show ((1 : Int) + 1) + 1 ≤ 4; decide) | (show (((1 : Int) + 1) + 1) + 1 ≤ 4; decide)), refR_num x _ _ (by omega) rfl, refR_tag t _ rfl]
    rfl
  · show refR ((Lib.itoa (a : Int) ++ 46 :: (Lib.itoa (b : Int) ++ 46 :: (Lib.itoa (x : Int) ++ 46 :: Lib.itoa (y : Int)))) ++ tagT (vb t)) startV = _
    rw [List.append_assoc, refR_num a _ startV (by omega) rfl]
    show refR (46 :: ((Lib.itoa (b : Int) ++ 46 :: (Lib.itoa (x : Int) ++ 46 :: Lib.itoa (y : Int))) ++ tagT (vb t))) _ = _
    rw [refR_point _ _ (by first | (show (1 : Int) + 1 ≤ 4; decide) | (show ((1 : Int) + 1) + 1 ≤ 4; decide) | (show (((1 : Int) + 1) + 1) + 1 ≤ 4; decide)), List.append_assoc, refR_num b _ _ (by omega) rfl]
    show refR (46 :: ((Lib.itoa (x : Int) ++ 46 :: Lib.itoa (y : Int)) ++ tagT (vb t))) _ = _
    rw [refR_point _ _ (by first | (show (1 : Int) + 1 ≤ 4; decide) | (show ((1 : Int) + 1) + 1 ≤ 4; decide) | (show (((1 : Int) + 1) + 1) + 1 ≤ 4; decide)), List.append_assoc, refR_num x _ _ (by omega) rfl]
    show refR (46 :: (Lib.itoa (y : Int) ++ tagT (vb t))) _ = _
    rw [refR_point _ _ (by first | (show (1 : Int) + 1 ≤ 4; decide) | (show ((1 : Int) + 1) + 1 ≤ 4; decide) | (show (((1 : Int) + 1) + 1) + 1 ≤ 4; decide)), refR_num y _ _ (by omega) rfl, refR_tag t _ rfl]
    rfl
/-- Parse, by what is read and its text. -/
theorem parse_ref_none {l : By} (h : refR l startV = none) : parseV l = none := by
  cases e : parseV l with
  | none => rfl
  | some v =>
    obtain ⟨h1, h2⟩ := parse_back e
    rw [← h2, refR_text h1] at h
    cases h
theorem parse_ref_some {l : By} {u : Ver} (h : refR l startV = some u) : parseV l = if mayV u = true ∧ textV u = l then some u else none := by
  by_cases hc : mayV u = true ∧ textV u = l
  · rw [if_pos hc, ← hc.2]
    exact parse_text ((mayV_iff u).1 hc.1)
  · rw [if_neg hc]
    cases e : parseV l with
    | none => rfl
    | some v =>
      obtain ⟨h1, h2⟩ := parse_back e
      have h3 := refR_text h1
      rw [h2, h] at h3
      obtain rfl := Option.some.inj h3
      exact absurd ⟨(mayV_iff u).2 h1, h2⟩ hc
end Go.Proofs.YtkbhckjpmgkgjaaGreatDoor
namespace Go.Proofs.YtkbhckjpmgkgjaaGreatDoor
open Go.RowKit

theorem resultsRp : Tryz.f50.results = #[.cell 2 104, .tmp 3] := by kernel_rfl
/-- What holds behind k bytes. -/
structure PrR (w wr : World) (gu : Nat) (s : ByteArray) (k : Nat) (u : Ver) : Prop where
  zero : Row wr w.heap.size zeroC 104
  ver : Row wr gu (verC u) 104
  far : w.heap.size < gu
  bel : Below w.heap.size w wr
  read : refR (vb s) startV = refR ((vb s).drop k) u
  tag : u.tag = ⟨#[]⟩
  cnt : 1 ≤ u.cnt ∧ u.cnt ≤ 4
  small : ∀ j, j < 4 → 0 ≤ nAt u j ∧ nAt u j ≤ 9999999999
theorem PrR.set {w wr : World} {gu : Nat} {s : ByteArray} {k : Nat} {u u' : Ver} {i : Nat} {x : Value} (h : PrR w wr gu s k u) (hr : (verC u).setIfInBounds i x = verC u') (h1 : refR ((vb s).drop k) u = refR ((vb s).drop (k + 1)) u') (h2 : u'.tag = ⟨#[]⟩) (h3 : 1 ≤ u'.cnt ∧ u'.cnt ≤ 4) (h4 : ∀ j, j < 4 → 0 ≤ nAt u' j ∧ nAt u' j ≤ 9999999999) : PrR w (wr.setCell ⟨gu, i, none⟩ x) gu s (k + 1) u' :=
  ⟨h.zero.setCell_other (by have := h.far; omega) _, by rw [← hr]; exact h.ver.setCell x, h.far, h.bel.trans (below_set (by have := h.far; omega) _ _), h.read.trans h1, h2, h3, h4⟩
theorem PrR.drew {w wr : World} {gu : Nat} {s : ByteArray} {k : Nat} {u : Ver} (h : PrR w wr gu s k u) : PrR w wr.drew gu s k u := ⟨h.zero, h.ver, h.far, h.bel.drew, h.read, h.tag, h.cnt, h.small⟩
theorem drop_at {s : ByteArray} {k : Nat} (h : k < s.size) : (vb s).drop k = s[k] :: (vb s).drop (k + 1) := by
  rw [List.drop_eq_getElem_cons (by rw [vb_len]; exact h)]
  rfl
theorem nAt_other (u : Ver) (k j : Nat) (y : Int) (h : ¬ j = k) (hj : j < 4) (hk : k < 4) : nAt (setN u k y) j = nAt u j := by
  match k, hk, j, hj with
  | 0, _, 0, _ => exact absurd rfl h
  | 0, _, 1, _ => rfl
  | 0, _, 2, _ => rfl
  | 0, _, 3, _ => rfl
  | 1, _, 0, _ => rfl
  | 1, _, 1, _ => exact absurd rfl h
  | 1, _, 2, _ => rfl
  | 1, _, 3, _ => rfl
  | 2, _, 0, _ => rfl
  | 2, _, 1, _ => rfl
  | 2, _, 2, _ => exact absurd rfl h
  | 2, _, 3, _ => rfl
  | 3, _, 0, _ => rfl
  | 3, _, 1, _ => rfl
  | 3, _, 2, _ => rfl
  | 3, _, 3, _ => exact absurd rfl h
theorem refR_other {b : UInt8} {r : By} {u : Ver} (h45 : b ≠ 45) (h46 : b ≠ 46) (hd : digB b = false) : refR (b :: r) u = none := by
  rw [refR, if_neg h45]
  unfold stepR
  rw [if_neg h46, if_neg (fun h => by rw [hd] at h; cases h.1)]
  rfl
theorem refR_big {b : UInt8} {r : By} {u : Ver} (h45 : b ≠ 45) (h46 : b ≠ 46) (hb : 999999999 < nAt u (u.cnt.toNat - 1)) : refR (b :: r) u = none := by
  rw [refR, if_neg h45]
  unfold stepR
  rw [if_neg h46, if_neg (fun h => by omega)]
  rfl
theorem refR_many {r : By} {u : Ver} (h : 4 < u.cnt + 1) : refR (46 :: r) u = none := by
  rw [refR, if_neg (by decide)]
  unfold stepR
  rw [if_pos rfl, if_pos h]
  rfl
set_option maxRecDepth 20000 in
set_option maxHeartbeats 16000000 in
theorem refParse_ok (s : ByteArray) (w : World) (hs : s.size ≤ 140737488355328) : Calls Tryz.prog 50 #[.string s] w fun e w' => e = .returned (parseE s) ∧ Below w.heap.size w w' := by
  have HL : Hid _ := vb_len s
  have hr0 : PrR w ((w.alloc (.cells zeroC 104)).alloc (.cells (verC startV) 104)) (w.heap.size + 1) s 0 startV := by
    refine ⟨(Row.new w _ _).alloc _, ?_, by omega, ((Below.refl _ _).alloc (Nat.le_refl _) _).alloc (by simp) _, rfl, rfl, by decide, fun j hj => ?_⟩
    · have h := Row.new (w.alloc (.cells zeroC 104)) (verC startV) 104
      rw [World.size_alloc] at h
      exact h
    · match j, hj with
      | 0, _ => decide
      | 1, _ => decide
      | 2, _ => decide
      | 3, _ => decide
  obtain ⟨w1, hw1⟩ : ∃ x, x = w.alloc (.cells zeroC 104) := ⟨_, rfl⟩
  have hs1 : w1.heap.size = w.heap.size + 1 := by rw [hw1]; simp
  have hw1' := hw1.symm
  rw [← hw1] at hr0
  obtain ⟨gu, hgu⟩ : ∃ g, g = w1.heap.size := ⟨_, rfl⟩
  rw [← hs1, ← hgu] at hr0
  obtain ⟨w2, hw2⟩ : ∃ x, x = w1.alloc (.cells (verC startV) 104) := ⟨_, rfl⟩
  rw [← hw2] at hr0
  have hw2' : w1.alloc (.cells #[.int .i64 0, .int .i64 0, .int .i64 0, .int .i64 0, .int .i64 1, .string ⟨#[]⟩] 104) = w2 := hw2.symm
  have HGU : Hid (gu = w1.heap.size) := hgu
  have HR0 : Hid (PrR w w2 gu s 0 startV) := hr0
  clear hw1 hs1 hw2 hr0 hgu
  go_enter Tryz.func50, Tryz.ntmps50
  go_wp2_with (refine wpList_store_new rfl 104 _ _ rfl w1 zeroC #[.int .i64 0, .int .i64 0, .int .i64 0, .int .i64 0, .int .i64 1, .string ⟨#[]⟩] 104 rfl w1.heap.size rfl rfl rfl infoRs rfl (verC_one ⟨0, 0, 0, 0, 1, ⟨#[]⟩⟩) ?_)
  rw [← HGU.out]
  clear hw1' hw2' HGU
  go_loopw [5] (fun i wr => ∃ (k : Nat) (u : Ver), k ≤ s.size ∧ i = .int .i64 k ∧ PrR w wr gu s k u) (fun i _ => s.size - (intOf i).toNat)
  case atStart => exact ⟨0, startV, Nat.zero_le _, rfl, HR0.out⟩
  case round =>
    obtain ⟨k, u, hk, rfl, hR⟩ := hrel
    have HR : Hid (PrR w wr gu s k u) := hR
    clear hR
    by_cases hlt : k < s.size
    · obtain ⟨c, hc⟩ : ∃ c, c = s[k] := ⟨_, rfl⟩
      have hc' : s[k].toNat = c.toNat := by rw [hc]
      have HD : Hid ((vb s).drop k = c :: (vb s).drop (k + 1)) := by show _ = _; rw [drop_at hlt, hc]
      have hlt' : (k : Int) < (s.size : Int) := by omega
      have hcl : c.toNat < 256 := UInt8.toNat_lt c
      clear hc
      obtain ⟨cc, hcc⟩ : ∃ cc : Nat, u.cnt = (cc : Int) := ⟨u.cnt.toNat, by have := HR.out.cnt; omega⟩
      have hcc4 : 1 ≤ cc ∧ cc ≤ 4 := by have := HR.out.cnt; omega
      have e4 : (verC u)[4]? = some (.int .i64 (cc : Int)) := by show some (Value.int .i64 u.cnt) = _; rw [hcc]
      have c4 : wr.cell? ⟨gu, 4, none⟩ = some (.int .i64 (cc : Int)) := (HR.out.ver.cell 4).trans e4
      have f4 := HR.out.ver.frozen 4
      by_cases h45 : c = 45
      · have hcv : c.toNat = 45 := by rw [h45]; rfl
        have c5 : wr.cell? ⟨gu, 5, none⟩ = some (.string u.tag) := (HR.out.ver.cell 5).trans rfl
        have f5 := HR.out.ver.frozen 5
        obtain ⟨t, ht⟩ : ∃ t, t = s.extract (k + 1) s.size := ⟨_, rfl⟩
        have ht' := ht.symm
        have HTX : Hid (tx ((vb s).drop (k + 1)) = t) := by
          show _ = _
          rw [ht]
          apply vb_inj
          rw [vb_tx, vb_extract, List.take_of_length_le (by rw [vb_len]; omega : (vb s).length ≤ s.size)]
        obtain ⟨ut, hut⟩ : ∃ ut : Ver, ut = { u with tag := t } := ⟨_, rfl⟩
        have HFt : Hid (refR (vb s) startV = some ut) := by
          show _ = _
          rw [HR.out.read, HD.out, h45, refR_dash, HTX.out, hut]
        have hts : ut.tag.size ≤ 140737488355328 := by rw [hut]; show t.size ≤ _; rw [ht, ByteArray.size_extract]; omega
        have hRt : Row (wr.setCell ⟨gu, 5, none⟩ (.string t)) gu (verC ut) 104 := by
          have h := HR.out.ver.setCell (i := 5) (.string t)
          rw [hut]
          exact h
        have hZt : Row (wr.setCell ⟨gu, 5, none⟩ (.string t)) w.heap.size zeroC 104 := HR.out.zero.setCell_other (by have := HR.out.far; omega) _
        have hBt : Below w.heap.size w (wr.setCell ⟨gu, 5, none⟩ (.string t)) := HR.out.bel.trans (below_set (by have := HR.out.far; omega) _ _)
        obtain ⟨wt, hwt⟩ : ∃ x, x = wr.setCell ⟨gu, 5, none⟩ (.string t) := ⟨_, rfl⟩
        rw [← hwt] at hRt hZt hBt
        have hwt' := hwt.symm
        have HRt : Hid (Row wt gu (verC ut) 104) := hRt
        have HZt : Hid (Row wt w.heap.size zeroC 104) := hZt
        have HBt : Hid (Below w.heap.size w wt) := hBt
        clear hwt hRt hZt hBt hut ht h45 e4 c4 f4
        have HPV : Hid (parseV (vb s) = if mayV ut = true ∧ textV ut = vb s then some ut else none) := parse_ref_some HFt.out
        have htx := refText_ok ut wt hts
        cases hmu : mayV ut with
        | false =>
          rw [textE_no hmu] at htx
          have HE : Hid (parseE s = .tuple #[verV zeroV, .int .i64 20]) := parseE_no (by rw [HPV.out, if_neg (fun h => by rw [hmu] at h; cases h.1)])
          clear hmu
          go_wp2_with (refine wpList_load_row rfl 104 _ rfl gu rfl 104 (verC ut) (0, 0) _ HRt.out Tryz.underlying104 rfl infoRs ?_)
          refine htx.mono ?_
          rintro e wy ⟨rfl, hby⟩
          have HZy : Hid (Row wy w.heap.size zeroC 104) := Row.below HZt.out hby (Row.lt HZt.out)
          have HBy : Hid (Below w.heap.size w wy) := HBt.out.trans (hby.mono HBt.out.size)
          clear htx hby
          go_wp2_with (refine wpList_store_row rfl 104 _ _ rfl w.heap.size zeroC rfl rfl 104 zeroC HZy.out infoRs rfl zeroC_one ?_)
          exact bodyPost_ret (results_cell_row2 resultsRp _ _ w.heap.size 104 zeroC (0, 0) _ rfl (Row.setRow HZy.out) Tryz.underlying104 rfl infoRs) rfl ⟨by rw [HE.out]; rfl, bel_setRow HBy.out (Nat.le_refl _) _⟩
        | true =>
          rw [textE_yes hmu] at htx
          obtain ⟨T, hT⟩ : ∃ T, T = tx (textV ut) := ⟨_, rfl⟩
          rw [← hT] at htx
          by_cases hts2 : textV ut = vb s
          · have hTs : T = s := by rw [hT, hts2, tx_vb]
            have HE : Hid (parseE s = .tuple #[verV ut, .int .i64 0]) := parseE_yes (by rw [HPV.out, if_pos ⟨hmu, hts2⟩])
            subst hTs
            clear hmu hts2 hT
            go_wp2_with (refine wpList_load_row rfl 104 _ rfl gu rfl 104 (verC ut) (0, 0) _ HRt.out Tryz.underlying104 rfl infoRs ?_)
            refine htx.mono ?_
            rintro e wy ⟨rfl, hby⟩
            have HZy : Hid (Row wy w.heap.size zeroC 104) := Row.below HZt.out hby (Row.lt HZt.out)
            have HBy : Hid (Below w.heap.size w wy) := HBt.out.trans (hby.mono HBt.out.size)
            have HRy : Hid (Row wy gu (verC ut) 104) := Row.below HRt.out hby (Row.lt HRt.out)
            clear htx hby
            go_wp2_with (first | refine wpList_load_row rfl 104 _ rfl gu rfl 104 (verC ut) (0, 0) _ HRy.out Tryz.underlying104 rfl infoRs ?_ | refine wpList_store_row rfl 104 _ _ rfl w.heap.size (verC ut) rfl rfl 104 zeroC HZy.out infoRs rfl (verC_one ut) ?_)
            exact bodyPost_ret (results_cell_row2 resultsRp _ _ w.heap.size 104 (verC ut) (0, 0) _ rfl (Row.setRow HZy.out) Tryz.underlying104 rfl infoRs) rfl ⟨by rw [HE.out]; rfl, bel_setRow HBy.out (Nat.le_refl _) _⟩
          · have hne : ¬ T.toList = s.toList := fun e => hts2 (by
              rw [ByteArray.toList_eq, ByteArray.toList_eq] at e
              rw [← vb_tx (textV ut), ← hT]
              exact e)
            have hne2 : (T.toList == s.toList) = false := by simpa using hne
            have HE : Hid (parseE s = .tuple #[verV zeroV, .int .i64 20]) := parseE_no (by rw [HPV.out, if_neg (fun h => hts2 h.2)])
            clear hmu hts2 hT
            go_wp2_with (refine wpList_load_row rfl 104 _ rfl gu rfl 104 (verC ut) (0, 0) _ HRt.out Tryz.underlying104 rfl infoRs ?_)
            refine htx.mono ?_
            rintro e wy ⟨rfl, hby⟩
            have HZy : Hid (Row wy w.heap.size zeroC 104) := Row.below HZt.out hby (Row.lt HZt.out)
            have HBy : Hid (Below w.heap.size w wy) := HBt.out.trans (hby.mono HBt.out.size)
            clear htx hby
            go_wp2_with (refine wpList_store_row rfl 104 _ _ rfl w.heap.size zeroC rfl rfl 104 zeroC HZy.out infoRs rfl zeroC_one ?_)
            exact bodyPost_ret (results_cell_row2 resultsRp _ _ w.heap.size 104 zeroC (0, 0) _ rfl (Row.setRow HZy.out) Tryz.underlying104 rfl infoRs) rfl ⟨by rw [HE.out]; rfl, bel_setRow HBy.out (Nat.le_refl _) _⟩
      · have n45 : ((c.toNat : Int) == 45) = false := by
          simp only [beq_eq_false_iff_ne]
          exact fun e => h45 (UInt8.toNat_inj.1 (by simpa using (by omega : c.toNat = 45)))
        by_cases h46 : c = 46
        · have hcv : c.toNat = 46 := by rw [h46]; rfl
          have hwc : IntKind.i64.wrap ((cc : Int) + 1) = ((cc + 1 : Nat) : Int) := by rw [IntKind.wrap_i64]; omega
          obtain ⟨c1, hc1⟩ : ∃ c1, c1 = cc + 1 := ⟨_, rfl⟩
          rw [← hc1] at hwc
          have hs4 := HR.out.ver.setCell (i := 4) (.int .i64 (c1 : Int))
          have q4 : (wr.setCell ⟨gu, 4, none⟩ (.int .i64 (c1 : Int))).cell? ⟨gu, 4, none⟩ = some (.int .i64 (c1 : Int)) := (hs4.cell 4).trans rfl
          have hZ4 : Row (wr.setCell ⟨gu, 4, none⟩ (.int .i64 (c1 : Int))) w.heap.size zeroC 104 := HR.out.zero.setCell_other (by have := HR.out.far; omega) _
          have hB4 : Below w.heap.size w (wr.setCell ⟨gu, 4, none⟩ (.int .i64 (c1 : Int))) := HR.out.bel.trans (below_set (by have := HR.out.far; omega) _ _)
          by_cases h5 : 4 < c1
          · have HE : Hid (parseE s = .tuple #[verV zeroV, .int .i64 20]) := parseE_no (parse_ref_none (by rw [HR.out.read, HD.out, h46]; exact refR_many (by rw [hcc]; omega)))
            have h5' : (4 : Int) < (c1 : Int) := by omega
            obtain ⟨w4, hw4⟩ : ∃ x, x = wr.setCell ⟨gu, 4, none⟩ (.int .i64 (c1 : Int)) := ⟨_, rfl⟩
            rw [← hw4] at q4 hZ4 hB4
            have hw4' := hw4.symm
            have HZ4 : Hid (Row w4 w.heap.size zeroC 104) := hZ4
            have HB4 : Hid (Below w.heap.size w w4) := hB4
            clear hs4 hZ4 hB4 hw4 h46 h45 e4 hc1 h5
            go_wp2_with (refine wpList_store_row rfl 104 _ _ rfl w.heap.size zeroC rfl rfl 104 zeroC HZ4.out infoRs rfl zeroC_one ?_)
            exact bodyPost_ret (results_cell_row2 resultsRp _ _ w.heap.size 104 zeroC (0, 0) _ rfl (Row.setRow HZ4.out) Tryz.underlying104 rfl infoRs) rfl ⟨by rw [HE.out]; rfl, bel_setRow HB4.out (Nat.le_refl _) _⟩
          · have h5' : ¬ (4 : Int) < (c1 : Int) := by omega
            have HN : Hid (PrR w (wr.setCell ⟨gu, 4, none⟩ (.int .i64 (c1 : Int))) gu s (k + 1) { u with cnt := (c1 : Int) }) := HR.out.set (u' := { u with cnt := (c1 : Int) }) rfl (by
              rw [HD.out, h46, refR_point _ _ (by rw [hcc]; omega)]
              congr 2
              rw [hcc]
              omega) HR.out.tag ⟨by show (1 : Int) ≤ c1; omega, by show (c1 : Int) ≤ 4; omega⟩ HR.out.small
            clear hs4 hZ4 hB4 h46 h45 e4 hc1 h5
            go_wp2
            go_roundw
            case rel => exact ⟨k + 1, _, by omega, by go_num, HN.out⟩
            case measure => simp [intOf]; omega
        · have n46 : ((c.toNat : Int) == 46) = false := by
            simp only [beq_eq_false_iff_ne]
            exact fun e => h46 (UInt8.toNat_inj.1 (by simpa using (by omega : c.toNat = 46)))
          obtain ⟨m1, hm1⟩ : ∃ m1, m1 = cc - 1 := ⟨_, rfl⟩
          have hwm : IntKind.i64.wrap ((cc : Int) - 1) = (m1 : Int) := by rw [IntKind.wrap_i64]; omega
          have hm14 : (m1 : Int) < 4 := by omega
          obtain ⟨x, hx⟩ : ∃ x, x = nAt u m1 := ⟨_, rfl⟩
          have hxm : nAt u (u.cnt.toNat - 1) = x := by rw [hcc, Int.toNat_natCast, ← hm1, hx]
          have em : (verC u)[m1]? = some (.int .i64 x) := (ver_cell u m1 (by omega)).trans (by rw [hx])
          have cm : wr.cell? ⟨gu, m1, none⟩ = some (.int .i64 x) := (HR.out.ver.cell m1).trans em
          have hxr := HR.out.small m1 (by omega)
          rw [← hx] at hxr
          by_cases h48 : c.toNat < 48
          · have HE : Hid (parseE s = .tuple #[verV zeroV, .int .i64 20]) := parseE_no (parse_ref_none (by
              rw [HR.out.read, HD.out]
              refine refR_other h45 h46 ?_
              cases e : digB c with
              | false => rfl
              | true => have := (digB_iff c).1 e; omega))
            have h48' : (c.toNat : Int) < 48 := by omega
            have HZe : Hid (Row wr w.heap.size zeroC 104) := PrR.zero HR.out
            have HBe : Hid (Below w.heap.size w wr) := PrR.bel HR.out
            clear h45 h46 e4 em hm1 hx hxm hwm hm14 cm hxr
            go_upto_if 54 with fail
            go_wp2_with (refine wpList_store_row rfl 104 _ _ rfl w.heap.size zeroC rfl rfl 104 zeroC HZe.out infoRs rfl zeroC_one ?_)
            exact bodyPost_ret (results_cell_row2 resultsRp _ _ w.heap.size 104 zeroC (0, 0) _ rfl (Row.setRow HZe.out) Tryz.underlying104 rfl infoRs) rfl ⟨by rw [HE.out]; rfl, bel_setRow HBe.out (Nat.le_refl _) _⟩
          · have h48' : ¬ (c.toNat : Int) < 48 := by omega
            by_cases h57 : 57 < c.toNat
            · have HE : Hid (parseE s = .tuple #[verV zeroV, .int .i64 20]) := parseE_no (parse_ref_none (by
                rw [HR.out.read, HD.out]
                refine refR_other h45 h46 ?_
                cases e : digB c with
                | false => rfl
                | true => have := (digB_iff c).1 e; omega))
              have h57' : (57 : Int) < (c.toNat : Int) := by omega
              have HZe : Hid (Row wr w.heap.size zeroC 104) := PrR.zero HR.out
              have HBe : Hid (Below w.heap.size w wr) := PrR.bel HR.out
              clear h45 h46 e4 em hm1 hx hxm hwm hm14 cm hxr
              go_upto_if 54 with fail
              go_wp2_with (refine wpList_store_row rfl 104 _ _ rfl w.heap.size zeroC rfl rfl 104 zeroC HZe.out infoRs rfl zeroC_one ?_)
              exact bodyPost_ret (results_cell_row2 resultsRp _ _ w.heap.size 104 zeroC (0, 0) _ rfl (Row.setRow HZe.out) Tryz.underlying104 rfl infoRs) rfl ⟨by rw [HE.out]; rfl, bel_setRow HBe.out (Nat.le_refl _) _⟩
            · have h57' : ¬ (57 : Int) < (c.toNat : Int) := by omega
              by_cases hbig : 999999999 < x
              · have HE : Hid (parseE s = .tuple #[verV zeroV, .int .i64 20]) := parseE_no (parse_ref_none (by
                  rw [HR.out.read, HD.out]
                  exact refR_big h45 h46 (by rw [hxm]; exact hbig)))
                clear h45 h46 e4 em hm1 hx hxm
                go_wp2_with (refine wpList_store_row rfl 104 _ _ rfl w.heap.size zeroC rfl rfl 104 zeroC (PrR.zero HR.out) infoRs rfl zeroC_one ?_)
                exact bodyPost_ret (results_cell_row2 resultsRp _ _ w.heap.size 104 zeroC (0, 0) _ rfl (Row.setRow (PrR.zero HR.out)) Tryz.underlying104 rfl infoRs) rfl ⟨by rw [HE.out]; rfl, bel_setRow (PrR.bel HR.out) (Nat.le_refl _) _⟩
              · have HN : Hid (PrR w (wr.drew.setCell ⟨gu, m1, none⟩ (.int .i64 (x * 10 + ((c.toNat - 48 : Nat) : Int)))) gu s (k + 1) (setN u m1 (x * 10 + ((c.toNat - 48 : Nat) : Int)))) := by
                  refine HR.out.drew.set (setN_row u m1 _ (by omega)) ?_ (by rw [setN_tag]; exact HR.out.tag) (by rw [setN_cnt]; exact HR.out.cnt) (fun j hj => ?_)
                  · rw [HD.out, refR_digit c _ u ((digB_iff c).2 ⟨by omega, by omega⟩) (by rw [hxm]; omega), hxm, hcc, Int.toNat_natCast, ← hm1]
                  · by_cases e : j = m1
                    · subst e
                      rw [nAt_set]
                      omega
                    · have h := HR.out.small j hj
                      rw [nAt_other u m1 j _ e hj (by omega)]
                      exact h
                have hw8 : IntKind.u8.wrap ((c.toNat : Int) - 48) = ((c.toNat - 48 : Nat) : Int) := by simp [IntKind.wrap, IntKind.bits, IntKind.signed]; omega
                have hwx : IntKind.i64.wrap (x * 10) = x * 10 := by rw [IntKind.wrap_i64]; omega
                have hwy : IntKind.i64.wrap (x * 10 + ((c.toNat - 48 : Nat) : Int)) = x * 10 + ((c.toNat - 48 : Nat) : Int) := by rw [IntKind.wrap_i64]; omega
                have hwz : IntKind.i64.wrap ((c.toNat - 48 : Nat) : Int) = ((c.toNat - 48 : Nat) : Int) := by rw [IntKind.wrap_i64]; omega
                have hS0 : Row wr.drew gu (verC u) 104 := HR.out.ver
                clear h45 h46 hm1 hx hxm hcc
                go_upto_region 13 with fail
                refine wp_region_perm [(false, 0), (false, 1), (false, 2), (false, 3), (false, 4), (false, 5), (false, 6), (false, 7), (false, 8), (false, 9), (false, 10), (false, 11), (false, 12), (false, 13), (false, 14), (false, 15), (true, 16), (false, 17), (true, 18)] (fun wx => Row wx gu (verC u) 104) (by kernel_rfl) (by kernel_rfl) hS0 ?_
                generalize wr.drew = wd at *
                refine p_value (some 56) (.pointer (some ⟨gu, 4, none⟩)) rfl rfl (by rfl) (fun wx hw => ?_) ?_
                · have q4 := (Row.cell hw 4).trans e4
                  have qm := (Row.cell hw m1).trans em
                  go_simp
                simp only [Act.put, List.setIfInBounds_toArray, List.set_cons_zero, List.set_cons_succ]
                refine p_value (some 57) (.int .i64 (cc : Int)) rfl rfl (by rfl) (fun wx hw => ?_) ?_
                · have q4 := (Row.cell hw 4).trans e4
                  have qm := (Row.cell hw m1).trans em
                  go_simp
                simp only [Act.put, List.setIfInBounds_toArray, List.set_cons_zero, List.set_cons_succ]
                refine p_value (some 58) (.int .i64 (m1 : Int)) rfl rfl (by rfl) (fun wx hw => ?_) ?_
                · have q4 := (Row.cell hw 4).trans e4
                  have qm := (Row.cell hw m1).trans em
                  go_simp
                simp only [Act.put, List.setIfInBounds_toArray, List.set_cons_zero, List.set_cons_succ]
                refine p_value (some 59) (.pointer (some ⟨gu, 4, none⟩)) rfl rfl (by rfl) (fun wx hw => ?_) ?_
                · have q4 := (Row.cell hw 4).trans e4
                  have qm := (Row.cell hw m1).trans em
                  go_simp
                simp only [Act.put, List.setIfInBounds_toArray, List.set_cons_zero, List.set_cons_succ]
                refine p_value (some 60) (.int .i64 (cc : Int)) rfl rfl (by rfl) (fun wx hw => ?_) ?_
                · have q4 := (Row.cell hw 4).trans e4
                  have qm := (Row.cell hw m1).trans em
                  go_simp
                simp only [Act.put, List.setIfInBounds_toArray, List.set_cons_zero, List.set_cons_succ]
                refine p_value (some 61) (.int .i64 (m1 : Int)) rfl rfl (by rfl) (fun wx hw => ?_) ?_
                · have q4 := (Row.cell hw 4).trans e4
                  have qm := (Row.cell hw m1).trans em
                  go_simp
                simp only [Act.put, List.setIfInBounds_toArray, List.set_cons_zero, List.set_cons_succ]
                refine p_value (some 62) (.pointer (some ⟨gu, 0, none⟩)) rfl rfl (by rfl) (fun wx hw => ?_) ?_
                · have q4 := (Row.cell hw 4).trans e4
                  have qm := (Row.cell hw m1).trans em
                  go_simp
                simp only [Act.put, List.setIfInBounds_toArray, List.set_cons_zero, List.set_cons_succ]
                refine p_value (some 63) (.pointer (some ⟨gu, m1, none⟩)) rfl rfl (by rfl) (fun wx hw => ?_) ?_
                · have q4 := (Row.cell hw 4).trans e4
                  have qm := (Row.cell hw m1).trans em
                  go_simp
                simp only [Act.put, List.setIfInBounds_toArray, List.set_cons_zero, List.set_cons_succ]
                refine p_value (some 64) (.int .i64 x) rfl rfl (by rfl) (fun wx hw => ?_) ?_
                · have q4 := (Row.cell hw 4).trans e4
                  have qm := (Row.cell hw m1).trans em
                  go_simp
                simp only [Act.put, List.setIfInBounds_toArray, List.set_cons_zero, List.set_cons_succ]
                refine p_value (some 65) (.int .i64 (x * 10)) rfl rfl (by rfl) (fun wx hw => ?_) ?_
                · have q4 := (Row.cell hw 4).trans e4
                  have qm := (Row.cell hw m1).trans em
                  go_simp
                simp only [Act.put, List.setIfInBounds_toArray, List.set_cons_zero, List.set_cons_succ]
                refine p_value (some 66) (.string s) rfl rfl (by rfl) (fun wx hw => ?_) ?_
                · have q4 := (Row.cell hw 4).trans e4
                  have qm := (Row.cell hw m1).trans em
                  go_simp
                simp only [Act.put, List.setIfInBounds_toArray, List.set_cons_zero, List.set_cons_succ]
                refine p_value (some 67) (.int .i64 (k : Int)) rfl rfl (by rfl) (fun wx hw => ?_) ?_
                · have q4 := (Row.cell hw 4).trans e4
                  have qm := (Row.cell hw m1).trans em
                  go_simp
                simp only [Act.put, List.setIfInBounds_toArray, List.set_cons_zero, List.set_cons_succ]
                refine p_value (some 68) (.int .u8 (c.toNat : Int)) rfl rfl (by rfl) (fun wx hw => ?_) ?_
                · have q4 := (Row.cell hw 4).trans e4
                  have qm := (Row.cell hw m1).trans em
                  go_simp
                simp only [Act.put, List.setIfInBounds_toArray, List.set_cons_zero, List.set_cons_succ]
                refine p_value (some 69) (.int .u8 ((c.toNat - 48 : Nat) : Int)) rfl rfl (by rfl) (fun wx hw => ?_) ?_
                · have q4 := (Row.cell hw 4).trans e4
                  have qm := (Row.cell hw m1).trans em
                  go_simp
                simp only [Act.put, List.setIfInBounds_toArray, List.set_cons_zero, List.set_cons_succ]
                refine p_value (some 70) (.int .i64 ((c.toNat - 48 : Nat) : Int)) rfl rfl (by rfl) (fun wx hw => ?_) ?_
                · have q4 := (Row.cell hw 4).trans e4
                  have qm := (Row.cell hw m1).trans em
                  go_simp
                simp only [Act.put, List.setIfInBounds_toArray, List.set_cons_zero, List.set_cons_succ]
                refine p_value (some 71) (.int .i64 (x * 10 + ((c.toNat - 48 : Nat) : Int))) rfl rfl (by rfl) (fun wx hw => ?_) ?_
                · have q4 := (Row.cell hw 4).trans e4
                  have qm := (Row.cell hw m1).trans em
                  go_simp
                simp only [Act.put, List.setIfInBounds_toArray, List.set_cons_zero, List.set_cons_succ]
                refine p_alone (some 72) (.pointer (some ⟨gu, 0, none⟩)) _ rfl rfl (by rfl) (by go_simp) (fun _ => hS0) ?_
                simp only [Act.put, List.setIfInBounds_toArray, List.set_cons_zero, List.set_cons_succ]
                refine p_value (some 73) (.pointer (some ⟨gu, m1, none⟩)) rfl rfl (by rfl) (fun wx hw => ?_) ?_
                · have q4 := (Row.cell hw 4).trans e4
                  have qm := (Row.cell hw m1).trans em
                  go_simp
                simp only [Act.put, List.setIfInBounds_toArray, List.set_cons_zero, List.set_cons_succ]
                have q5 : wd.cell? ⟨gu, m1, none⟩ = some (.int .i64 x) := (Row.cell hS0 m1).trans em
                have q6 : wd.frozen? ⟨gu, m1, none⟩ = false := Row.frozen hS0 m1
                refine p_store (wd.setCell ⟨gu, m1, none⟩ (.int .i64 (x * 10 + ((c.toNat - 48 : Nat) : Int)))) rfl rfl (by rfl) (by go_simp) (fun h => absurd rfl h) ?_
                refine p_done ?_
                try simp only [Exit.then]
                clear hS0 q5 q6 e4 em
                go_wp2
                go_roundw
                case rel => exact ⟨k + 1, _, by omega, by go_num, HN.out⟩
                case measure => simp [intOf]; omega
    · have hlt' : ¬ (k : Int) < (s.size : Int) := by omega
      obtain ⟨ut, hut⟩ : ∃ ut, ut = u := ⟨_, rfl⟩
      obtain ⟨wt, hwt⟩ : ∃ x, x = wr := ⟨_, rfl⟩
      have HFt : Hid (refR (vb s) startV = some ut) := by
        show _ = _
        rw [HR.out.read, List.drop_of_length_le (by rw [HL.out]; omega), hut]
        rfl
      have hts : ut.tag.size ≤ 140737488355328 := by rw [hut, HR.out.tag]; decide
      have HRt : Hid (Row wt gu (verC ut) 104) := by rw [hut, hwt]; exact HR.out.ver
      have HZt : Hid (Row wt w.heap.size zeroC 104) := by rw [hwt]; exact HR.out.zero
      have HBt : Hid (Below w.heap.size w wt) := by rw [hwt]; exact HR.out.bel
      rw [← hwt]
      clear hut hwt
      have HPV : Hid (parseV (vb s) = if mayV ut = true ∧ textV ut = vb s then some ut else none) := parse_ref_some HFt.out
      have htx := refText_ok ut wt hts
      cases hmu : mayV ut with
      | false =>
        rw [textE_no hmu] at htx
        have HE : Hid (parseE s = .tuple #[verV zeroV, .int .i64 20]) := parseE_no (by rw [HPV.out, if_neg (fun h => by rw [hmu] at h; cases h.1)])
        clear hmu
        go_wp2_with (refine wpList_load_row rfl 104 _ rfl gu rfl 104 (verC ut) (0, 0) _ HRt.out Tryz.underlying104 rfl infoRs ?_)
        refine htx.mono ?_
        rintro e wy ⟨rfl, hby⟩
        have HZy : Hid (Row wy w.heap.size zeroC 104) := Row.below HZt.out hby (Row.lt HZt.out)
        have HBy : Hid (Below w.heap.size w wy) := HBt.out.trans (hby.mono HBt.out.size)
        clear htx hby
        go_wp2_with (refine wpList_store_row rfl 104 _ _ rfl w.heap.size zeroC rfl rfl 104 zeroC HZy.out infoRs rfl zeroC_one ?_)
        exact bodyPost_ret (results_cell_row2 resultsRp _ _ w.heap.size 104 zeroC (0, 0) _ rfl (Row.setRow HZy.out) Tryz.underlying104 rfl infoRs) rfl ⟨by rw [HE.out]; rfl, bel_setRow HBy.out (Nat.le_refl _) _⟩
      | true =>
        rw [textE_yes hmu] at htx
        obtain ⟨T, hT⟩ : ∃ T, T = tx (textV ut) := ⟨_, rfl⟩
        rw [← hT] at htx
        by_cases hts2 : textV ut = vb s
        · have hTs : T = s := by rw [hT, hts2, tx_vb]
          have HE : Hid (parseE s = .tuple #[verV ut, .int .i64 0]) := parseE_yes (by rw [HPV.out, if_pos ⟨hmu, hts2⟩])
          subst hTs
          clear hmu hts2 hT
          go_wp2_with (refine wpList_load_row rfl 104 _ rfl gu rfl 104 (verC ut) (0, 0) _ HRt.out Tryz.underlying104 rfl infoRs ?_)
          refine htx.mono ?_
          rintro e wy ⟨rfl, hby⟩
          have HZy : Hid (Row wy w.heap.size zeroC 104) := Row.below HZt.out hby (Row.lt HZt.out)
          have HBy : Hid (Below w.heap.size w wy) := HBt.out.trans (hby.mono HBt.out.size)
          have HRy : Hid (Row wy gu (verC ut) 104) := Row.below HRt.out hby (Row.lt HRt.out)
          clear htx hby
          go_wp2_with (first | refine wpList_load_row rfl 104 _ rfl gu rfl 104 (verC ut) (0, 0) _ HRy.out Tryz.underlying104 rfl infoRs ?_ | refine wpList_store_row rfl 104 _ _ rfl w.heap.size (verC ut) rfl rfl 104 zeroC HZy.out infoRs rfl (verC_one ut) ?_)
          exact bodyPost_ret (results_cell_row2 resultsRp _ _ w.heap.size 104 (verC ut) (0, 0) _ rfl (Row.setRow HZy.out) Tryz.underlying104 rfl infoRs) rfl ⟨by rw [HE.out]; rfl, bel_setRow HBy.out (Nat.le_refl _) _⟩
        · have hne : ¬ T.toList = s.toList := fun e => hts2 (by
            rw [ByteArray.toList_eq, ByteArray.toList_eq] at e
            rw [← vb_tx (textV ut), ← hT]
            exact e)
          have hne2 : (T.toList == s.toList) = false := by simpa using hne
          have HE : Hid (parseE s = .tuple #[verV zeroV, .int .i64 20]) := parseE_no (by rw [HPV.out, if_neg (fun h => hts2 h.2)])
          clear hmu hts2 hT
          go_wp2_with (refine wpList_load_row rfl 104 _ rfl gu rfl 104 (verC ut) (0, 0) _ HRt.out Tryz.underlying104 rfl infoRs ?_)
          refine htx.mono ?_
          rintro e wy ⟨rfl, hby⟩
          have HZy : Hid (Row wy w.heap.size zeroC 104) := Row.below HZt.out hby (Row.lt HZt.out)
          have HBy : Hid (Below w.heap.size w wy) := HBt.out.trans (hby.mono HBt.out.size)
          clear htx hby
          go_wp2_with (refine wpList_store_row rfl 104 _ _ rfl w.heap.size zeroC rfl rfl 104 zeroC HZy.out infoRs rfl zeroC_one ?_)
          exact bodyPost_ret (results_cell_row2 resultsRp _ _ w.heap.size 104 zeroC (0, 0) _ rfl (Row.setRow HZy.out) Tryz.underlying104 rfl infoRs) rfl ⟨by rw [HE.out]; rfl, bel_setRow HBy.out (Nat.le_refl _) _⟩
end Go.Proofs.YtkbhckjpmgkgjaaGreatDoor
namespace Go.Proofs.YtkbhckjpmgkgjaaGreatDoor
open Go.RowKit

/-- What cut tells. -/
def CutP (c : UInt8) (s : ByteArray) (w : World) (e : Ending) (w' : World) : Prop :=
  ∃ (g : Nat) (P : List ByteArray) (cp : Nat), e = .returned (.slice (some ⟨g, 0, none⟩) P.length cp) ∧ P.map vb = cutAll c (vb s) ∧ (∀ i (h : i < P.length), w'.cell? ⟨g, i, none⟩ = some (.string P[i])) ∧ w.heap.size ≤ g ∧ g < w'.heap.size ∧ Below w.heap.size w w' ∧ P.length ≤ cp ∧ P.length ≤ s.size + 1 ∧ ∀ i (h : i < P.length), P[i].size ≤ s.size
/-- What holds while it is parted. -/
structure CuR (w wr : World) (c : UInt8) (s : ByteArray) (i fr : Nat) (Q : List ByteArray) (sv : Value) : Prop where
  own : wr.ownsRow w.heap.size 9 1 sv Q.length (Q.map Value.string)
  bel : Below w.heap.size w wr
  eq : i ≤ s.size → Q.map vb ++ cutAll c ((vb s).drop fr) = cutAll c (vb s)
  fin : s.size < i → Q.map vb = cutAll c (vb s)
  no : ∀ j, fr ≤ j → j < i → ∀ h : j < s.size, s[j] ≠ c
  le : fr ≤ i
  q : Q.length ≤ i
  sz : ∀ x ∈ Q, x.size ≤ s.size
theorem CuR.skip {w wr : World} {c : UInt8} {s : ByteArray} {i fr : Nat} {Q : List ByteArray} {sv : Value} (h : CuR w wr c s i fr Q sv) (hi : i < s.size) (hc : s[i] ≠ c) : CuR w wr c s (i + 1) fr Q sv :=
  ⟨h.own, h.bel, fun _ => h.eq (by omega), fun k => absurd k (by omega), fun j h1 h2 h3 => by
    by_cases e : j = i
    · subst e; exact hc
    · exact h.no j h1 (by omega) h3, Nat.le_succ_of_le h.le, Nat.le_succ_of_le h.q, h.sz⟩
theorem cut_part {c : UInt8} {s : ByteArray} {i fr : Nat} (hno : ∀ j, fr ≤ j → j < i → ∀ h : j < s.size, s[j] ≠ c) (hi : i ≤ s.size) : c ∉ vb (s.extract fr i) := by
  rw [vb_extract]
  intro hm
  obtain ⟨k, hk, he⟩ := List.getElem_of_mem hm
  rw [List.length_drop, List.length_take, vb_len] at hk
  rw [List.getElem_drop, List.getElem_take] at he
  exact hno (fr + k) (by omega) (by omega) (by omega) he
theorem drop_part {s : ByteArray} {i fr : Nat} (hle : fr ≤ i) (hi : i < s.size) : (vb s).drop fr = vb (s.extract fr i) ++ s[i] :: (vb s).drop (i + 1) := by
  rw [vb_extract]
  have h1 : (vb s).drop i = s[i] :: (vb s).drop (i + 1) := drop_at hi
  rw [← h1]
  have h2 : vb s = (vb s).take i ++ (vb s).drop i := (List.take_append_drop i (vb s)).symm
  conv => lhs; rw [h2]
  rw [List.drop_append_of_le_length (by rw [List.length_take, vb_len]; omega)]
/-- A part is told. -/
theorem CuR.more {w wr w1 w2 : World} {c : UInt8} {s : ByteArray} {i fr : Nat} {Q : List ByteArray} {sv sv' : Value} (h : CuR w wr c s i fr Q sv) (hi : i = s.size ∨ ∃ h : i < s.size, s[i] = c) (hb : Below w.heap.size wr w1) (ho : w2.ownsRow w.heap.size 9 1 sv' (Q.length + 1) (Q.map Value.string ++ [.string (s.extract fr i)])) (hg : w1.grownBy w2 sv.ownBlock) : CuR w w2 c s (i + 1) (i + 1) (Q ++ [s.extract fr i]) sv' := by
  have hob := own_block h.own
  have hle := h.le
  refine ⟨by rw [List.length_append, List.map_append]; exact ho, h.bel.trans (hb.trans (below_own' hg (Nat.le_trans h.bel.size hb.size) fun k hk => (hob k hk).1)), fun hi1 => ?_, fun hi1 => ?_, fun j h1 h2 => absurd h2 (by omega), Nat.le_refl _, by rw [List.length_append]; have := h.q; simp; omega, fun x hx => ?_⟩
  · rcases hi with hi | ⟨hlt, hc⟩
    · omega
    · rw [← h.eq (by omega), drop_part hle hlt, hc, cutAll_some (cutAt_some (cut_part h.no (by omega)) _), List.map_append, List.append_assoc]
      rfl
  · rcases hi with hi | ⟨hlt, hc⟩
    · have e : (vb s).drop fr = vb (s.extract fr i) := by
        rw [vb_extract, hi, List.take_of_length_le (by rw [vb_len]; omega)]
      rw [← h.eq (by omega), e, cutAll_none (cutAt_none (cut_part h.no (by omega))), List.map_append]
      rfl
    · omega
  · rcases List.mem_append.1 hx with hx | hx
    · exact h.sz x hx
    · rw [List.mem_singleton.1 hx, ByteArray.size_extract]; omega
theorem CuR.done {w wr : World} {c : UInt8} {s : ByteArray} {i fr : Nat} {Q : List ByteArray} {sv : Value} (h : CuR w wr c s i fr Q sv) (hi : s.size < i) (hi2 : i ≤ s.size + 1) : CutP c s w (.returned sv) wr := by
  have hQ := h.fin hi
  have hp := cutAll_pos c (vb s)
  rw [← hQ, List.length_map] at hp
  obtain ⟨_, ⟨_, h0⟩ | ⟨g, cap, cur, rfl, h2, h3, h4, _⟩⟩ := h.own
  · omega
  · refine ⟨g, Q, cap, rfl, hQ, fun j hj => ?_, h2, (Array.getElem?_eq_some_iff.1 h3).1, h.bel, by simpa using h4, Nat.le_trans h.q hi2, fun j hj => h.sz _ (List.getElem_mem hj)⟩
    have := h.own.cellAt j (by simpa using hj)
    rw [this, List.getElem?_map, List.getElem?_eq_getElem hj]
    rfl
set_option maxRecDepth 20000 in
set_option maxHeartbeats 4000000 in
theorem refCut_ok (c : UInt8) (s : ByteArray) (w : World) (hs : s.size ≤ 4194304) : Calls Tryz.prog 79 #[.string s, .int .u8 (c.toNat : Int)] w (CutP c s w) := by
  have H0 : Hid (CuR w w c s 0 0 [] (.slice none 0 0)) := ⟨World.ownsRow_nil _ _ _ _, Below.refl _ _, fun _ => rfl, fun h => absurd h (by omega), fun j _ h => absurd h (by omega), Nat.le_refl _, Nat.le_refl _, fun x hx => by cases hx⟩
  obtain ⟨RP, hRP⟩ : ∃ RP, RP = CutP c s w := ⟨_, rfl⟩
  have HP : Hid (∀ e w', CutP c s w e w' → RP e w') := fun e w' h => by rw [hRP]; exact h
  rw [← hRP]
  clear hRP
  go_enter Tryz.func79, Tryz.ntmps79
  go_wp2
  go_loopw [5, 6, 7] (fun sv fv iv wr => ∃ (i fr : Nat) (Q : List ByteArray), i ≤ s.size + 1 ∧ iv = .int .i64 i ∧ fv = .int .i64 fr ∧ fr ≤ i ∧ Q.length ≤ i ∧ CuR w wr c s i fr Q sv) (fun _ _ iv _ => s.size + 1 - (intOf iv).toNat)
  case atStart => exact ⟨0, 0, [], Nat.zero_le _, rfl, rfl, Nat.le_refl _, Nat.le_refl _, H0.out⟩
  case round =>
    clear H0
    obtain ⟨i, fr, Q, hi, rfl, rfl, hfi, hQi, hR⟩ := hrel
    have HR : Hid (CuR w wr c s i fr Q u5) := hR
    clear hR
    by_cases hlt : i < s.size
    · have hlt1 : (i : Int) ≤ (s.size : Int) := by omega
      have hne : ((i : Int) == (s.size : Int)) = false := by simp; omega
      have hne2 : ¬ (i : Int) = (s.size : Int) := by omega
      obtain ⟨b, hb⟩ : ∃ b, b = s[i] := ⟨_, rfl⟩
      have hb' : s[i].toNat = b.toNat := by rw [hb]
      have HBv : Hid (b = s[i]) := hb
      clear hb
      by_cases hbc : b = c
      · obtain ⟨t, ht⟩ : ∃ t, t = s.extract fr i := ⟨_, rfl⟩
        have ht' := ht.symm
        have HT : Hid (t = s.extract fr i) := ht
        have hq := (by decide : (0 : Nat) = 0)
        have hown : (wr.alloc (.cells #[.string t] 9)).ownsRow w.heap.size 9 1 u5 Q.length (Q.map Value.string) := own_below (HR.out.own) ((Below.refl _ _).alloc (Nat.le_refl _) _)
        have hlow := HR.out.bel.size
        have HOR : Hid (i = s.size ∨ ∃ h : i < s.size, s[i] = c) := Or.inr ⟨hlt, by rw [← HBv.out]; exact hbc⟩
        have hbc2 : ((b.toNat : Int) == (c.toNat : Int)) = true := by rw [hbc]; simp
        have hbc3 : (b.toNat : Int) = (c.toNat : Int) := by rw [hbc]
        clear ht hbc
        go_wp2_with (at_builtin; refine wpList_ap_one rfl (some 31) rfl _ _ rfl w.heap.size u5 Q.length (Q.map Value.string) rfl t rfl wr.heap.size rfl hown rfl hlow (by omega) ?_; intro v5 w5 ho5 hg5)
        have HN : Hid (CuR w w5 c s (i + 1) (i + 1) (Q ++ [s.extract fr i]) v5) := HR.out.more HOR.out ((Below.refl _ _).alloc (HR.out.bel.size) _) (by rw [← HT.out]; exact ho5) hg5
        clear ho5 hg5 hown
        go_roundw
        case rel => exact ⟨i + 1, i + 1, _, by omega, by go_num, by go_num, Nat.le_refl _, HN.out.q, HN.out⟩
        case measure => simp [intOf]; omega
      · have hbc2 : ((b.toNat : Int) == (c.toNat : Int)) = false := by
          simp only [beq_eq_false_iff_ne]
          exact fun e => hbc (UInt8.toNat_inj.1 (by omega))
        have hbc3 : ¬ (b.toNat : Int) = (c.toNat : Int) := fun e => hbc (UInt8.toNat_inj.1 (by omega))
        have HN : Hid (CuR w wr c s (i + 1) fr Q u5) := HR.out.skip hlt (by rw [← HBv.out]; exact hbc)
        clear hbc
        go_wp2
        go_roundw
        case rel => exact ⟨i + 1, fr, Q, by omega, by go_num, rfl, by omega, by omega, HN.out⟩
        case measure => simp [intOf]; omega
    · by_cases heq : i = s.size
      · obtain ⟨n, hn⟩ : ∃ n, n = s.size := ⟨_, rfl⟩
        have HNs : Hid (n = s.size) := hn
        have hns : s.size = n := hn.symm
        have hin : i = n := by omega
        subst hin
        have hfr : fr ≤ i := hfi
        obtain ⟨t, ht⟩ : ∃ t, t = s.extract fr i := ⟨_, rfl⟩
        have ht' := ht.symm
        have HT : Hid (t = s.extract fr i) := ht
        have hown : (wr.alloc (.cells #[.string t] 9)).ownsRow w.heap.size 9 1 u5 Q.length (Q.map Value.string) := own_below (HR.out.own) ((Below.refl _ _).alloc (Nat.le_refl _) _)
        have hlow := HR.out.bel.size
        have HOR : Hid (i = s.size ∨ ∃ h : i < s.size, s[i] = c) := Or.inl HNs.out
        have hsz : i ≤ 4194304 := by omega
        clear ht hn heq hlt
        go_wp2_with (at_builtin; refine wpList_ap_one rfl (some 31) rfl _ _ rfl w.heap.size u5 Q.length (Q.map Value.string) rfl t rfl wr.heap.size rfl hown rfl hlow (by omega) ?_; intro v5 w5 ho5 hg5)
        have HN : Hid (CuR w w5 c s (i + 1) (i + 1) (Q ++ [s.extract fr i]) v5) := HR.out.more HOR.out ((Below.refl _ _).alloc (HR.out.bel.size) _) (by rw [← HT.out]; exact ho5) hg5
        clear ho5 hg5 hown
        go_roundw
        case rel => exact ⟨i + 1, i + 1, _, by omega, by go_num, by go_num, Nat.le_refl _, HN.out.q, HN.out⟩
        case measure => simp [intOf]; omega
      · have hgt : ¬ (i : Int) ≤ (s.size : Int) := by omega
        have HD := HP.out _ _ (HR.out.done (by omega) hi)
        have HDH : Hid (RP (.returned u5) wr) := HD
        clear HD
        go_wp2
        exact HDH.out
end Go.Proofs.YtkbhckjpmgkgjaaGreatDoor
namespace Go.Proofs.YtkbhckjpmgkgjaaGreatDoor
open Go.RowKit

/-- Three words, none of them empty. -/
def okW (ws : List By) : Prop := ws.length = 3 ∧ ∀ x ∈ ws, x ≠ []
theorem range_nil : rangeS [] = none := by
  have hs : splitB 124 16 ([] : By) = [[]] := by rw [splitB, cutAt_none (by simp)]
  have hs2 : splitB 44 16 ([] : By) = [[]] := by rw [splitB, cutAt_none (by simp)]
  have ht : termS [] = none := rfl
  have ha : altS [] = none := by
    unfold altS gatherS
    rw [hs2, if_neg (by decide), gath1_cons, ht]
  unfold rangeS gatherS
  rw [hs, if_neg (by decide), gath1_cons, ha]
theorem parse_nil : parseV [] = none := rfl
theorem said_bad {st : List Pak} {ws : List By} (h : ¬ okW ws) : (saidE st ws).1 = 50 := by
  by_cases h3 : ws.length = 3
  · obtain ⟨a, n, s, rfl⟩ := three_of h3
    have he : a = [] ∨ n = [] ∨ s = [] := by
      apply Decidable.byContradiction
      intro hc
      simp only [not_or] at hc
      refine h ⟨rfl, fun x hx => ?_⟩
      simp only [List.mem_cons, List.not_mem_nil, or_false] at hx
      rcases hx with rfl | rfl | rfl
      · exact hc.1
      · exact hc.2.1
      · exact hc.2.2
    have hP : n = [] ∨ s = [] → ∀ A f, lineErr (rightP (tx n) (tx s) A) f = 50 := fun hns A f => by
      refine if_pos ?_
      unfold rightP
      rw [vb_tx, vb_tx]
      by_cases hn : nameI n = false
      · rw [if_pos hn]; exact Or.inl rfl
      · rw [if_neg hn]
        rcases hns with rfl | rfl
        · exact absurd rfl hn
        · rw [if_pos (by rw [parse_nil]; rfl)]; exact Or.inr (Or.inl rfl)
    have hN : n = [] ∨ s = [] → ∀ A f, lineErr (rightN ⟨tx n, tx s⟩ A) f = 50 := fun hns A f => by
      refine if_pos ?_
      unfold rightN
      rw [vb_tx, vb_tx]
      by_cases hn : nameI n = false
      · rw [if_pos hn]; exact Or.inl rfl
      · rw [if_neg hn]
        rcases hns with rfl | rfl
        · exact absurd rfl hn
        · rw [if_pos (by rw [range_nil]; rfl)]; exact Or.inr (Or.inr rfl)
    unfold saidE
    simp only
    by_cases ha : a = wPack
    · rw [if_pos ha]
      rcases he with he | he
      · exact absurd (he.symm.trans ha) (by decide)
      · unfold putPack packEr
        rw [hP he, if_pos (by decide)]
    · rw [if_neg ha]
      by_cases hb : a = wNeed
      · rw [if_pos hb]
        rcases he with he | he
        · exact absurd (he.symm.trans hb) (by decide)
        · unfold putNeed
          cases st.getLast? with
          | none => rfl
          | some p =>
            unfold needEr
            simp only
            rw [hN he, if_pos (by decide)]
      · rw [if_neg hb]
  · rw [saidE_not3 h3]
theorem line_said (st : List Pak) (l : By) : lineE st (l ++ [10]) = saidE st (cutAll 32 l) := by
  unfold lineE
  rw [if_pos (by rw [List.getLast?_concat]), List.dropLast_concat]
theorem line_bad {st : List Pak} {l : By} (h : ¬ okW (cutAll 32 l)) : (lineE st (l ++ [10])).1 = 50 := by rw [line_said]; exact said_bad h
theorem packE_none (A : List (ByteArray × ByteArray)) (n v : ByteArray) : packE A ⟨n, v, []⟩ = rightP n v A := by
  unfold packE
  split
  · rfl
  · rename_i h
    exact (Decidable.not_not.1 h).symm
theorem pack_said {st : List Pak} (hg : rightL st = 0) (n v : ByteArray) : (putPack st n v).1 = lineErr (packE (st.map Pak.key) ⟨n, v, []⟩) (decide (1024 < st.length + 1 ∨ 64 < 0)) ∧ ((putPack st n v).1 = 0 → (putPack st n v).2 = st ++ [⟨n, v, []⟩]) := by
  obtain ⟨⟨g1, _⟩, _⟩ := rightL_zero.1 hg
  have hd : decide (st.length = 1024) = decide (1024 < st.length + 1 ∨ 64 < 0) := decide_eq_decide.2 ⟨fun h => Or.inl (by omega), fun h => by omega⟩
  rw [packE_none, ← hd]
  unfold putPack
  by_cases he : packEr st n v ≠ 0
  · rw [if_pos he]
    exact ⟨rfl, fun h => absurd h he⟩
  · rw [if_neg he]
    exact ⟨(Decidable.not_not.1 he).symm, fun _ => rfl⟩
theorem need_said {st : List Pak} (hg : rightL st = 0) {k : Nat} (hk : st.length = k + 1) (n r : ByteArray) {p : Pak} (hp : p = st[k]'(by omega)) : (putNeed st n r).1 = lineErr (packE ((st.take k).map Pak.key) ⟨p.nm, p.vr, p.nd ++ [⟨n, r⟩]⟩) (decide (1024 < k + 1 ∨ 64 < p.nd.length + 1)) ∧ ((putNeed st n r).1 = 0 → (putNeed st n r).2 = st.set k ⟨p.nm, p.vr, p.nd ++ [⟨n, r⟩]⟩) := by
  obtain ⟨⟨g1, g2⟩, g3⟩ := rightL_zero.1 hg
  have hm : p ∈ st := by rw [hp]; exact List.getElem_mem _
  have hp64 := g2 p hm
  have hst : st = st.take k ++ [p] := by
    rw [hp, ← List.take_succ_eq_append_getElem (by omega), List.take_of_length_le (by omega)]
  rw [hst] at g3
  obtain ⟨_, k2⟩ := packsE_snoc0.1 g3
  obtain ⟨k3, k4⟩ := packE_zero.1 k2
  rw [List.nil_append] at k3
  have hE : packE ((st.take k).map Pak.key) ⟨p.nm, p.vr, p.nd ++ [⟨n, r⟩]⟩ = rightN ⟨n, r⟩ p.nd := by
    unfold packE
    simp only
    rw [k3, if_neg (by decide), needsE_snoc, k4, if_neg (by decide), List.nil_append]
  have hd : decide (p.nd.length = 64) = decide (1024 < k + 1 ∨ 64 < p.nd.length + 1) := decide_eq_decide.2 ⟨fun h => Or.inr (by omega), fun h => by omega⟩
  rw [hE, ← hd]
  obtain ⟨l1, l2⟩ := last_set hk ⟨p.nm, p.vr, p.nd ++ [⟨n, r⟩]⟩
  rw [← hp] at l1
  unfold putNeed
  rw [l1]
  simp only
  by_cases he : needEr p n r ≠ 0
  · rw [if_pos he]
    exact ⟨rfl, fun h => absurd h he⟩
  · rw [if_neg he]
    exact ⟨(Decidable.not_not.1 he).symm, fun _ => l2⟩
theorem needsE_cases : ∀ (l A : List Ned), needsE A l = 17 ∨ needsE A l = 21 ∨ needsE A l = 13 ∨ needsE A l = 0
  | [], _ => Or.inr (Or.inr (Or.inr rfl))
  | n :: l, A => by
    unfold needsE
    split
    · exact rightN_cases n A
    · exact needsE_cases l _
theorem packE_cases (A : List (ByteArray × ByteArray)) (p : Pak) : (packE A p = 17 ∨ packE A p = 20 ∨ packE A p = 21) ∨ packE A p = 13 ∨ packE A p = 0 := by
  unfold packE
  split
  · rcases rightP_cases p.nm p.vr A with h | h | h | h
    · exact Or.inl (Or.inl h)
    · exact Or.inl (Or.inr (Or.inl h))
    · exact Or.inr (Or.inl h)
    · exact Or.inr (Or.inr h)
  · rcases needsE_cases p.nd [] with h | h | h | h
    · exact Or.inl (Or.inl h)
    · exact Or.inl (Or.inr (Or.inr h))
    · exact Or.inr (Or.inl h)
    · exact Or.inr (Or.inr h)
theorem run_one (st : List Pak) (n : Nat) (x : By) (r : List By) : runL st n (x :: r) = if (lineE st x).1 ≠ 0 then ([], n, (lineE st x).1) else runL (lineE st x).2 (n + 1) r := by rw [runL]
/-- What a text's lines are ahead of a byte 10, and at its end. -/
theorem lines_at {s : ByteArray} {i fr : Nat} (hno : ∀ j, fr ≤ j → j < i → ∀ h : j < s.size, s[j] ≠ 10) (hle : fr ≤ i) (hi : i < s.size) (hc : s[i] = 10) : linesL ((vb s).drop fr) = (vb (s.extract fr i) ++ [10]) :: linesL ((vb s).drop (i + 1)) := by
  rw [drop_part hle hi, hc, linesL_cons (cut_part hno (by omega))]
theorem lines_end {s : ByteArray} {fr : Nat} (hno : ∀ j, fr ≤ j → j < s.size → ∀ h : j < s.size, s[j] ≠ 10) (st : List Pak) (n : Nat) : runL st n (linesL ((vb s).drop fr)) = if fr < s.size then ([], n, 50) else (st, 0, 0) := by
  by_cases h : fr < s.size
  · rw [if_pos h]
    have h10 : (10 : UInt8) ∉ (vb s).drop fr := by
      have h1 := cut_part (i := s.size) (fr := fr) (c := 10) hno (Nat.le_refl _)
      rw [vb_extract, List.take_of_length_le (by rw [vb_len]; omega)] at h1
      exact h1
    have hne : (vb s).drop fr ≠ [] := fun e => by
      have := congrArg List.length e
      rw [List.length_drop, vb_len] at this
      simp at this
      omega
    have hl : lineE st ((vb s).drop fr) = (50, st) := if_neg fun h2 => h10 (List.mem_of_getLast? h2)
    rw [linesL_last h10 hne, run_one, hl, if_pos (show (50 : Int) ≠ 0 by decide)]
  · rw [if_neg h, List.drop_of_length_le (by rw [vb_len]; omega), linesL_nil]
    rfl
end Go.Proofs.YtkbhckjpmgkgjaaGreatDoor
namespace Go.Proofs.YtkbhckjpmgkgjaaGreatDoor
open Go.RowKit

/-- What words tells. -/
def WdP (s : ByteArray) (w : World) (e : Ending) (w' : World) : Prop :=
  (¬ okW (cutAll 32 (vb s)) ∧ e = .returned (.slice none 0 0) ∧ Below w.heap.size w w') ∨
  (∃ (g cp : Nat) (a n r : ByteArray), e = .returned (.slice (some ⟨g, 0, none⟩) 3 cp) ∧ 3 ≤ cp ∧ cutAll 32 (vb s) = [vb a, vb n, vb r] ∧ a.size ≤ s.size ∧ n.size ≤ s.size ∧ r.size ≤ s.size ∧
    w'.cell? ⟨g, 0, none⟩ = some (.string a) ∧ w'.cell? ⟨g, 1, none⟩ = some (.string n) ∧ w'.cell? ⟨g, 2, none⟩ = some (.string r) ∧ okW (cutAll 32 (vb s)) ∧ w.heap.size ≤ g ∧ Below w.heap.size w w')
theorem CuR.empty {w wr : World} {c : UInt8} {s : ByteArray} {i : Nat} {Q : List ByteArray} {sv : Value} (h : CuR w wr c s i i Q sv) (hi : i = s.size ∨ ∃ h : i < s.size, s[i] = c) : [] ∈ cutAll c (vb s) := by
  have hle : i ≤ s.size := by
    rcases hi with h1 | ⟨h1, _⟩ <;> omega
  rw [← h.eq hle]
  refine List.mem_append_right _ ?_
  rcases hi with h1 | ⟨h1, h2⟩
  · rw [List.drop_of_length_le (by rw [vb_len]; omega), cutAll_none (cutAt_none (by simp))]
    exact List.mem_singleton.2 rfl
  · rw [drop_at h1, h2, show (c :: (vb s).drop (i + 1)) = [] ++ c :: (vb s).drop (i + 1) from rfl, cutAll_some (cutAt_some (by simp) _)]
    exact List.mem_cons_self
theorem CuR.words {w wr : World} {s : ByteArray} {i fr : Nat} {Q : List ByteArray} {sv : Value} (h : CuR w wr 32 s i fr Q sv) (hi : s.size < i) (hne : ∀ x ∈ Q, x.size ≠ 0) : cutAll 32 (vb s) = Q.map vb ∧ (Q.length = 3 ↔ okW (cutAll 32 (vb s))) := by
  have hQ := h.fin hi
  refine ⟨hQ.symm, ?_⟩
  unfold okW
  rw [← hQ, List.length_map]
  constructor
  · intro h3
    refine ⟨h3, fun x hx => ?_⟩
    obtain ⟨y, hy, rfl⟩ := List.mem_map.1 hx
    intro e
    have := congrArg List.length e
    rw [vb_len] at this
    exact hne y hy this
  · exact fun h3 => h3.1
set_option maxRecDepth 20000 in
set_option maxHeartbeats 4000000 in
theorem words_ok (s : ByteArray) (w : World) (hs : s.size ≤ 65536) : Calls Tryz.prog 27 #[.string s] w (WdP s w) := by
  have H0 : Hid (CuR w w 32 s 0 0 [] (.slice none 0 0)) := ⟨World.ownsRow_nil _ _ _ _, Below.refl _ _, fun _ => rfl, fun h => absurd h (by omega), fun j _ h => absurd h (by omega), Nat.le_refl _, Nat.le_refl _, fun x hx => by cases hx⟩
  obtain ⟨RP, hRP⟩ : ∃ RP, RP = WdP s w := ⟨_, rfl⟩
  have HP : Hid (∀ e w', WdP s w e w' → RP e w') := fun e w' h => by rw [hRP]; exact h
  rw [← hRP]
  clear hRP
  go_enter Tryz.func27, Tryz.ntmps27
  go_wp2
  go_loopw [3, 4, 5] (fun sv fv iv wr => ∃ (i fr : Nat) (Q : List ByteArray), i ≤ s.size + 1 ∧ iv = .int .i64 i ∧ fv = .int .i64 fr ∧ fr ≤ i ∧ Q.length ≤ i ∧ Hid (∀ x ∈ Q, x.size ≠ 0) ∧ CuR w wr 32 s i fr Q sv) (fun _ _ iv _ => s.size + 1 - (intOf iv).toNat)
  case atStart => exact ⟨0, 0, [], Nat.zero_le _, rfl, rfl, Nat.le_refl _, Nat.le_refl _, (fun x hx => by cases hx), H0.out⟩
  case round =>
    clear H0
    obtain ⟨i, fr, Q, hi, rfl, rfl, hfi, hQi, HNe, hR⟩ := hrel
    have HR : Hid (CuR w wr 32 s i fr Q u3) := hR
    clear hR
    by_cases hend : i = s.size ∨ ∃ h : i < s.size, s[i] = 32
    · have HEnd : Hid (i = s.size ∨ ∃ h : i < s.size, s[i] = 32) := hend
      have hle : i ≤ s.size := by rcases hend with h1 | ⟨h1, _⟩ <;> omega
      have hlt1 : (i : Int) ≤ (s.size : Int) := by omega
      by_cases hfe : fr = i
      · have HB : Hid (RP (.returned (.slice none 0 0)) wr) := HP.out _ _ (.inl ⟨fun h => by
          have hR := HR.out
          rw [hfe] at hR
          exact h.2 [] (hR.empty HEnd.out) rfl, rfl, HR.out.bel⟩)
        subst hfe
        rcases hend with h1 | ⟨h1, h2⟩
        · have h1' : ((fr : Int) == (s.size : Int)) = true := by simp; omega
          have h1'' : (fr : Int) = (s.size : Int) := by omega
          clear h1
          go_wp2
          exact HB.out
        · have hne : ((fr : Int) == (s.size : Int)) = false := by simp; omega
          have hne2 : ¬ (fr : Int) = (s.size : Int) := by omega
          have h2' : s[fr].toNat = 32 := by rw [h2]; rfl
          clear h2
          go_wp2
          exact HB.out
      · have hfe' : ((i : Int) == (fr : Int)) = false := by simp; omega
        have hfe2 : ¬ (i : Int) = (fr : Int) := by omega
        obtain ⟨t, ht⟩ : ∃ t, t = s.extract fr i := ⟨_, rfl⟩
        have ht' := ht.symm
        have HT : Hid (t = s.extract fr i) := ht
        have HTn : Hid (t.size ≠ 0) := by show _ ≠ _; rw [ht, ByteArray.size_extract]; omega
        have hown : (wr.alloc (.cells #[.string t] 9)).ownsRow w.heap.size 9 1 u3 Q.length (Q.map Value.string) := own_below (HR.out.own) ((Below.refl _ _).alloc (Nat.le_refl _) _)
        have hlow := HR.out.bel.size
        have HNx : Hid (∀ x ∈ Q ++ [t], x.size ≠ 0) := fun x hx => by
          rcases List.mem_append.1 hx with h1 | h1
          · exact HNe.out x h1
          · rw [List.mem_singleton.1 h1]; exact HTn.out
        have hsl : (i : Int) ≤ (s.size : Int) := by omega
        clear ht hfe
        rcases hend with h1 | ⟨h1, h2⟩
        · obtain ⟨n, hn⟩ : ∃ n, n = s.size := ⟨_, rfl⟩
          have HNs : Hid (n = s.size) := hn
          have hns : s.size = n := hn.symm
          have hin : i = n := by omega
          subst hin
          have hsz : i ≤ 65536 := by omega
          clear h1 hn
          go_wp2_with (at_builtin; refine wpList_ap_one rfl (some 31) rfl _ _ rfl w.heap.size u3 Q.length (Q.map Value.string) rfl t rfl wr.heap.size rfl hown rfl hlow (by omega) ?_; intro v5 w5 ho5 hg5)
          have HN : Hid (CuR w w5 32 s (i + 1) (i + 1) (Q ++ [t]) v5) := by
            have h := HR.out.more HEnd.out ((Below.refl _ _).alloc (HR.out.bel.size) _) (by rw [← HT.out]; exact ho5) hg5
            rw [← HT.out] at h
            exact h
          clear ho5 hg5 hown
          go_roundw
          case rel => exact ⟨i + 1, i + 1, _, by omega, by go_num, by go_num, Nat.le_refl _, HN.out.q, HNx, HN.out⟩
          case measure => simp [intOf]; omega
        · have hne : ((i : Int) == (s.size : Int)) = false := by simp; omega
          have hne2 : ¬ (i : Int) = (s.size : Int) := by omega
          have h2' : s[i].toNat = 32 := by rw [h2]; rfl
          clear h2
          go_wp2_with (at_builtin; refine wpList_ap_one rfl (some 31) rfl _ _ rfl w.heap.size u3 Q.length (Q.map Value.string) rfl t rfl wr.heap.size rfl hown rfl hlow (by omega) ?_; intro v5 w5 ho5 hg5)
          have HN : Hid (CuR w w5 32 s (i + 1) (i + 1) (Q ++ [t]) v5) := by
            have h := HR.out.more HEnd.out ((Below.refl _ _).alloc (HR.out.bel.size) _) (by rw [← HT.out]; exact ho5) hg5
            rw [← HT.out] at h
            exact h
          clear ho5 hg5 hown
          go_roundw
          case rel => exact ⟨i + 1, i + 1, _, by omega, by go_num, by go_num, Nat.le_refl _, HN.out.q, HNx, HN.out⟩
          case measure => simp [intOf]; omega
    · by_cases hlt : i < s.size
      · have hlt1 : (i : Int) ≤ (s.size : Int) := by omega
        have hne : ((i : Int) == (s.size : Int)) = false := by simp; omega
        have hne2 : ¬ (i : Int) = (s.size : Int) := by omega
        have hsi : s[i] ≠ 32 := fun e => hend (.inr ⟨hlt, e⟩)
        obtain ⟨b, hb⟩ : ∃ b, b = s[i] := ⟨_, rfl⟩
        have hb' : s[i].toNat = b.toNat := by rw [hb]
        have hbn : b.toNat ≠ 32 := fun e => hsi (by rw [← hb]; exact UInt8.toNat_inj.1 e)
        have hb2 : ((b.toNat : Int) == 32) = false := beqI (by omega)
        have hb3 : ¬ (b.toNat : Int) = 32 := by omega
        have HN : Hid (CuR w wr 32 s (i + 1) fr Q u3) := HR.out.skip hlt hsi
        clear hsi hend hb
        go_wp2
        go_roundw
        case rel => exact ⟨i + 1, fr, Q, by omega, by go_num, rfl, by omega, by omega, HNe, HN.out⟩
        case measure => simp [intOf]; omega
      · have hgt : ¬ (i : Int) ≤ (s.size : Int) := by
          have : i ≠ s.size := fun e => hend (.inl e)
          omega
        obtain ⟨hw1, hw2⟩ := HR.out.words (by omega) HNe.out
        have hsz := HR.out.sz
        obtain ⟨_, hor⟩ := id HR.out.own
        by_cases h3 : Q.length = 3
        · obtain ⟨g, cap, rfl, hcp, hgb⟩ : ∃ g cap, u3 = .slice (some ⟨g, 0, none⟩) Q.length cap ∧ Q.length ≤ cap ∧ w.heap.size ≤ g := by
            rcases hor with ⟨_, h0⟩ | ⟨g, cap, cur, h1, h2, _, h4, _⟩
            · omega
            · exact ⟨g, cap, h1, by simpa using h4, h2⟩
          have hcl : ∀ j (hj : j < Q.length), wr.cell? ⟨g, j, none⟩ = some (.string Q[j]) := fun j hj => by
            have := (HR.out.own).cellAt j (by simpa using hj)
            rw [this, List.getElem?_map, List.getElem?_eq_getElem hj]
            rfl
          obtain ⟨a, n, r, rfl⟩ := three_of h3
          have HD := HP.out (.returned (.slice (some ⟨g, 0, none⟩) 3 cap)) wr (.inr ⟨g, cap, a, n, r, rfl, hcp, hw1, hsz a (by simp), hsz n (by simp), hsz r (by simp), hcl 0 (by simp), hcl 1 (by simp), hcl 2 (by simp), hw2.1 rfl, hgb, HR.out.bel⟩)
          have HDD : Hid (RP (.returned (.slice (some ⟨g, 0, none⟩) 3 cap)) wr) := HD
          clear HD hcl hw1 hw2 hsz hor hgb
          go_wp2
          exact HDD.out
        · have HD := HP.out (.returned (.slice none 0 0)) wr (.inl ⟨fun h => h3 (hw2.2 h), rfl, HR.out.bel⟩)
          have HDD : Hid (RP (.returned (.slice none 0 0)) wr) := HD
          obtain ⟨a, c, rfl⟩ := slice_of HR.out.own
          have h3' : ((Q.length : Int) == 3) = false := by simp; omega
          have h32 : ¬ (Q.length : Int) = 3 := by omega
          clear HD hw1 hw2 hsz hor
          go_wp2
          exact HDD.out
end Go.Proofs.YtkbhckjpmgkgjaaGreatDoor
