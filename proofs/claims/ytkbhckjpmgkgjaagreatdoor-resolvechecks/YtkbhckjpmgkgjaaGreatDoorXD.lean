/- My own work: what the document's Parse and Has tell, and that the program's set has just the same versions. My own work: what the document's own Parse reads, byte by byte; of a version's text it is the version. My own work: the walk of the document's own Parse. My own work: the document's cut: a text between bytes of one kind. My own work: the document's term, by contract. My own work: the document's has. My own work: the document's Parse of ranges. My own work: the document's own pack: what is wrong with one of several packages. My own work: the document's own Right. My own work: rows of bytes of one's own that grow (after stage 8's text, in a namespace of their own); a line that is appended. -/
import Derived.Test.YtkbhckjpmgkgjaaGreatDoorXC
import Derived.Test.YtkbhckjpmgkgjaaGreatDoorR3
import Derived.Test.YtkbhckjpmgkgjaaGreatDoorPerm
import Derived.Test.YtkbhckjpmgkgjaaGreatDoorPermA
import Derived.Test.YtkbhckjpmgkgjaaGreatDoorV11
import Derived.Deep.AppendSrc
import Derived.Lib.AppendStr
import Derived.Lib.AppendZeros
import Derived.Lib.LazyBuf
import Derived.Laws.MakeOwn
import Derived.Laws.BytesArg
import Derived.Great.BuildSlice
namespace Go.Proofs.YtkbhckjpmgkgjaaGreatDoor
open Go.RowKit

/-- A term: its operation and its version. -/
abbrev Tm := By × Ver
/-- Each of a list, or none. -/
def mapO {α β : Type} (f : α → Option β) : List α → Option (List β)
  | [] => some []
  | x :: r => match f x with
    | none => none
    | some a => match mapO f r with
      | none => none
      | some l => some (a :: l)
theorem mapO_none {α β : Type} {f : α → Option β} {x : α} {r : List α} (h : f x = none) : mapO f (x :: r) = none := by rw [mapO, h]
theorem mapO_cons {α β : Type} {f : α → Option β} {x : α} {r : List α} {a : β} (h : f x = some a) : mapO f (x :: r) = (mapO f r).map (a :: ·) := by
  rw [mapO, h]
  cases mapO f r <;> rfl
def altR (l : By) : Option (List Tm) := if 16 < (cutAll 44 l).length then none else mapO termR (cutAll 44 l)
def parseR (l : By) : Option (List (List Tm)) := if 16 < (cutAll 124 l).length then none else mapO altR (cutAll 124 l)
def hasA (a : List Tm) (x : Ver) : Bool := a.all fun t => hasO t.1 t.2 x
def hasR (p : List (List Tm)) (x : Ver) : Bool := p.any fun a => hasA a x
section
variable {α : Type} {rd : By → Option (List Cut)} {rr : By → Option α} {f : Bool → Bool → Bool} {hs : α → Ver → Bool}
theorem gathL_pair (hf : f false false = false) (hp : ∀ l, (rr l = none ∧ rd l = none) ∨ ∃ a L, rr l = some a ∧ rd l = some L ∧ SetOk L ∧ ∀ x, mayV x = true → hasV L x = hs a x) (hj : ∀ A B x, SetOk A → SetOk B → hasV (mk2 f A B) x = f (hasV A x) (hasV B x)) :
    ∀ (P : List By) (J : List Cut), SetOk J → (mapO rr P = none ∧ gathL rd (mk2 f) J P = none) ∨ ∃ ls L, mapO rr P = some ls ∧ gathL rd (mk2 f) J P = some L ∧ SetOk L ∧ ∀ x, mayV x = true → hasV L x = ls.foldl (fun b a => f b (hs a x)) (hasV J x) := by
  intro P
  induction P with
  | nil => intro J hJ; exact Or.inr ⟨[], J, rfl, rfl, hJ, fun x _ => rfl⟩
  | cons y r ih =>
    intro J hJ
    rcases hp y with ⟨h1, h2⟩ | ⟨a, L, h1, h2, h3, h4⟩
    · exact Or.inl ⟨mapO_none h1, by rw [gathL, h2]⟩
    · have e : gathL rd (mk2 f) J (y :: r) = gathL rd (mk2 f) (mk2 f J L) r := by rw [gathL, h2]
      rw [e, mapO_cons h1]
      rcases ih (mk2 f J L) (mk2_ok hf hJ h3) with ⟨k1, k2⟩ | ⟨ls, M, k1, k2, k3, k4⟩
      · exact Or.inl ⟨by rw [k1]; rfl, k2⟩
      · refine Or.inr ⟨a :: ls, M, by rw [k1]; rfl, k2, k3, fun x hx => ?_⟩
        rw [k4 x hx, hj J L x hJ h3, h4 x hx]
        rfl
theorem gath1_pair (hf : f false false = false) (hp : ∀ l, (rr l = none ∧ rd l = none) ∨ ∃ a L, rr l = some a ∧ rd l = some L ∧ SetOk L ∧ ∀ x, mayV x = true → hasV L x = hs a x) (hj : ∀ A B x, SetOk A → SetOk B → hasV (mk2 f A B) x = f (hasV A x) (hasV B x)) :
    ∀ (P : List By), P ≠ [] → (mapO rr P = none ∧ gath1 rd (mk2 f) P = none) ∨ ∃ a ls L, mapO rr P = some (a :: ls) ∧ gath1 rd (mk2 f) P = some L ∧ SetOk L ∧ ∀ x, mayV x = true → hasV L x = ls.foldl (fun b a => f b (hs a x)) (hs a x) := by
  intro P h0
  cases P with
  | nil => exact absurd rfl h0
  | cons y r =>
    rw [gath1_cons]
    rcases hp y with ⟨h1, h2⟩ | ⟨a, L, h1, h2, h3, h4⟩
    · exact Or.inl ⟨mapO_none h1, by rw [h2]⟩
    · rw [h2, mapO_cons h1]
      rcases gathL_pair hf hp hj r L h3 with ⟨k1, k2⟩ | ⟨ls, M, k1, k2, k3, k4⟩
      · exact Or.inl ⟨by rw [k1]; rfl, k2⟩
      · exact Or.inr ⟨a, ls, M, by rw [k1]; rfl, k2, k3, fun x hx => by rw [k4 x hx, h4 x hx]⟩
theorem gather_pair (c : UInt8) (hf : f false false = false) (hp : ∀ l, (rr l = none ∧ rd l = none) ∨ ∃ a L, rr l = some a ∧ rd l = some L ∧ SetOk L ∧ ∀ x, mayV x = true → hasV L x = hs a x) (hj : ∀ A B x, SetOk A → SetOk B → hasV (mk2 f A B) x = f (hasV A x) (hasV B x)) (l : By) :
    ((if 16 < (cutAll c l).length then none else mapO rr (cutAll c l)) = none ∧ gatherS c rd (mk2 f) l = none) ∨ ∃ a ls L, (if 16 < (cutAll c l).length then none else mapO rr (cutAll c l)) = some (a :: ls) ∧ gatherS c rd (mk2 f) l = some L ∧ SetOk L ∧ ∀ x, mayV x = true → hasV L x = ls.foldl (fun b a => f b (hs a x)) (hs a x) := by
  unfold gatherS
  rcases split16 c l with ⟨h1, h2⟩ | ⟨h1, h2⟩
  · rw [if_pos h1, if_pos h2]
    exact Or.inl ⟨rfl, rfl⟩
  · rw [h2, if_neg (by omega), if_neg (by omega)]
    exact gath1_pair hf hp hj _ fun e => by
      have := cutAll_pos c l
      rw [e] at this
      exact absurd this (by decide)
end
theorem foldl_and {α : Type} (g : α → Bool) : ∀ (l : List α) (b : Bool), l.foldl (fun b a => b && g a) b = (b && l.all g)
  | [], b => by simp
  | a :: l, b => by
    rw [List.foldl_cons, foldl_and g l, List.all_cons, Bool.and_assoc]
theorem foldl_or {α : Type} (g : α → Bool) : ∀ (l : List α) (b : Bool), l.foldl (fun b a => b || g a) b = (b || l.any g)
  | [], b => by simp
  | a :: l, b => by
    rw [List.foldl_cons, foldl_or g l, List.any_cons, Bool.or_assoc]
theorem tm_pair (l : By) : (termR l = none ∧ termS l = none) ∨ ∃ a L, termR l = some a ∧ termS l = some L ∧ SetOk L ∧ ∀ x, mayV x = true → hasV L x = hasO a.1 a.2 x := by
  rcases term_pair l with h | ⟨op, v, L, h1, h2, h3⟩
  · exact Or.inl h
  · refine Or.inr ⟨(op, v), L, h1, h2, (termS_ok h2).1, fun x hx => ?_⟩
    rcases h3 with ⟨rfl, rfl, rfl⟩ | ⟨_, h4, h5⟩
    · rw [has_all hx]; rfl
    · exact has_op hx h4.cnt.1 h5
/-- Alternatives: neither is one, or both are, with the same versions. -/
theorem alt_pair (l : By) : (altR l = none ∧ altS l = none) ∨ ∃ a L, altR l = some a ∧ altS l = some L ∧ SetOk L ∧ ∀ x, mayV x = true → hasV L x = hasA a x := by
  rcases gather_pair (f := fAnd) (hs := fun (a : Tm) x => hasO a.1 a.2 x) 44 rfl tm_pair (fun A B x hA hB => has_and hA hB x) l with ⟨h1, h2⟩ | ⟨a, ls, L, h1, h2, h3, h4⟩
  · exact Or.inl ⟨h1, h2⟩
  · refine Or.inr ⟨a :: ls, L, h1, h2, h3, fun x hx => (h4 x hx).trans ?_⟩
    exact (foldl_and (fun a : Tm => hasO a.1 a.2 x) ls _).trans rfl
/-- Ranges: neither is one, or both are, with the same versions. -/
theorem range_pair (l : By) : (parseR l = none ∧ rangeS l = none) ∨ ∃ p L, parseR l = some p ∧ rangeS l = some L ∧ SetOk L ∧ ∀ x, mayV x = true → hasV L x = hasR p x := by
  rcases gather_pair (f := fOr) (hs := hasA) 124 rfl alt_pair (fun A B x hA hB => has_or hA hB x) l with ⟨h1, h2⟩ | ⟨a, ls, L, h1, h2, h3, h4⟩
  · exact Or.inl ⟨h1, h2⟩
  · refine Or.inr ⟨a :: ls, L, h1, h2, h3, fun x hx => (h4 x hx).trans ?_⟩
    exact (foldl_or (fun a => hasA a x) ls _).trans rfl
end Go.Proofs.YtkbhckjpmgkgjaaGreatDoor
namespace Go.Proofs.YtkbhckjpmgkgjaaGreatDoor

/-- One byte more. -/
def stepR (u : Ver) (b : UInt8) : Option Ver :=
  if b = 46 then (if 4 < u.cnt + 1 then none else some { u with cnt := u.cnt + 1 })
  else if digB b = true ∧ nAt u (u.cnt.toNat - 1) ≤ 999999999 then some (setN u (u.cnt.toNat - 1) (nAt u (u.cnt.toNat - 1) * 10 + ((b.toNat - 48 : Nat) : Int))) else none
/-- The bytes up to the end, or to a dash. -/
def refR : By → Ver → Option Ver
  | [], u => some u
  | b :: r, u => if b = 45 then some { u with tag := tx r } else (stepR u b).bind (refR r)
def startV : Ver := ⟨0, 0, 0, 0, 1, ⟨#[]⟩⟩
theorem refR_dash (r : By) (u : Ver) : refR (45 :: r) u = some { u with tag := tx r } := by unfold refR; rw [if_pos rfl]
theorem refR_point (r : By) (u : Ver) (h : u.cnt + 1 ≤ 4) : refR (46 :: r) u = refR r { u with cnt := u.cnt + 1 } := by
  rw [refR, if_neg (by decide)]
  unfold stepR
  rw [if_pos rfl, if_neg (by omega)]
  rfl
theorem refR_digit (b : UInt8) (r : By) (u : Ver) (hb : digB b = true) (h : nAt u (u.cnt.toNat - 1) ≤ 999999999) : refR (b :: r) u = refR r (setN u (u.cnt.toNat - 1) (nAt u (u.cnt.toNat - 1) * 10 + ((b.toNat - 48 : Nat) : Int))) := by
  have h1 := (digB_iff b).1 hb
  have h45 : ¬ b = 45 := fun e => by rw [e] at h1; exact absurd h1 (by decide)
  have h46 : ¬ b = 46 := fun e => by rw [e] at h1; exact absurd h1 (by decide)
  rw [refR, if_neg h45]
  unfold stepR
  rw [if_neg h46, if_pos ⟨hb, h⟩]
  rfl
theorem setN_cnt (u : Ver) (k : Nat) (y : Int) : (setN u k y).cnt = u.cnt := by unfold setN; split <;> rfl
theorem setN_tag (u : Ver) (k : Nat) (y : Int) : (setN u k y).tag = u.tag := by unfold setN; split <;> rfl
theorem setN_set (u : Ver) (k : Nat) (y z : Int) : setN (setN u k y) k z = setN u k z := by
  match k with
  | 0 => rfl
  | 1 => rfl
  | 2 => rfl
  | n + 3 => rfl
theorem setN_self (u : Ver) (k : Nat) : setN u k (nAt u k) = u := by
  match k with
  | 0 => rfl
  | 1 => rfl
  | 2 => rfl
  | n + 3 => rfl
theorem nAt_set (u : Ver) (k : Nat) (y : Int) : nAt (setN u k y) k = y := by
  match k with
  | 0 => rfl
  | 1 => rfl
  | 2 => rfl
  | n + 3 => rfl
/-- Digits, one behind another. -/
theorem refR_digits (l r : By) (hl : ∀ b ∈ l, digB b = true) : ∀ (u : Ver) (m : Nat), nAt u (u.cnt.toNat - 1) = (m : Int) → numG m l ≤ 999999999 → refR (l ++ r) u = refR r (setN u (u.cnt.toNat - 1) (numG m l : Nat)) := by
  induction l with
  | nil =>
    intro u m hm _
    show refR r u = refR r (setN u _ ((m : Nat) : Int))
    rw [← hm, setN_self]
  | cons b l ih =>
    intro u m hm hn
    have hge : m ≤ numG m (b :: l) := num_ge m (b :: l)
    have hb := hl b (List.mem_cons_self ..)
    show refR (b :: (l ++ r)) u = _
    rw [refR_digit b (l ++ r) u hb (by rw [hm]; omega), hm]
    have e : ((m : Int) * 10 + ((b.toNat - 48 : Nat) : Int)) = ((10 * m + (b.toNat - 48) : Nat) : Int) := by omega
    rw [e]
    have h2 := ih (fun x hx => hl x (List.mem_cons_of_mem _ hx)) (setN u (u.cnt.toNat - 1) ((10 * m + (b.toNat - 48) : Nat) : Int)) (10 * m + (b.toNat - 48)) (by rw [setN_cnt, nAt_set]) hn
    rw [h2, setN_cnt, setN_set]
    rfl
/-- A number's numeral, where nought stood. -/
theorem refR_num (n : Nat) (r : By) (u : Ver) (hn : n ≤ 999999999) (h0 : nAt u (u.cnt.toNat - 1) = 0) : refR (Lib.itoa (n : Int) ++ r) u = refR r (setN u (u.cnt.toNat - 1) (n : Int)) := by
  have e : numG 0 (Lib.decDigits n) = n := dec_num n
  rw [itoa_nat, refR_digits (Lib.decDigits n) r (dec_dig n) u 0 h0 (by rw [e]; exact hn), e]
theorem refR_tag (t : ByteArray) (u : Ver) (h : u.tag = ⟨#[]⟩) : refR (tagT (vb t)) u = some { u with tag := t } := by
  unfold tagT
  by_cases ht : vb t = []
  · rw [if_pos ht]
    have : t = ⟨#[]⟩ := vb_nil ht
    rw [this]
    show some u = _
    rw [← h]
  · rw [if_neg ht, refR_dash, tx_vb]
theorem refR_text {v : Ver} (h : May v) : refR (textV v) startV = some v := by
  obtain ⟨c, hc⟩ : ∃ c : Nat, v.cnt = (c : Int) := ⟨v.cnt.toNat, by have := h.cnt; omega⟩
  have hc4 : 1 ≤ c ∧ c ≤ 4 := by have := h.cnt; omega
  obtain ⟨n0, n1, n2, n3, cn, t⟩ := v
  obtain ⟨_, _, ⟨h3, h4, h5⟩, ⟨h6, h7, h8⟩, ⟨h9, h10, h11⟩, ⟨h12, h13, h14⟩⟩ := h
  simp only at *
  subst hc
  obtain ⟨a, rfl⟩ := Int.eq_ofNat_of_zero_le h3
  obtain ⟨b, rfl⟩ := Int.eq_ofNat_of_zero_le h6
  obtain ⟨x, rfl⟩ := Int.eq_ofNat_of_zero_le h9
  obtain ⟨y, rfl⟩ := Int.eq_ofNat_of_zero_le h12
  unfold textV
  rw [parts_list (c := c) rfl hc4.2]
  have hcc : c = 1 ∨ c = 2 ∨ c = 3 ∨ c = 4 := by omega
  rcases hcc with rfl | rfl | rfl | rfl
  · obtain rfl : b = 0 := by omega
    obtain rfl : x = 0 := by omega
    obtain rfl : y = 0 := by omega
    show refR (Lib.itoa (a : Int) ++ tagT (vb t)) startV = _
    rw [refR_num a _ startV (by omega) rfl, refR_tag t _ rfl]
    rfl
  · obtain rfl : x = 0 := by omega
    obtain rfl : y = 0 := by omega
    show refR ((Lib.itoa (a : Int) ++ 46 :: Lib.itoa (b : Int)) ++ tagT (vb t)) startV = _
    rw [List.append_assoc, refR_num a _ startV (by omega) rfl]
    show refR (46 :: (Lib.itoa (b : Int) ++ tagT (vb t))) _ = _
    rw [refR_point _ _ (by first | (show (1 : Int) + 1 ≤ 4; decide) | (show ((1 : Int) + 1) + 1 ≤ 4; decide) | (show (((1 : Int) + 1) + 1) + 1 ≤ 4; decide)), refR_num b _ _ (by omega) rfl, refR_tag t _ rfl]
    rfl
  · obtain rfl : y = 0 := by omega
    show refR ((Lib.itoa (a : Int) ++ 46 :: (Lib.itoa (b : Int) ++ 46 :: Lib.itoa (x : Int))) ++ tagT (vb t)) startV = _
    rw [List.append_assoc, refR_num a _ startV (by omega) rfl]
    show refR (46 :: ((Lib.itoa (b : Int) ++ 46 :: Lib.itoa (x : Int)) ++ tagT (vb t))) _ = _
    rw [refR_point _ _ (by first | (show (1 : Int) + 1 ≤ 4; decide) | (show ((1 : Int) + 1) + 1 ≤ 4; decide) | (show (((1 : Int) + 1) + 1) + 1 ≤ 4; decide)), List.append_assoc, refR_num b _ _ (by omega) rfl]
    show refR (46 :: (Lib.itoa (x : Int) ++ tagT (vb t))) _ = _
    rw [refR_point _ _ (by first | (show (1 : Int) + 1 ≤ 4; decide) | (show ((1 : Int) + 1) + 1 ≤ 4; decide) | (show (((1 : Int) + 1) + 1) + 1 ≤ 4; decide)), refR_num x _ _ (by omega) rfl, refR_tag t _ rfl]
    rfl
  · show refR ((Lib.itoa (a : Int) ++ 46 :: (Lib.itoa (b : Int) ++ 46 :: (Lib.itoa (x : Int) ++ 46 :: Lib.itoa (y : Int)))) ++ tagT (vb t)) startV = _
    rw [List.append_assoc, refR_num a _ startV (by omega) rfl]
    show refR (46 :: ((Lib.itoa (b : Int) ++ 46 :: (Lib.itoa (x : Int) ++ 46 :: Lib.itoa (y : Int))) ++ tagT (vb t))) _ = _
    rw [refR_point _ _ (by first | (show (1 : Int) + 1 ≤ 4; decide) | (show ((1 : Int) + 1) + 1 ≤ 4; decide) | (show (((1 : Int) + 1) + 1) + 1 ≤ 4; decide)), List.append_assoc, refR_num b _ _ (by omega) rfl]
    show refR (46 :: ((Lib.itoa (x : Int) ++ 46 :: Lib.itoa (y : Int)) ++ tagT (vb t))) _ = _
    rw [refR_point _ _ (by first | (show (1 : Int) + 1 ≤ 4; decide) | (show ((1 : Int) + 1) + 1 ≤ 4; decide) | (show (((1 : Int) + 1) + 1) + 1 ≤ 4; decide)), List.append_assoc, refR_num x _ _ (by omega) rfl]
    show refR (46 :: (Lib.itoa (y : Int) ++ tagT (vb t))) _ = _
    rw [refR_point _ _ (by first | (show (1 : Int) + 1 ≤ 4; decide) | (show ((1 : Int) + 1) + 1 ≤ 4; decide) | (show (((1 : Int) + 1) + 1) + 1 ≤ 4; decide)), refR_num y _ _ (by omega) rfl, refR_tag t _ rfl]
    rfl
/-- Parse, by what is read and its text. -/
theorem parse_ref_none {l : By} (h : refR l startV = none) : parseV l = none := by
  cases e : parseV l with
  | none => rfl
  | some v =>
    obtain ⟨h1, h2⟩ := parse_back e
    rw [← h2, refR_text h1] at h
    cases h
theorem parse_ref_some {l : By} {u : Ver} (h : refR l startV = some u) : parseV l = if mayV u = true ∧ textV u = l then some u else none := by
  by_cases hc : mayV u = true ∧ textV u = l
  · rw [if_pos hc, ← hc.2]
    exact parse_text ((mayV_iff u).1 hc.1)
  · rw [if_neg hc]
    cases e : parseV l with
    | none => rfl
    | some v =>
      obtain ⟨h1, h2⟩ := parse_back e
      have h3 := refR_text h1
      rw [h2, h] at h3
      obtain rfl := Option.some.inj h3
      exact absurd ⟨(mayV_iff u).2 h1, h2⟩ hc
end Go.Proofs.YtkbhckjpmgkgjaaGreatDoor
namespace Go.Proofs.YtkbhckjpmgkgjaaGreatDoor
open Go.RowKit

theorem resultsRp : Tryz.f50.results = #[.cell 2 104, .tmp 3] := by kernel_rfl
/-- What holds behind k bytes. -/
structure PrR (w wr : World) (gu : Nat) (s : ByteArray) (k : Nat) (u : Ver) : Prop where
  zero : Row wr w.heap.size zeroC 104
  ver : Row wr gu (verC u) 104
  far : w.heap.size < gu
  bel : Below w.heap.size w wr
  read : refR (vb s) startV = refR ((vb s).drop k) u
  tag : u.tag = ⟨#[]⟩
  cnt : 1 ≤ u.cnt ∧ u.cnt ≤ 4
  small : ∀ j, j < 4 → 0 ≤ nAt u j ∧ nAt u j ≤ 9999999999
theorem PrR.set {w wr : World} {gu : Nat} {s : ByteArray} {k : Nat} {u u' : Ver} {i : Nat} {x : Value} (h : PrR w wr gu s k u) (hr : (verC u).setIfInBounds i x = verC u') (h1 : refR ((vb s).drop k) u = refR ((vb s).drop (k + 1)) u') (h2 : u'.tag = ⟨#[]⟩) (h3 : 1 ≤ u'.cnt ∧ u'.cnt ≤ 4) (h4 : ∀ j, j < 4 → 0 ≤ nAt u' j ∧ nAt u' j ≤ 9999999999) : PrR w (wr.setCell ⟨gu, i, none⟩ x) gu s (k + 1) u' :=
  ⟨h.zero.setCell_other (by have := h.far; omega) _, by rw [← hr]; exact h.ver.setCell x, h.far, h.bel.trans (below_set (by have := h.far; omega) _ _), h.read.trans h1, h2, h3, h4⟩
theorem PrR.drew {w wr : World} {gu : Nat} {s : ByteArray} {k : Nat} {u : Ver} (h : PrR w wr gu s k u) : PrR w wr.drew gu s k u := ⟨h.zero, h.ver, h.far, h.bel.drew, h.read, h.tag, h.cnt, h.small⟩
theorem drop_at {s : ByteArray} {k : Nat} (h : k < s.size) : (vb s).drop k = s[k] :: (vb s).drop (k + 1) := by
  rw [List.drop_eq_getElem_cons (by rw [vb_len]; exact h)]
  rfl
theorem nAt_other (u : Ver) (k j : Nat) (y : Int) (h : ¬ j = k) (hj : j < 4) (hk : k < 4) : nAt (setN u k y) j = nAt u j := by
  match k, hk, j, hj with
  | 0, _, 0, _ => exact absurd rfl h
  | 0, _, 1, _ => rfl
  | 0, _, 2, _ => rfl
  | 0, _, 3, _ => rfl
  | 1, _, 0, _ => rfl
  | 1, _, 1, _ => exact absurd rfl h
  | 1, _, 2, _ => rfl
  | 1, _, 3, _ => rfl
  | 2, _, 0, _ => rfl
  | 2, _, 1, _ => rfl
  | 2, _, 2, _ => exact absurd rfl h
  | 2, _, 3, _ => rfl
  | 3, _, 0, _ => rfl
  | 3, _, 1, _ => rfl
  | 3, _, 2, _ => rfl
  | 3, _, 3, _ => exact absurd rfl h
theorem refR_other {b : UInt8} {r : By} {u : Ver} (h45 : b ≠ 45) (h46 : b ≠ 46) (hd : digB b = false) : refR (b :: r) u = none := by
  rw [refR, if_neg h45]
  unfold stepR
  rw [if_neg h46, if_neg (fun h => by rw [hd] at h; cases h.1)]
  rfl
theorem refR_big {b : UInt8} {r : By} {u : Ver} (h45 : b ≠ 45) (h46 : b ≠ 46) (hb : 999999999 < nAt u (u.cnt.toNat - 1)) : refR (b :: r) u = none := by
  rw [refR, if_neg h45]
  unfold stepR
  rw [if_neg h46, if_neg (fun h => by omega)]
  rfl
theorem refR_many {r : By} {u : Ver} (h : 4 < u.cnt + 1) : refR (46 :: r) u = none := by
  rw [refR, if_neg (by decide)]
  unfold stepR
  rw [if_pos rfl, if_pos h]
  rfl
set_option maxRecDepth 20000 in
set_option maxHeartbeats 16000000 in
theorem refParse_ok (s : ByteArray) (w : World) (hs : s.size ≤ 140737488355328) : Calls Tryz.prog 50 #[.string s] w fun e w' => e = .returned (parseE s) ∧ Below w.heap.size w w' := by
  have HL : Hid _ := vb_len s
  have hr0 : PrR w ((w.alloc (.cells zeroC 104)).alloc (.cells (verC startV) 104)) (w.heap.size + 1) s 0 startV := by
    refine ⟨(Row.new w _ _).alloc _, ?_, by omega, ((Below.refl _ _).alloc (Nat.le_refl _) _).alloc (by simp) _, rfl, rfl, by decide, fun j hj => ?_⟩
    · have h := Row.new (w.alloc (.cells zeroC 104)) (verC startV) 104
      rw [World.size_alloc] at h
      exact h
    · match j, hj with
      | 0, _ => decide
      | 1, _ => decide
      | 2, _ => decide
      | 3, _ => decide
  obtain ⟨w1, hw1⟩ : ∃ x, x = w.alloc (.cells zeroC 104) := ⟨_, rfl⟩
  have hs1 : w1.heap.size = w.heap.size + 1 := by rw [hw1]; simp
  have hw1' := hw1.symm
  rw [← hw1] at hr0
  obtain ⟨gu, hgu⟩ : ∃ g, g = w1.heap.size := ⟨_, rfl⟩
  rw [← hs1, ← hgu] at hr0
  obtain ⟨w2, hw2⟩ : ∃ x, x = w1.alloc (.cells (verC startV) 104) := ⟨_, rfl⟩
  rw [← hw2] at hr0
  have hw2' : w1.alloc (.cells #[.int .i64 0, .int .i64 0, .int .i64 0, .int .i64 0, .int .i64 1, .string ⟨#[]⟩] 104) = w2 := hw2.symm
  have HGU : Hid (gu = w1.heap.size) := hgu
  have HR0 : Hid (PrR w w2 gu s 0 startV) := hr0
  clear hw1 hs1 hw2 hr0 hgu
  go_enter Tryz.func50, Tryz.ntmps50
  go_wp2_with (refine wpList_store_new rfl 104 _ _ rfl w1 zeroC #[.int .i64 0, .int .i64 0, .int .i64 0, .int .i64 0, .int .i64 1, .string ⟨#[]⟩] 104 rfl w1.heap.size rfl rfl rfl infoRs rfl (verC_one ⟨0, 0, 0, 0, 1, ⟨#[]⟩⟩) ?_)
  rw [← HGU.out]
  clear hw1' hw2' HGU
  go_loopw [5] (fun i wr => ∃ (k : Nat) (u : Ver), k ≤ s.size ∧ i = .int .i64 k ∧ PrR w wr gu s k u) (fun i _ => s.size - (intOf i).toNat)
  case atStart => exact ⟨0, startV, Nat.zero_le _, rfl, HR0.out⟩
  case round =>
    obtain ⟨k, u, hk, rfl, hR⟩ := hrel
    have HR : Hid (PrR w wr gu s k u) := hR
    clear hR
    by_cases hlt : k < s.size
    · obtain ⟨c, hc⟩ : ∃ c, c = s[k] := ⟨_, rfl⟩
      have hc' : s[k].toNat = c.toNat := by rw [hc]
      have HD : Hid ((vb s).drop k = c :: (vb s).drop (k + 1)) := by show _ = _; rw [drop_at hlt, hc]
      have hlt' : (k : Int) < (s.size : Int) := by omega
      have hcl : c.toNat < 256 := UInt8.toNat_lt c
      clear hc
      obtain ⟨cc, hcc⟩ : ∃ cc : Nat, u.cnt = (cc : Int) := ⟨u.cnt.toNat, by have := HR.out.cnt; omega⟩
      have hcc4 : 1 ≤ cc ∧ cc ≤ 4 := by have := HR.out.cnt; omega
      have e4 : (verC u)[4]? = some (.int .i64 (cc : Int)) := by show some (Value.int .i64 u.cnt) = _; rw [hcc]
      have c4 : wr.cell? ⟨gu, 4, none⟩ = some (.int .i64 (cc : Int)) := (HR.out.ver.cell 4).trans e4
      have f4 := HR.out.ver.frozen 4
      by_cases h45 : c = 45
      · have hcv : c.toNat = 45 := by rw [h45]; rfl
        have c5 : wr.cell? ⟨gu, 5, none⟩ = some (.string u.tag) := (HR.out.ver.cell 5).trans rfl
        have f5 := HR.out.ver.frozen 5
        obtain ⟨t, ht⟩ : ∃ t, t = s.extract (k + 1) s.size := ⟨_, rfl⟩
        have ht' := ht.symm
        have HTX : Hid (tx ((vb s).drop (k + 1)) = t) := by
          show _ = _
          rw [ht]
          apply vb_inj
          rw [vb_tx, vb_extract, List.take_of_length_le (by rw [vb_len]; omega : (vb s).length ≤ s.size)]
        obtain ⟨ut, hut⟩ : ∃ ut : Ver, ut = { u with tag := t } := ⟨_, rfl⟩
        have HFt : Hid (refR (vb s) startV = some ut) := by
          show _ = _
          rw [HR.out.read, HD.out, h45, refR_dash, HTX.out, hut]
        have hts : ut.tag.size ≤ 140737488355328 := by rw [hut]; show t.size ≤ _; rw [ht, ByteArray.size_extract]; omega
        have hRt : Row (wr.setCell ⟨gu, 5, none⟩ (.string t)) gu (verC ut) 104 := by
          have h := HR.out.ver.setCell (i := 5) (.string t)
          rw [hut]
          exact h
        have hZt : Row (wr.setCell ⟨gu, 5, none⟩ (.string t)) w.heap.size zeroC 104 := HR.out.zero.setCell_other (by have := HR.out.far; omega) _
        have hBt : Below w.heap.size w (wr.setCell ⟨gu, 5, none⟩ (.string t)) := HR.out.bel.trans (below_set (by have := HR.out.far; omega) _ _)
        obtain ⟨wt, hwt⟩ : ∃ x, x = wr.setCell ⟨gu, 5, none⟩ (.string t) := ⟨_, rfl⟩
        rw [← hwt] at hRt hZt hBt
        have hwt' := hwt.symm
        have HRt : Hid (Row wt gu (verC ut) 104) := hRt
        have HZt : Hid (Row wt w.heap.size zeroC 104) := hZt
        have HBt : Hid (Below w.heap.size w wt) := hBt
        clear hwt hRt hZt hBt hut ht h45 e4 c4 f4
        have HPV : Hid (parseV (vb s) = if mayV ut = true ∧ textV ut = vb s then some ut else none) := parse_ref_some HFt.out
        have htx := refText_ok ut wt hts
        cases hmu : mayV ut with
        | false =>
          rw [textE_no hmu] at htx
          have HE : Hid (parseE s = .tuple #[verV zeroV, .int .i64 20]) := parseE_no (by rw [HPV.out, if_neg (fun h => by rw [hmu] at h; cases h.1)])
          clear hmu
          go_wp2_with (refine wpList_load_row rfl 104 _ rfl gu rfl 104 (verC ut) (0, 0) _ HRt.out Tryz.underlying104 rfl infoRs ?_)
          refine htx.mono ?_
          rintro e wy ⟨rfl, hby⟩
          have HZy : Hid (Row wy w.heap.size zeroC 104) := Row.below HZt.out hby (Row.lt HZt.out)
          have HBy : Hid (Below w.heap.size w wy) := HBt.out.trans (hby.mono HBt.out.size)
          clear htx hby
          go_wp2_with (refine wpList_store_row rfl 104 _ _ rfl w.heap.size zeroC rfl rfl 104 zeroC HZy.out infoRs rfl zeroC_one ?_)
          exact bodyPost_ret (results_cell_row2 resultsRp _ _ w.heap.size 104 zeroC (0, 0) _ rfl (Row.setRow HZy.out) Tryz.underlying104 rfl infoRs) rfl ⟨by rw [HE.out]; rfl, bel_setRow HBy.out (Nat.le_refl _) _⟩
        | true =>
          rw [textE_yes hmu] at htx
          obtain ⟨T, hT⟩ : ∃ T, T = tx (textV ut) := ⟨_, rfl⟩
          rw [← hT] at htx
          by_cases hts2 : textV ut = vb s
          · have hTs : T = s := by rw [hT, hts2, tx_vb]
            have HE : Hid (parseE s = .tuple #[verV ut, .int .i64 0]) := parseE_yes (by rw [HPV.out, if_pos ⟨hmu, hts2⟩])
            subst hTs
            clear hmu hts2 hT
            go_wp2_with (refine wpList_load_row rfl 104 _ rfl gu rfl 104 (verC ut) (0, 0) _ HRt.out Tryz.underlying104 rfl infoRs ?_)
            refine htx.mono ?_
            rintro e wy ⟨rfl, hby⟩
            have HZy : Hid (Row wy w.heap.size zeroC 104) := Row.below HZt.out hby (Row.lt HZt.out)
            have HBy : Hid (Below w.heap.size w wy) := HBt.out.trans (hby.mono HBt.out.size)
            have HRy : Hid (Row wy gu (verC ut) 104) := Row.below HRt.out hby (Row.lt HRt.out)
            clear htx hby
            go_wp2_with (first | refine wpList_load_row rfl 104 _ rfl gu rfl 104 (verC ut) (0, 0) _ HRy.out Tryz.underlying104 rfl infoRs ?_ | refine wpList_store_row rfl 104 _ _ rfl w.heap.size (verC ut) rfl rfl 104 zeroC HZy.out infoRs rfl (verC_one ut) ?_)
            exact bodyPost_ret (results_cell_row2 resultsRp _ _ w.heap.size 104 (verC ut) (0, 0) _ rfl (Row.setRow HZy.out) Tryz.underlying104 rfl infoRs) rfl ⟨by rw [HE.out]; rfl, bel_setRow HBy.out (Nat.le_refl _) _⟩
          · have hne : ¬ T.toList = s.toList := fun e => hts2 (by
              rw [ByteArray.toList_eq, ByteArray.toList_eq] at e
              rw [← vb_tx (textV ut), ← hT]
              exact e)
            have hne2 : (T.toList == s.toList) = false := by simpa using hne
            have HE : Hid (parseE s = .tuple #[verV zeroV, .int .i64 20]) := parseE_no (by rw [HPV.out, if_neg (fun h => hts2 h.2)])
            clear hmu hts2 hT
            go_wp2_with (refine wpList_load_row rfl 104 _ rfl gu rfl 104 (verC ut) (0, 0) _ HRt.out Tryz.underlying104 rfl infoRs ?_)
            refine htx.mono ?_
            rintro e wy ⟨rfl, hby⟩
            have HZy : Hid (Row wy w.heap.size zeroC 104) := Row.below HZt.out hby (Row.lt HZt.out)
            have HBy : Hid (Below w.heap.size w wy) := HBt.out.trans (hby.mono HBt.out.size)
            clear htx hby
            go_wp2_with (refine wpList_store_row rfl 104 _ _ rfl w.heap.size zeroC rfl rfl 104 zeroC HZy.out infoRs rfl zeroC_one ?_)
            exact bodyPost_ret (results_cell_row2 resultsRp _ _ w.heap.size 104 zeroC (0, 0) _ rfl (Row.setRow HZy.out) Tryz.underlying104 rfl infoRs) rfl ⟨by rw [HE.out]; rfl, bel_setRow HBy.out (Nat.le_refl _) _⟩
      · have n45 : ((c.toNat : Int) == 45) = false := by
          simp only [beq_eq_false_iff_ne]
          exact fun e => h45 (UInt8.toNat_inj.1 (by simpa using (by omega : c.toNat = 45)))
        by_cases h46 : c = 46
        · have hcv : c.toNat = 46 := by rw [h46]; rfl
          have hwc : IntKind.i64.wrap ((cc : Int) + 1) = ((cc + 1 : Nat) : Int) := by rw [IntKind.wrap_i64]; omega
          obtain ⟨c1, hc1⟩ : ∃ c1, c1 = cc + 1 := ⟨_, rfl⟩
          rw [← hc1] at hwc
          have hs4 := HR.out.ver.setCell (i := 4) (.int .i64 (c1 : Int))
          have q4 : (wr.setCell ⟨gu, 4, none⟩ (.int .i64 (c1 : Int))).cell? ⟨gu, 4, none⟩ = some (.int .i64 (c1 : Int)) := (hs4.cell 4).trans rfl
          have hZ4 : Row (wr.setCell ⟨gu, 4, none⟩ (.int .i64 (c1 : Int))) w.heap.size zeroC 104 := HR.out.zero.setCell_other (by have := HR.out.far; omega) _
          have hB4 : Below w.heap.size w (wr.setCell ⟨gu, 4, none⟩ (.int .i64 (c1 : Int))) := HR.out.bel.trans (below_set (by have := HR.out.far; omega) _ _)
          by_cases h5 : 4 < c1
          · have HE : Hid (parseE s = .tuple #[verV zeroV, .int .i64 20]) := parseE_no (parse_ref_none (by rw [HR.out.read, HD.out, h46]; exact refR_many (by rw [hcc]; omega)))
            have h5' : (4 : Int) < (c1 : Int) := by omega
            obtain ⟨w4, hw4⟩ : ∃ x, x = wr.setCell ⟨gu, 4, none⟩ (.int .i64 (c1 : Int)) := ⟨_, rfl⟩
            rw [← hw4] at q4 hZ4 hB4
            have hw4' := hw4.symm
            have HZ4 : Hid (Row w4 w.heap.size zeroC 104) := hZ4
            have HB4 : Hid (Below w.heap.size w w4) := hB4
            clear hs4 hZ4 hB4 hw4 h46 h45 e4 hc1 h5
            go_wp2_with (refine wpList_store_row rfl 104 _ _ rfl w.heap.size zeroC rfl rfl 104 zeroC HZ4.out infoRs rfl zeroC_one ?_)
            exact bodyPost_ret (results_cell_row2 resultsRp _ _ w.heap.size 104 zeroC (0, 0) _ rfl (Row.setRow HZ4.out) Tryz.underlying104 rfl infoRs) rfl ⟨by rw [HE.out]; rfl, bel_setRow HB4.out (Nat.le_refl _) _⟩
          · have h5' : ¬ (4 : Int) < (c1 : Int) := by omega
            have HN : Hid (PrR w (wr.setCell ⟨gu, 4, none⟩ (.int .i64 (c1 : Int))) gu s (k + 1) { u with cnt := (c1 : Int) }) := HR.out.set (u' := { u with cnt := (c1 : Int) }) rfl (by
              rw [HD.out, h46, refR_point _ _ (by rw [hcc]; omega)]
              congr 2
              rw [hcc]
              omega) HR.out.tag ⟨by show (1 : Int) ≤ c1; omega, by show (c1 : Int) ≤ 4; omega⟩ HR.out.small
            clear hs4 hZ4 hB4 h46 h45 e4 hc1 h5
            go_wp2
            go_roundw
            case rel => exact ⟨k + 1, _, by omega, by go_num, HN.out⟩
            case measure => simp [intOf]; omega
        · have n46 : ((c.toNat : Int) == 46) = false := by
            simp only [beq_eq_false_iff_ne]
            exact fun e => h46 (UInt8.toNat_inj.1 (by simpa using (by omega : c.toNat = 46)))
          obtain ⟨m1, hm1⟩ : ∃ m1, m1 = cc - 1 := ⟨_, rfl⟩
          have hwm : IntKind.i64.wrap ((cc : Int) - 1) = (m1 : Int) := by rw [IntKind.wrap_i64]; omega
          have hm14 : (m1 : Int) < 4 := by omega
          obtain ⟨x, hx⟩ : ∃ x, x = nAt u m1 := ⟨_, rfl⟩
          have hxm : nAt u (u.cnt.toNat - 1) = x := by rw [hcc, Int.toNat_natCast, ← hm1, hx]
          have em : (verC u)[m1]? = some (.int .i64 x) := (ver_cell u m1 (by omega)).trans (by rw [hx])
          have cm : wr.cell? ⟨gu, m1, none⟩ = some (.int .i64 x) := (HR.out.ver.cell m1).trans em
          have hxr := HR.out.small m1 (by omega)
          rw [← hx] at hxr
          by_cases h48 : c.toNat < 48
          · have HE : Hid (parseE s = .tuple #[verV zeroV, .int .i64 20]) := parseE_no (parse_ref_none (by
              rw [HR.out.read, HD.out]
              refine refR_other h45 h46 ?_
              cases e : digB c with
              | false => rfl
              | true => have := (digB_iff c).1 e; omega))
            have h48' : (c.toNat : Int) < 48 := by omega
            have HZe : Hid (Row wr w.heap.size zeroC 104) := PrR.zero HR.out
            have HBe : Hid (Below w.heap.size w wr) := PrR.bel HR.out
            clear h45 h46 e4 em hm1 hx hxm hwm hm14 cm hxr
            go_upto_if 54 with fail
            go_wp2_with (refine wpList_store_row rfl 104 _ _ rfl w.heap.size zeroC rfl rfl 104 zeroC HZe.out infoRs rfl zeroC_one ?_)
            exact bodyPost_ret (results_cell_row2 resultsRp _ _ w.heap.size 104 zeroC (0, 0) _ rfl (Row.setRow HZe.out) Tryz.underlying104 rfl infoRs) rfl ⟨by rw [HE.out]; rfl, bel_setRow HBe.out (Nat.le_refl _) _⟩
          · have h48' : ¬ (c.toNat : Int) < 48 := by omega
            by_cases h57 : 57 < c.toNat
            · have HE : Hid (parseE s = .tuple #[verV zeroV, .int .i64 20]) := parseE_no (parse_ref_none (by
                rw [HR.out.read, HD.out]
                refine refR_other h45 h46 ?_
                cases e : digB c with
                | false => rfl
                | true => have := (digB_iff c).1 e; omega))
              have h57' : (57 : Int) < (c.toNat : Int) := by omega
              have HZe : Hid (Row wr w.heap.size zeroC 104) := PrR.zero HR.out
              have HBe : Hid (Below w.heap.size w wr) := PrR.bel HR.out
              clear h45 h46 e4 em hm1 hx hxm hwm hm14 cm hxr
              go_upto_if 54 with fail
              go_wp2_with (refine wpList_store_row rfl 104 _ _ rfl w.heap.size zeroC rfl rfl 104 zeroC HZe.out infoRs rfl zeroC_one ?_)
              exact bodyPost_ret (results_cell_row2 resultsRp _ _ w.heap.size 104 zeroC (0, 0) _ rfl (Row.setRow HZe.out) Tryz.underlying104 rfl infoRs) rfl ⟨by rw [HE.out]; rfl, bel_setRow HBe.out (Nat.le_refl _) _⟩
            · have h57' : ¬ (57 : Int) < (c.toNat : Int) := by omega
              by_cases hbig : 999999999 < x
              · have HE : Hid (parseE s = .tuple #[verV zeroV, .int .i64 20]) := parseE_no (parse_ref_none (by
                  rw [HR.out.read, HD.out]
                  exact refR_big h45 h46 (by rw [hxm]; exact hbig)))
                clear h45 h46 e4 em hm1 hx hxm
                go_wp2_with (refine wpList_store_row rfl 104 _ _ rfl w.heap.size zeroC rfl rfl 104 zeroC (PrR.zero HR.out) infoRs rfl zeroC_one ?_)
                exact bodyPost_ret (results_cell_row2 resultsRp _ _ w.heap.size 104 zeroC (0, 0) _ rfl (Row.setRow (PrR.zero HR.out)) Tryz.underlying104 rfl infoRs) rfl ⟨by rw [HE.out]; rfl, bel_setRow (PrR.bel HR.out) (Nat.le_refl _) _⟩
              · have HN : Hid (PrR w (wr.drew.setCell ⟨gu, m1, none⟩ (.int .i64 (x * 10 + ((c.toNat - 48 : Nat) : Int)))) gu s (k + 1) (setN u m1 (x * 10 + ((c.toNat - 48 : Nat) : Int)))) := by
                  refine HR.out.drew.set (setN_row u m1 _ (by omega)) ?_ (by rw [setN_tag]; exact HR.out.tag) (by rw [setN_cnt]; exact HR.out.cnt) (fun j hj => ?_)
                  · rw [HD.out, refR_digit c _ u ((digB_iff c).2 ⟨by omega, by omega⟩) (by rw [hxm]; omega), hxm, hcc, Int.toNat_natCast, ← hm1]
                  · by_cases e : j = m1
                    · subst e
                      rw [nAt_set]
                      omega
                    · have h := HR.out.small j hj
                      rw [nAt_other u m1 j _ e hj (by omega)]
                      exact h
                have hw8 : IntKind.u8.wrap ((c.toNat : Int) - 48) = ((c.toNat - 48 : Nat) : Int) := by simp [IntKind.wrap, IntKind.bits, IntKind.signed]; omega
                have hwx : IntKind.i64.wrap (x * 10) = x * 10 := by rw [IntKind.wrap_i64]; omega
                have hwy : IntKind.i64.wrap (x * 10 + ((c.toNat - 48 : Nat) : Int)) = x * 10 + ((c.toNat - 48 : Nat) : Int) := by rw [IntKind.wrap_i64]; omega
                have hwz : IntKind.i64.wrap ((c.toNat - 48 : Nat) : Int) = ((c.toNat - 48 : Nat) : Int) := by rw [IntKind.wrap_i64]; omega
                have hS0 : Row wr.drew gu (verC u) 104 := HR.out.ver
                clear h45 h46 hm1 hx hxm hcc
                go_upto_region 13 with fail
                refine wp_region_perm [(false, 0), (false, 1), (false, 2), (false, 3), (false, 4), (false, 5), (false, 6), (false, 7), (false, 8), (false, 9), (false, 10), (false, 11), (false, 12), (false, 13), (false, 14), (false, 15), (true, 16), (false, 17), (true, 18)] (fun wx => Row wx gu (verC u) 104) (by kernel_rfl) (by kernel_rfl) hS0 ?_
                generalize wr.drew = wd at *
                refine p_value (some 56) (.pointer (some ⟨gu, 4, none⟩)) rfl rfl (by rfl) (fun wx hw => ?_) ?_
                · have q4 := (Row.cell hw 4).trans e4
                  have qm := (Row.cell hw m1).trans em
                  go_simp
                simp only [Act.put, List.setIfInBounds_toArray, List.set_cons_zero, List.set_cons_succ]
                refine p_value (some 57) (.int .i64 (cc : Int)) rfl rfl (by rfl) (fun wx hw => ?_) ?_
                · have q4 := (Row.cell hw 4).trans e4
                  have qm := (Row.cell hw m1).trans em
                  go_simp
                simp only [Act.put, List.setIfInBounds_toArray, List.set_cons_zero, List.set_cons_succ]
                refine p_value (some 58) (.int .i64 (m1 : Int)) rfl rfl (by rfl) (fun wx hw => ?_) ?_
                · have q4 := (Row.cell hw 4).trans e4
                  have qm := (Row.cell hw m1).trans em
                  go_simp
                simp only [Act.put, List.setIfInBounds_toArray, List.set_cons_zero, List.set_cons_succ]
                refine p_value (some 59) (.pointer (some ⟨gu, 4, none⟩)) rfl rfl (by rfl) (fun wx hw => ?_) ?_
                · have q4 := (Row.cell hw 4).trans e4
                  have qm := (Row.cell hw m1).trans em
                  go_simp
                simp only [Act.put, List.setIfInBounds_toArray, List.set_cons_zero, List.set_cons_succ]
                refine p_value (some 60) (.int .i64 (cc : Int)) rfl rfl (by rfl) (fun wx hw => ?_) ?_
                · have q4 := (Row.cell hw 4).trans e4
                  have qm := (Row.cell hw m1).trans em
                  go_simp
                simp only [Act.put, List.setIfInBounds_toArray, List.set_cons_zero, List.set_cons_succ]
                refine p_value (some 61) (.int .i64 (m1 : Int)) rfl rfl (by rfl) (fun wx hw => ?_) ?_
                · have q4 := (Row.cell hw 4).trans e4
                  have qm := (Row.cell hw m1).trans em
                  go_simp
                simp only [Act.put, List.setIfInBounds_toArray, List.set_cons_zero, List.set_cons_succ]
                refine p_value (some 62) (.pointer (some ⟨gu, 0, none⟩)) rfl rfl (by rfl) (fun wx hw => ?_) ?_
                · have q4 := (Row.cell hw 4).trans e4
                  have qm := (Row.cell hw m1).trans em
                  go_simp
                simp only [Act.put, List.setIfInBounds_toArray, List.set_cons_zero, List.set_cons_succ]
                refine p_value (some 63) (.pointer (some ⟨gu, m1, none⟩)) rfl rfl (by rfl) (fun wx hw => ?_) ?_
                · have q4 := (Row.cell hw 4).trans e4
                  have qm := (Row.cell hw m1).trans em
                  go_simp
                simp only [Act.put, List.setIfInBounds_toArray, List.set_cons_zero, List.set_cons_succ]
                refine p_value (some 64) (.int .i64 x) rfl rfl (by rfl) (fun wx hw => ?_) ?_
                · have q4 := (Row.cell hw 4).trans e4
                  have qm := (Row.cell hw m1).trans em
                  go_simp
                simp only [Act.put, List.setIfInBounds_toArray, List.set_cons_zero, List.set_cons_succ]
                refine p_value (some 65) (.int .i64 (x * 10)) rfl rfl (by rfl) (fun wx hw => ?_) ?_
                · have q4 := (Row.cell hw 4).trans e4
                  have qm := (Row.cell hw m1).trans em
                  go_simp
                simp only [Act.put, List.setIfInBounds_toArray, List.set_cons_zero, List.set_cons_succ]
                refine p_value (some 66) (.string s) rfl rfl (by rfl) (fun wx hw => ?_) ?_
                · have q4 := (Row.cell hw 4).trans e4
                  have qm := (Row.cell hw m1).trans em
                  go_simp
                simp only [Act.put, List.setIfInBounds_toArray, List.set_cons_zero, List.set_cons_succ]
                refine p_value (some 67) (.int .i64 (k : Int)) rfl rfl (by rfl) (fun wx hw => ?_) ?_
                · have q4 := (Row.cell hw 4).trans e4
                  have qm := (Row.cell hw m1).trans em
                  go_simp
                simp only [Act.put, List.setIfInBounds_toArray, List.set_cons_zero, List.set_cons_succ]
                refine p_value (some 68) (.int .u8 (c.toNat : Int)) rfl rfl (by rfl) (fun wx hw => ?_) ?_
                · have q4 := (Row.cell hw 4).trans e4
                  have qm := (Row.cell hw m1).trans em
                  go_simp
                simp only [Act.put, List.setIfInBounds_toArray, List.set_cons_zero, List.set_cons_succ]
                refine p_value (some 69) (.int .u8 ((c.toNat - 48 : Nat) : Int)) rfl rfl (by rfl) (fun wx hw => ?_) ?_
                · have q4 := (Row.cell hw 4).trans e4
                  have qm := (Row.cell hw m1).trans em
                  go_simp
                simp only [Act.put, List.setIfInBounds_toArray, List.set_cons_zero, List.set_cons_succ]
                refine p_value (some 70) (.int .i64 ((c.toNat - 48 : Nat) : Int)) rfl rfl (by rfl) (fun wx hw => ?_) ?_
                · have q4 := (Row.cell hw 4).trans e4
                  have qm := (Row.cell hw m1).trans em
                  go_simp
                simp only [Act.put, List.setIfInBounds_toArray, List.set_cons_zero, List.set_cons_succ]
                refine p_value (some 71) (.int .i64 (x * 10 + ((c.toNat - 48 : Nat) : Int))) rfl rfl (by rfl) (fun wx hw => ?_) ?_
                · have q4 := (Row.cell hw 4).trans e4
                  have qm := (Row.cell hw m1).trans em
                  go_simp
                simp only [Act.put, List.setIfInBounds_toArray, List.set_cons_zero, List.set_cons_succ]
                refine p_alone (some 72) (.pointer (some ⟨gu, 0, none⟩)) _ rfl rfl (by rfl) (by go_simp) (fun _ => hS0) ?_
                simp only [Act.put, List.setIfInBounds_toArray, List.set_cons_zero, List.set_cons_succ]
                refine p_value (some 73) (.pointer (some ⟨gu, m1, none⟩)) rfl rfl (by rfl) (fun wx hw => ?_) ?_
                · have q4 := (Row.cell hw 4).trans e4
                  have qm := (Row.cell hw m1).trans em
                  go_simp
                simp only [Act.put, List.setIfInBounds_toArray, List.set_cons_zero, List.set_cons_succ]
                have q5 : wd.cell? ⟨gu, m1, none⟩ = some (.int .i64 x) := (Row.cell hS0 m1).trans em
                have q6 : wd.frozen? ⟨gu, m1, none⟩ = false := Row.frozen hS0 m1
                refine p_store (wd.setCell ⟨gu, m1, none⟩ (.int .i64 (x * 10 + ((c.toNat - 48 : Nat) : Int)))) rfl rfl (by rfl) (by go_simp) (fun h => absurd rfl h) ?_
                refine p_done ?_
                try simp only [Exit.then]
                clear hS0 q5 q6 e4 em
                go_wp2
                go_roundw
                case rel => exact ⟨k + 1, _, by omega, by go_num, HN.out⟩
                case measure => simp [intOf]; omega
    · have hlt' : ¬ (k : Int) < (s.size : Int) := by omega
      obtain ⟨ut, hut⟩ : ∃ ut, ut = u := ⟨_, rfl⟩
      obtain ⟨wt, hwt⟩ : ∃ x, x = wr := ⟨_, rfl⟩
      have HFt : Hid (refR (vb s) startV = some ut) := by
        show _ = _
        rw [HR.out.read, List.drop_of_length_le (by rw [HL.out]; omega), hut]
        rfl
      have hts : ut.tag.size ≤ 140737488355328 := by rw [hut, HR.out.tag]; decide
      have HRt : Hid (Row wt gu (verC ut) 104) := by rw [hut, hwt]; exact HR.out.ver
      have HZt : Hid (Row wt w.heap.size zeroC 104) := by rw [hwt]; exact HR.out.zero
      have HBt : Hid (Below w.heap.size w wt) := by rw [hwt]; exact HR.out.bel
      rw [← hwt]
      clear hut hwt
      have HPV : Hid (parseV (vb s) = if mayV ut = true ∧ textV ut = vb s then some ut else none) := parse_ref_some HFt.out
      have htx := refText_ok ut wt hts
      cases hmu : mayV ut with
      | false =>
        rw [textE_no hmu] at htx
        have HE : Hid (parseE s = .tuple #[verV zeroV, .int .i64 20]) := parseE_no (by rw [HPV.out, if_neg (fun h => by rw [hmu] at h; cases h.1)])
        clear hmu
        go_wp2_with (refine wpList_load_row rfl 104 _ rfl gu rfl 104 (verC ut) (0, 0) _ HRt.out Tryz.underlying104 rfl infoRs ?_)
        refine htx.mono ?_
        rintro e wy ⟨rfl, hby⟩
        have HZy : Hid (Row wy w.heap.size zeroC 104) := Row.below HZt.out hby (Row.lt HZt.out)
        have HBy : Hid (Below w.heap.size w wy) := HBt.out.trans (hby.mono HBt.out.size)
        clear htx hby
        go_wp2_with (refine wpList_store_row rfl 104 _ _ rfl w.heap.size zeroC rfl rfl 104 zeroC HZy.out infoRs rfl zeroC_one ?_)
        exact bodyPost_ret (results_cell_row2 resultsRp _ _ w.heap.size 104 zeroC (0, 0) _ rfl (Row.setRow HZy.out) Tryz.underlying104 rfl infoRs) rfl ⟨by rw [HE.out]; rfl, bel_setRow HBy.out (Nat.le_refl _) _⟩
      | true =>
        rw [textE_yes hmu] at htx
        obtain ⟨T, hT⟩ : ∃ T, T = tx (textV ut) := ⟨_, rfl⟩
        rw [← hT] at htx
        by_cases hts2 : textV ut = vb s
        · have hTs : T = s := by rw [hT, hts2, tx_vb]
          have HE : Hid (parseE s = .tuple #[verV ut, .int .i64 0]) := parseE_yes (by rw [HPV.out, if_pos ⟨hmu, hts2⟩])
          subst hTs
          clear hmu hts2 hT
          go_wp2_with (refine wpList_load_row rfl 104 _ rfl gu rfl 104 (verC ut) (0, 0) _ HRt.out Tryz.underlying104 rfl infoRs ?_)
          refine htx.mono ?_
          rintro e wy ⟨rfl, hby⟩
          have HZy : Hid (Row wy w.heap.size zeroC 104) := Row.below HZt.out hby (Row.lt HZt.out)
          have HBy : Hid (Below w.heap.size w wy) := HBt.out.trans (hby.mono HBt.out.size)
          have HRy : Hid (Row wy gu (verC ut) 104) := Row.below HRt.out hby (Row.lt HRt.out)
          clear htx hby
          go_wp2_with (first | refine wpList_load_row rfl 104 _ rfl gu rfl 104 (verC ut) (0, 0) _ HRy.out Tryz.underlying104 rfl infoRs ?_ | refine wpList_store_row rfl 104 _ _ rfl w.heap.size (verC ut) rfl rfl 104 zeroC HZy.out infoRs rfl (verC_one ut) ?_)
          exact bodyPost_ret (results_cell_row2 resultsRp _ _ w.heap.size 104 (verC ut) (0, 0) _ rfl (Row.setRow HZy.out) Tryz.underlying104 rfl infoRs) rfl ⟨by rw [HE.out]; rfl, bel_setRow HBy.out (Nat.le_refl _) _⟩
        · have hne : ¬ T.toList = s.toList := fun e => hts2 (by
            rw [ByteArray.toList_eq, ByteArray.toList_eq] at e
            rw [← vb_tx (textV ut), ← hT]
            exact e)
          have hne2 : (T.toList == s.toList) = false := by simpa using hne
          have HE : Hid (parseE s = .tuple #[verV zeroV, .int .i64 20]) := parseE_no (by rw [HPV.out, if_neg (fun h => hts2 h.2)])
          clear hmu hts2 hT
          go_wp2_with (refine wpList_load_row rfl 104 _ rfl gu rfl 104 (verC ut) (0, 0) _ HRt.out Tryz.underlying104 rfl infoRs ?_)
          refine htx.mono ?_
          rintro e wy ⟨rfl, hby⟩
          have HZy : Hid (Row wy w.heap.size zeroC 104) := Row.below HZt.out hby (Row.lt HZt.out)
          have HBy : Hid (Below w.heap.size w wy) := HBt.out.trans (hby.mono HBt.out.size)
          clear htx hby
          go_wp2_with (refine wpList_store_row rfl 104 _ _ rfl w.heap.size zeroC rfl rfl 104 zeroC HZy.out infoRs rfl zeroC_one ?_)
          exact bodyPost_ret (results_cell_row2 resultsRp _ _ w.heap.size 104 zeroC (0, 0) _ rfl (Row.setRow HZy.out) Tryz.underlying104 rfl infoRs) rfl ⟨by rw [HE.out]; rfl, bel_setRow HBy.out (Nat.le_refl _) _⟩
end Go.Proofs.YtkbhckjpmgkgjaaGreatDoor
namespace Go.Proofs.YtkbhckjpmgkgjaaGreatDoor
open Go.RowKit

/-- What cut tells. -/
def CutP (c : UInt8) (s : ByteArray) (w : World) (e : Ending) (w' : World) : Prop :=
  ∃ (g : Nat) (P : List ByteArray) (cp : Nat), e = .returned (.slice (some ⟨g, 0, none⟩) P.length cp) ∧ P.map vb = cutAll c (vb s) ∧ (∀ i (h : i < P.length), w'.cell? ⟨g, i, none⟩ = some (.string P[i])) ∧ w.heap.size ≤ g ∧ g < w'.heap.size ∧ Below w.heap.size w w' ∧ P.length ≤ cp ∧ P.length ≤ s.size + 1 ∧ ∀ i (h : i < P.length), P[i].size ≤ s.size
/-- What holds while it is parted. -/
structure CuR (w wr : World) (c : UInt8) (s : ByteArray) (i fr : Nat) (Q : List ByteArray) (sv : Value) : Prop where
  own : wr.ownsRow w.heap.size 9 1 sv Q.length (Q.map Value.string)
  bel : Below w.heap.size w wr
  eq : i ≤ s.size → Q.map vb ++ cutAll c ((vb s).drop fr) = cutAll c (vb s)
  fin : s.size < i → Q.map vb = cutAll c (vb s)
  no : ∀ j, fr ≤ j → j < i → ∀ h : j < s.size, s[j] ≠ c
  le : fr ≤ i
  q : Q.length ≤ i
  sz : ∀ x ∈ Q, x.size ≤ s.size
theorem CuR.skip {w wr : World} {c : UInt8} {s : ByteArray} {i fr : Nat} {Q : List ByteArray} {sv : Value} (h : CuR w wr c s i fr Q sv) (hi : i < s.size) (hc : s[i] ≠ c) : CuR w wr c s (i + 1) fr Q sv :=
  ⟨h.own, h.bel, fun _ => h.eq (by omega), fun k => absurd k (by omega), fun j h1 h2 h3 => by
    by_cases e : j = i
    · subst e; exact hc
    · exact h.no j h1 (by omega) h3, Nat.le_succ_of_le h.le, Nat.le_succ_of_le h.q, h.sz⟩
theorem cut_part {c : UInt8} {s : ByteArray} {i fr : Nat} (hno : ∀ j, fr ≤ j → j < i → ∀ h : j < s.size, s[j] ≠ c) (hi : i ≤ s.size) : c ∉ vb (s.extract fr i) := by
  rw [vb_extract]
  intro hm
  obtain ⟨k, hk, he⟩ := List.getElem_of_mem hm
  rw [List.length_drop, List.length_take, vb_len] at hk
  rw [List.getElem_drop, List.getElem_take] at he
  exact hno (fr + k) (by omega) (by omega) (by omega) he
theorem drop_part {s : ByteArray} {i fr : Nat} (hle : fr ≤ i) (hi : i < s.size) : (vb s).drop fr = vb (s.extract fr i) ++ s[i] :: (vb s).drop (i + 1) := by
  rw [vb_extract]
  have h1 : (vb s).drop i = s[i] :: (vb s).drop (i + 1) := drop_at hi
  rw [← h1]
  have h2 : vb s = (vb s).take i ++ (vb s).drop i := (List.take_append_drop i (vb s)).symm
  conv => lhs; rw [h2]
  rw [List.drop_append_of_le_length (by rw [List.length_take, vb_len]; omega)]
/-- A part is told. -/
theorem CuR.more {w wr w1 w2 : World} {c : UInt8} {s : ByteArray} {i fr : Nat} {Q : List ByteArray} {sv sv' : Value} (h : CuR w wr c s i fr Q sv) (hi : i = s.size ∨ ∃ h : i < s.size, s[i] = c) (hb : Below w.heap.size wr w1) (ho : w2.ownsRow w.heap.size 9 1 sv' (Q.length + 1) (Q.map Value.string ++ [.string (s.extract fr i)])) (hg : w1.grownBy w2 sv.ownBlock) : CuR w w2 c s (i + 1) (i + 1) (Q ++ [s.extract fr i]) sv' := by
  have hob := own_block h.own
  have hle := h.le
  refine ⟨by rw [List.length_append, List.map_append]; exact ho, h.bel.trans (hb.trans (below_own' hg (Nat.le_trans h.bel.size hb.size) fun k hk => (hob k hk).1)), fun hi1 => ?_, fun hi1 => ?_, fun j h1 h2 => absurd h2 (by omega), Nat.le_refl _, by rw [List.length_append]; have := h.q; simp; omega, fun x hx => ?_⟩
  · rcases hi with hi | ⟨hlt, hc⟩
    · omega
    · rw [← h.eq (by omega), drop_part hle hlt, hc, cutAll_some (cutAt_some (cut_part h.no (by omega)) _), List.map_append, List.append_assoc]
      rfl
  · rcases hi with hi | ⟨hlt, hc⟩
    · have e : (vb s).drop fr = vb (s.extract fr i) := by
        rw [vb_extract, hi, List.take_of_length_le (by rw [vb_len]; omega)]
      rw [← h.eq (by omega), e, cutAll_none (cutAt_none (cut_part h.no (by omega))), List.map_append]
      rfl
    · omega
  · rcases List.mem_append.1 hx with hx | hx
    · exact h.sz x hx
    · rw [List.mem_singleton.1 hx, ByteArray.size_extract]; omega
theorem CuR.done {w wr : World} {c : UInt8} {s : ByteArray} {i fr : Nat} {Q : List ByteArray} {sv : Value} (h : CuR w wr c s i fr Q sv) (hi : s.size < i) (hi2 : i ≤ s.size + 1) : CutP c s w (.returned sv) wr := by
  have hQ := h.fin hi
  have hp := cutAll_pos c (vb s)
  rw [← hQ, List.length_map] at hp
  obtain ⟨_, ⟨_, h0⟩ | ⟨g, cap, cur, rfl, h2, h3, h4, _⟩⟩ := h.own
  · omega
  · refine ⟨g, Q, cap, rfl, hQ, fun j hj => ?_, h2, (Array.getElem?_eq_some_iff.1 h3).1, h.bel, by simpa using h4, Nat.le_trans h.q hi2, fun j hj => h.sz _ (List.getElem_mem hj)⟩
    have := h.own.cellAt j (by simpa using hj)
    rw [this, List.getElem?_map, List.getElem?_eq_getElem hj]
    rfl
set_option maxRecDepth 20000 in
set_option maxHeartbeats 4000000 in
theorem refCut_ok (c : UInt8) (s : ByteArray) (w : World) (hs : s.size ≤ 4194304) : Calls Tryz.prog 79 #[.string s, .int .u8 (c.toNat : Int)] w (CutP c s w) := by
  have H0 : Hid (CuR w w c s 0 0 [] (.slice none 0 0)) := ⟨World.ownsRow_nil _ _ _ _, Below.refl _ _, fun _ => rfl, fun h => absurd h (by omega), fun j _ h => absurd h (by omega), Nat.le_refl _, Nat.le_refl _, fun x hx => by cases hx⟩
  obtain ⟨RP, hRP⟩ : ∃ RP, RP = CutP c s w := ⟨_, rfl⟩
  have HP : Hid (∀ e w', CutP c s w e w' → RP e w') := fun e w' h => by rw [hRP]; exact h
  rw [← hRP]
  clear hRP
  go_enter Tryz.func79, Tryz.ntmps79
  go_wp2
  go_loopw [5, 6, 7] (fun sv fv iv wr => ∃ (i fr : Nat) (Q : List ByteArray), i ≤ s.size + 1 ∧ iv = .int .i64 i ∧ fv = .int .i64 fr ∧ fr ≤ i ∧ Q.length ≤ i ∧ CuR w wr c s i fr Q sv) (fun _ _ iv _ => s.size + 1 - (intOf iv).toNat)
  case atStart => exact ⟨0, 0, [], Nat.zero_le _, rfl, rfl, Nat.le_refl _, Nat.le_refl _, H0.out⟩
  case round =>
    clear H0
    obtain ⟨i, fr, Q, hi, rfl, rfl, hfi, hQi, hR⟩ := hrel
    have HR : Hid (CuR w wr c s i fr Q u5) := hR
    clear hR
    by_cases hlt : i < s.size
    · have hlt1 : (i : Int) ≤ (s.size : Int) := by omega
      have hne : ((i : Int) == (s.size : Int)) = false := by simp; omega
      have hne2 : ¬ (i : Int) = (s.size : Int) := by omega
      obtain ⟨b, hb⟩ : ∃ b, b = s[i] := ⟨_, rfl⟩
      have hb' : s[i].toNat = b.toNat := by rw [hb]
      have HBv : Hid (b = s[i]) := hb
      clear hb
      by_cases hbc : b = c
      · obtain ⟨t, ht⟩ : ∃ t, t = s.extract fr i := ⟨_, rfl⟩
        have ht' := ht.symm
        have HT : Hid (t = s.extract fr i) := ht
        have hq := (by decide : (0 : Nat) = 0)
        have hown : (wr.alloc (.cells #[.string t] 9)).ownsRow w.heap.size 9 1 u5 Q.length (Q.map Value.string) := own_below (HR.out.own) ((Below.refl _ _).alloc (Nat.le_refl _) _)
        have hlow := HR.out.bel.size
        have HOR : Hid (i = s.size ∨ ∃ h : i < s.size, s[i] = c) := Or.inr ⟨hlt, by rw [← HBv.out]; exact hbc⟩
        have hbc2 : ((b.toNat : Int) == (c.toNat : Int)) = true := by rw [hbc]; simp
        have hbc3 : (b.toNat : Int) = (c.toNat : Int) := by rw [hbc]
        clear ht hbc
        go_wp2_with (at_builtin; refine wpList_ap_one rfl (some 31) rfl _ _ rfl w.heap.size u5 Q.length (Q.map Value.string) rfl t rfl wr.heap.size rfl hown rfl hlow (by omega) ?_; intro v5 w5 ho5 hg5)
        have HN : Hid (CuR w w5 c s (i + 1) (i + 1) (Q ++ [s.extract fr i]) v5) := HR.out.more HOR.out ((Below.refl _ _).alloc (HR.out.bel.size) _) (by rw [← HT.out]; exact ho5) hg5
        clear ho5 hg5 hown
        go_roundw
        case rel => exact ⟨i + 1, i + 1, _, by omega, by go_num, by go_num, Nat.le_refl _, HN.out.q, HN.out⟩
        case measure => simp [intOf]; omega
      · have hbc2 : ((b.toNat : Int) == (c.toNat : Int)) = false := by
          simp only [beq_eq_false_iff_ne]
          exact fun e => hbc (UInt8.toNat_inj.1 (by omega))
        have hbc3 : ¬ (b.toNat : Int) = (c.toNat : Int) := fun e => hbc (UInt8.toNat_inj.1 (by omega))
        have HN : Hid (CuR w wr c s (i + 1) fr Q u5) := HR.out.skip hlt (by rw [← HBv.out]; exact hbc)
        clear hbc
        go_wp2
        go_roundw
        case rel => exact ⟨i + 1, fr, Q, by omega, by go_num, rfl, by omega, by omega, HN.out⟩
        case measure => simp [intOf]; omega
    · by_cases heq : i = s.size
      · obtain ⟨n, hn⟩ : ∃ n, n = s.size := ⟨_, rfl⟩
        have HNs : Hid (n = s.size) := hn
        have hns : s.size = n := hn.symm
        have hin : i = n := by omega
        subst hin
        have hfr : fr ≤ i := hfi
        obtain ⟨t, ht⟩ : ∃ t, t = s.extract fr i := ⟨_, rfl⟩
        have ht' := ht.symm
        have HT : Hid (t = s.extract fr i) := ht
        have hown : (wr.alloc (.cells #[.string t] 9)).ownsRow w.heap.size 9 1 u5 Q.length (Q.map Value.string) := own_below (HR.out.own) ((Below.refl _ _).alloc (Nat.le_refl _) _)
        have hlow := HR.out.bel.size
        have HOR : Hid (i = s.size ∨ ∃ h : i < s.size, s[i] = c) := Or.inl HNs.out
        have hsz : i ≤ 4194304 := by omega
        clear ht hn heq hlt
        go_wp2_with (at_builtin; refine wpList_ap_one rfl (some 31) rfl _ _ rfl w.heap.size u5 Q.length (Q.map Value.string) rfl t rfl wr.heap.size rfl hown rfl hlow (by omega) ?_; intro v5 w5 ho5 hg5)
        have HN : Hid (CuR w w5 c s (i + 1) (i + 1) (Q ++ [s.extract fr i]) v5) := HR.out.more HOR.out ((Below.refl _ _).alloc (HR.out.bel.size) _) (by rw [← HT.out]; exact ho5) hg5
        clear ho5 hg5 hown
        go_roundw
        case rel => exact ⟨i + 1, i + 1, _, by omega, by go_num, by go_num, Nat.le_refl _, HN.out.q, HN.out⟩
        case measure => simp [intOf]; omega
      · have hgt : ¬ (i : Int) ≤ (s.size : Int) := by omega
        have HD := HP.out _ _ (HR.out.done (by omega) hi)
        have HDH : Hid (RP (.returned u5) wr) := HD
        clear HD
        go_wp2
        exact HDH.out
end Go.Proofs.YtkbhckjpmgkgjaaGreatDoor
namespace Go.Proofs.YtkbhckjpmgkgjaaGreatDoor
open Go.RowKit

abbrev tmC (op : ByteArray) (v : Ver) : Array Value := #[.string op, .int .i64 v.n0, .int .i64 v.n1, .int .i64 v.n2, .int .i64 v.n3, .int .i64 v.cnt, .string v.tag]
abbrev encT (op : ByteArray) (v : Ver) : List Value := [.string op, .int .i64 v.n0, .int .i64 v.n1, .int .i64 v.n2, .int .i64 v.n3, .int .i64 v.cnt, .string v.tag]
theorem tm_one (op : ByteArray) (v : Ver) : (tmC op v).all (·.oneCell') = true := by kernel_rfl
theorem infoT : (Tryz.prog.info? 159).map (·.size) = some 7 := by kernel_rfl
theorem infoTz : (Tryz.prog.info? 159).map (fun i => (i.zero, i.size, i.bytes)) = some (some (.agg (tmC ⟨#[]⟩ zeroVer)), 7, 72) := by kernel_rfl
theorem resultsRt : Tryz.f80.results = #[.cell 2 159, .tmp 3] := by kernel_rfl
/-- What term tells. -/
def TmPost (r : Option Tm) (w : World) (e : Ending) (w' : World) : Prop := ∃ (op : ByteArray) (v : Ver), e = .returned (.tuple #[.agg (tmC op v), .bool r.isSome]) ∧ (∀ t, r = some t → t = (vb op, v)) ∧ Below w.heap.size w w'
abbrev sgC : Array Value := #[.string ⟨#[62, 61]⟩, .string ⟨#[60, 61]⟩, .string ⟨#[62]⟩, .string ⟨#[60]⟩, .string ⟨#[61]⟩, .string ⟨#[94]⟩, .string ⟨#[126]⟩]
theorem sg_at (i : Nat) (h : i < 7) : ∃ x : ByteArray, sgC[i]? = some (.string x) ∧ signsR[i]? = some (vb x) ∧ 1 ≤ x.size ∧ x.size ≤ 2 := by
  match i, h with
  | 0, _ => exact ⟨_, rfl, rfl, by decide, by decide⟩
  | 1, _ => exact ⟨_, rfl, rfl, by decide, by decide⟩
  | 2, _ => exact ⟨_, rfl, rfl, by decide, by decide⟩
  | 3, _ => exact ⟨_, rfl, rfl, by decide, by decide⟩
  | 4, _ => exact ⟨_, rfl, rfl, by decide, by decide⟩
  | 5, _ => exact ⟨_, rfl, rfl, by decide, by decide⟩
  | 6, _ => exact ⟨_, rfl, rfl, by decide, by decide⟩
def sgP (l g : By) : Bool := decide (g.length < l.length) && (l.take g.length == g)
/-- What holds while the signs are gone through. -/
structure TmR (w wr : World) (s : ByteArray) (i : Nat) : Prop where
  z : Row wr w.heap.size (tmC ⟨#[]⟩ zeroVer) 159
  sg : Row wr (w.heap.size + 1) sgC 9
  old : Below w.heap.size w wr
  eq : signR (vb s) = ((signsR.drop i).find? (sgP (vb s))).map fun g => (g, (vb s).drop g.length)
theorem TmR.drewN {w wr : World} {s : ByteArray} {i : Nat} (h : TmR w wr s i) (q : Nat) : TmR w (wr.drewN q) s i := ⟨h.z, h.sg, h.old.trans ⟨rfl, rfl, rfl, Nat.le_refl _, fun _ _ => rfl⟩, h.eq⟩
theorem TmR.skip {w wr : World} {s : ByteArray} {i : Nat} (h : TmR w wr s i) {g : By} (hg : signsR[i]? = some g) (hp : sgP (vb s) g = false) : TmR w wr s (i + 1) := by
  refine ⟨h.z, h.sg, h.old, ?_⟩
  have hl := (List.getElem?_eq_some_iff.1 hg)
  rw [h.eq, List.drop_eq_getElem_cons hl.1, hl.2, List.find?_cons, hp]
theorem TmR.hit {w wr : World} {s : ByteArray} {i : Nat} (h : TmR w wr s i) {g : By} (hg : signsR[i]? = some g) (hp : sgP (vb s) g = true) : signR (vb s) = some (g, (vb s).drop g.length) := by
  have hl := (List.getElem?_eq_some_iff.1 hg)
  rw [h.eq, List.drop_eq_getElem_cons hl.1, hl.2, List.find?_cons, hp]
  rfl
theorem TmR.none {w wr : World} {s : ByteArray} {i : Nat} (h : TmR w wr s i) (hi : 7 ≤ i) : signR (vb s) = Option.none := by
  rw [h.eq, List.drop_of_length_le (by show 7 ≤ i; exact hi)]
  rfl
set_option maxRecDepth 40000 in
set_option maxHeartbeats 8000000 in
theorem refTerm_ok (s : ByteArray) (w : World) (hs : s.size ≤ 4194304) : Calls Tryz.prog 80 #[.string s] w (TmPost (termR (vb s)) w) := by
  by_cases h42 : vb s = [42]
  · obtain rfl : s = ⟨#[42]⟩ := vb_inj h42
    have HT : Hid (termR (vb ⟨#[42]⟩) = some ([42], zeroVer)) := rfl
    clear h42 hs
    go_enter Tryz.func80, Tryz.ntmps80
    go_wp2_with (refine wpList_store_new rfl 159 _ _ rfl w (tmC ⟨#[]⟩ zeroVer) (tmC ⟨#[42]⟩ zeroVer) 159 rfl w.heap.size rfl rfl rfl infoT rfl (tm_one _ _) ?_)
    exact bodyPost_ret (results_cell_row2 resultsRt _ _ w.heap.size 159 (tmC ⟨#[42]⟩ zeroVer) (0, 0) _ rfl (Row.new _ _ _) Tryz.underlying159 rfl infoT) rfl ⟨⟨#[42]⟩, zeroVer, rfl, (fun t ht => by cases ht; rfl), (Below.refl _ _).alloc (Nat.le_refl _) _⟩
  · obtain ⟨hq1, hq2⟩ := bytes_ne h42
    have HT : Hid (termR (vb s) = match signR (vb s) with
      | none => none
      | some p => match parseV p.2 with
        | none => none
        | some v => some (p.1, v)) := by show _ = _; unfold termR; rw [if_neg h42]; rfl
    have h0 : TmR w ((w.alloc (.cells (tmC ⟨#[]⟩ zeroVer) 159)).alloc (.cells sgC 9)) s 0 := by
      refine ⟨(Row.new w _ _).alloc _, ?_, ((Below.refl _ _).alloc (Nat.le_refl _) _).alloc (by simp) _, rfl⟩
      have h := Row.new (w.alloc (.cells (tmC ⟨#[]⟩ zeroVer) 159)) sgC 9
      rw [World.size_alloc] at h
      exact h
    obtain ⟨w2, hw2⟩ : ∃ x, x = (w.alloc (.cells (tmC ⟨#[]⟩ zeroVer) 159)).alloc (.cells sgC 9) := ⟨_, rfl⟩
    have hw2' : (w.alloc (.cells #[.string ⟨#[]⟩, .int .i64 0, .int .i64 0, .int .i64 0, .int .i64 0, .int .i64 0, .string ⟨#[]⟩] 159)).alloc (.cells #[.string ⟨#[62, 61]⟩, .string ⟨#[60, 61]⟩, .string ⟨#[62]⟩, .string ⟨#[60]⟩, .string ⟨#[61]⟩, .string ⟨#[94]⟩, .string ⟨#[126]⟩] 9) = w2 := hw2.symm
    rw [← hw2] at h0
    have H0 : Hid (TmR w w2 s 0) := h0
    have HSZ : Hid (s.size ≤ 4194304) := hs
    clear h0 hw2 h42
    go_enter Tryz.func80, Tryz.ntmps80
    go_wp2
    clear hw2' hq1 hq2
    go_loopw [5] (fun iv wr => ∃ i : Nat, i ≤ 7 ∧ iv = .int .i64 i ∧ TmR w wr s i) (fun iv _ => 7 - (intOf iv).toNat)
    case atStart => exact ⟨0, Nat.zero_le _, rfl, H0.out⟩
    case round =>
      obtain ⟨i, hi, rfl, hR⟩ := hrel
      have HR : Hid (TmR w wr s i) := hR
      clear hR H0
      by_cases hlt : i < 7
      · obtain ⟨x, hx1, hx2, hx3, hx4⟩ := sg_at i hlt
        have hlt' : (i : Int) < 7 := by omega
        have hcx : wr.cell? ⟨w.heap.size + 1, i, none⟩ = some (.string x) := ((TmR.sg HR.out).cell i).trans hx1
        have HX2 : Hid (signsR[i]? = some (vb x)) := hx2
        clear hx2
        by_cases hlen : x.size < s.size
        · have g1 : (x.size : Int) < (s.size : Int) := by omega
          have g2 : decide ((x.size : Int) < (s.size : Int)) = true := decide_eq_true g1
          have g3 : decide (x.size < s.size) = true := decide_eq_true hlen
          have g4 : (x.size : Int) ≤ (s.size : Int) := by omega
          obtain ⟨t, ht⟩ : ∃ t, t = s.extract 0 x.size := ⟨_, rfl⟩
          have ht' := ht.symm
          have HTv : Hid (vb t = (vb s).take x.size) := by show _ = _; rw [ht, vb_headX]
          by_cases htx : t = x
          · have HP : Hid (sgP (vb s) (vb x) = true) := by
              show _ = _
              unfold sgP
              rw [vb_len, vb_len, decide_eq_true hlen, ← HTv.out, htx]
              simp
            have HSg := TmR.hit HR.out HX2.out HP.out
            obtain ⟨t2, ht2⟩ : ∃ t, t = s.extract x.size s.size := ⟨_, rfl⟩
            have ht2' := ht2.symm
            have HSZ2 : Hid (t2.size ≤ 4194304) := by show _ ≤ _; rw [ht2, ByteArray.size_extract]; have := HSZ.out; omega
            have hcase0 : termR (vb s) = match parseV (vb t2) with
              | none => none
              | some v => some (vb x, v) := by
              rw [HT.out, HSg, ht2, vb_rest, vb_len]
            subst htx
            clear HSg HP HTv HT ht2 ht
            cases hp : parseV (vb t2) with
            | none =>
              rw [hp] at hcase0
              obtain ⟨u, hu⟩ : ∃ u, u = zeroV := ⟨_, rfl⟩
              have hpe : parseE t2 = .tuple #[verV u, .int .i64 20] := by rw [hu]; exact parseE_no hp
              have hcase := hcase0
              clear hp hu hcase0
              go_wp2
              go_quiet (fail)
              obtain ⟨wz, hwz⟩ : ∃ z, z = wr.drewN nq := ⟨_, rfl⟩
              rw [← hwz]
              have HRz : Hid (TmR w wz s i) := by rw [hwz]; exact TmR.drewN HR.out nq
              clear hwz hcx HR
              have HTE : Hid (termR (vb s) = none) := hcase
              have hpc := refParse_ok t2 wz (by have := HSZ2.out; omega)
              rw [hpe] at hpc
              have HBz : Hid (Below w.heap.size w wz) := TmR.old HRz.out
              have HZz : Hid (Row wz w.heap.size (tmC ⟨#[]⟩ zeroVer) 159) := TmR.z HRz.out
              have HSz : Hid (Row wz (w.heap.size + 1) sgC 9) := TmR.sg HRz.out
              have hcz : wz.cell? ⟨w.heap.size + 1, i, none⟩ = some (.string t) := (HSz.out.cell i).trans hx1
              clear hpe hcase
              go_wp2_with fail
              refine hpc.mono ?_
              rintro e w4 ⟨rfl, hb4⟩
              have hz5 : Row (w4.alloc (.cells (verC u) 104)) w.heap.size (tmC ⟨#[]⟩ zeroVer) 159 := (HZz.out.below hb4 HZz.out.lt).alloc _
              have hs5 : Row (w4.alloc (.cells (verC u) 104)) (w.heap.size + 1) sgC 9 := (HSz.out.below hb4 HSz.out.lt).alloc _
              have hv5 : Row (w4.alloc (.cells (verC u) 104)) w4.heap.size (verC u) 104 := Row.new _ _ _
              have hb5 : Below w.heap.size w (w4.alloc (.cells (verC u) 104)) := (HBz.out.trans (hb4.mono HBz.out.size)).alloc (Nat.le_trans HBz.out.size hb4.size) _
              have hlt4 : w.heap.size + 1 < w4.heap.size := Nat.lt_of_lt_of_le HSz.out.lt hb4.size
              clear hpc hb4 hcz
              go_upto_region 9 with (refine wpList_store_new rfl 104 _ _ rfl w4 zeroC (verC u) 104 rfl w4.heap.size rfl rfl rfl infoRs rfl (verC_one _) ?_)
              refine wp_region_permA [(false, 0), (false, 1), (false, 2), (false, 3), (false, 4), (false, 5), (false, 6), (false, 7), (true, 8), (true, 9)] (fun wx => Row wx (w.heap.size + 1) sgC 9 ∧ Row wx w4.heap.size (verC u) 104 ∧ True) (by kernel_rfl) (by kernel_rfl) ⟨hs5, hv5, trivial⟩ ?_
              refine a_value (some 51) ?_ rfl rfl (by rfl) (fun wx hw => ?_) ?_
              rotate_left
              · go_simp
                with_reducible rfl
              simp only [Act.put, List.setIfInBounds_toArray, List.set_cons_zero, List.set_cons_succ]
              refine a_value (some 52) ?_ rfl rfl (by rfl) (fun wx hw => ?_) ?_
              rotate_left
              · go_simp
                with_reducible rfl
              simp only [Act.put, List.setIfInBounds_toArray, List.set_cons_zero, List.set_cons_succ]
              refine a_value (some 53) ?_ rfl rfl (by rfl) (fun wx hw => ?_) ?_
              rotate_left
              · go_simp
                with_reducible rfl
              simp only [Act.put, List.setIfInBounds_toArray, List.set_cons_zero, List.set_cons_succ]
              refine a_value (some 54) (.string t) rfl rfl (by rfl) (fun wx hw => ?_) ?_
              · have hc := (hw.1.cell i).trans hx1
                go_simp
              simp only [Act.put, List.setIfInBounds_toArray, List.set_cons_zero, List.set_cons_succ]
              refine a_load_row (some 55) 104 _ rfl rfl rfl (by rfl) w4.heap.size rfl (verC u) 104 _ (fun wx hw => hw.2.1) Tryz.underlying104 rfl infoRs ?_
              simp only [Act.put, List.setIfInBounds_toArray, List.set_cons_zero, List.set_cons_succ]
              refine a_value (some 56) ?_ rfl rfl (by rfl) (fun wx hw => ?_) ?_
              rotate_left
              · go_simp
                with_reducible rfl
              simp only [Act.put, List.setIfInBounds_toArray, List.set_cons_zero, List.set_cons_succ]
              refine a_value (some 57) ?_ rfl rfl (by rfl) (fun wx hw => ?_) ?_
              rotate_left
              · go_simp
                with_reducible rfl
              simp only [Act.put, List.setIfInBounds_toArray, List.set_cons_zero, List.set_cons_succ]
              refine a_value (some 58) ?_ rfl rfl (by rfl) (fun wx hw => ?_) ?_
              rotate_left
              · go_simp
                with_reducible rfl
              simp only [Act.put, List.setIfInBounds_toArray, List.set_cons_zero, List.set_cons_succ]
              refine a_wp rfl (by rfl) ?_
              refine wp_store_row 159 _ _ rfl w.heap.size (tmC t u) rfl rfl 159 (tmC ⟨#[]⟩ zeroVer) hz5 infoT rfl (tm_one _ _) ?_
              refine ⟨⟨Row.other hs5 (by omega), Row.other hv5 (by omega), trivial⟩, ?_⟩
              simp only [Act.put]
              refine a_alone (some 3) (.bool false) ((w4.alloc (.cells (verC u) 104)).drew.setRow w.heap.size (tmC t u)) rfl rfl (by rfl) (by go_simp) ⟨Row.other hs5 (by omega), Row.other hv5 (by omega), trivial⟩ ?_
              simp only [Act.put, List.setIfInBounds_toArray]
              refine a_done ?_
              try simp only [Exit.then]
              go_wp2
              exact bodyPost_ret (results_cell_row2 resultsRt _ _ w.heap.size 159 (tmC t u) (0, 0) _ rfl (Row.setRow hz5) Tryz.underlying159 rfl infoT) rfl ⟨t, u, by rw [HTE.out]; rfl, (fun t ht => by rw [HTE.out] at ht; cases ht), bel_setRow hb5.drew (Nat.le_refl _) _⟩
            | some v =>
              rw [hp] at hcase0
              obtain ⟨u, hu⟩ : ∃ u, u = v := ⟨_, rfl⟩
              have hpe : parseE t2 = .tuple #[verV u, .int .i64 0] := by rw [hu]; exact parseE_yes hp
              have hcase : termR (vb s) = some (vb t, u) := by rw [hu]; exact hcase0
              clear hp hu hcase0
              go_wp2
              go_quiet (fail)
              obtain ⟨wz, hwz⟩ : ∃ z, z = wr.drewN nq := ⟨_, rfl⟩
              rw [← hwz]
              have HRz : Hid (TmR w wz s i) := by rw [hwz]; exact TmR.drewN HR.out nq
              clear hwz hcx HR
              have HTE : Hid (termR (vb s) = some (vb t, u)) := hcase
              have hpc := refParse_ok t2 wz (by have := HSZ2.out; omega)
              rw [hpe] at hpc
              have HBz : Hid (Below w.heap.size w wz) := TmR.old HRz.out
              have HZz : Hid (Row wz w.heap.size (tmC ⟨#[]⟩ zeroVer) 159) := TmR.z HRz.out
              have HSz : Hid (Row wz (w.heap.size + 1) sgC 9) := TmR.sg HRz.out
              have hcz : wz.cell? ⟨w.heap.size + 1, i, none⟩ = some (.string t) := (HSz.out.cell i).trans hx1
              clear hpe hcase
              go_wp2_with fail
              refine hpc.mono ?_
              rintro e w4 ⟨rfl, hb4⟩
              have hz5 : Row (w4.alloc (.cells (verC u) 104)) w.heap.size (tmC ⟨#[]⟩ zeroVer) 159 := (HZz.out.below hb4 HZz.out.lt).alloc _
              have hs5 : Row (w4.alloc (.cells (verC u) 104)) (w.heap.size + 1) sgC 9 := (HSz.out.below hb4 HSz.out.lt).alloc _
              have hv5 : Row (w4.alloc (.cells (verC u) 104)) w4.heap.size (verC u) 104 := Row.new _ _ _
              have hb5 : Below w.heap.size w (w4.alloc (.cells (verC u) 104)) := (HBz.out.trans (hb4.mono HBz.out.size)).alloc (Nat.le_trans HBz.out.size hb4.size) _
              have hlt4 : w.heap.size + 1 < w4.heap.size := Nat.lt_of_lt_of_le HSz.out.lt hb4.size
              clear hpc hb4 hcz
              go_upto_region 9 with (refine wpList_store_new rfl 104 _ _ rfl w4 zeroC (verC u) 104 rfl w4.heap.size rfl rfl rfl infoRs rfl (verC_one _) ?_)
              refine wp_region_permA [(false, 0), (false, 1), (false, 2), (false, 3), (false, 4), (false, 5), (false, 6), (false, 7), (true, 8), (true, 9)] (fun wx => Row wx (w.heap.size + 1) sgC 9 ∧ Row wx w4.heap.size (verC u) 104 ∧ True) (by kernel_rfl) (by kernel_rfl) ⟨hs5, hv5, trivial⟩ ?_
              refine a_value (some 51) ?_ rfl rfl (by rfl) (fun wx hw => ?_) ?_
              rotate_left
              · go_simp
                with_reducible rfl
              simp only [Act.put, List.setIfInBounds_toArray, List.set_cons_zero, List.set_cons_succ]
              refine a_value (some 52) ?_ rfl rfl (by rfl) (fun wx hw => ?_) ?_
              rotate_left
              · go_simp
                with_reducible rfl
              simp only [Act.put, List.setIfInBounds_toArray, List.set_cons_zero, List.set_cons_succ]
              refine a_value (some 53) ?_ rfl rfl (by rfl) (fun wx hw => ?_) ?_
              rotate_left
              · go_simp
                with_reducible rfl
              simp only [Act.put, List.setIfInBounds_toArray, List.set_cons_zero, List.set_cons_succ]
              refine a_value (some 54) (.string t) rfl rfl (by rfl) (fun wx hw => ?_) ?_
              · have hc := (hw.1.cell i).trans hx1
                go_simp
              simp only [Act.put, List.setIfInBounds_toArray, List.set_cons_zero, List.set_cons_succ]
              refine a_load_row (some 55) 104 _ rfl rfl rfl (by rfl) w4.heap.size rfl (verC u) 104 _ (fun wx hw => hw.2.1) Tryz.underlying104 rfl infoRs ?_
              simp only [Act.put, List.setIfInBounds_toArray, List.set_cons_zero, List.set_cons_succ]
              refine a_value (some 56) ?_ rfl rfl (by rfl) (fun wx hw => ?_) ?_
              rotate_left
              · go_simp
                with_reducible rfl
              simp only [Act.put, List.setIfInBounds_toArray, List.set_cons_zero, List.set_cons_succ]
              refine a_value (some 57) ?_ rfl rfl (by rfl) (fun wx hw => ?_) ?_
              rotate_left
              · go_simp
                with_reducible rfl
              simp only [Act.put, List.setIfInBounds_toArray, List.set_cons_zero, List.set_cons_succ]
              refine a_value (some 58) ?_ rfl rfl (by rfl) (fun wx hw => ?_) ?_
              rotate_left
              · go_simp
                with_reducible rfl
              simp only [Act.put, List.setIfInBounds_toArray, List.set_cons_zero, List.set_cons_succ]
              refine a_wp rfl (by rfl) ?_
              refine wp_store_row 159 _ _ rfl w.heap.size (tmC t u) rfl rfl 159 (tmC ⟨#[]⟩ zeroVer) hz5 infoT rfl (tm_one _ _) ?_
              refine ⟨⟨Row.other hs5 (by omega), Row.other hv5 (by omega), trivial⟩, ?_⟩
              simp only [Act.put]
              refine a_alone (some 3) (.bool true) ((w4.alloc (.cells (verC u) 104)).drew.setRow w.heap.size (tmC t u)) rfl rfl (by rfl) (by go_simp) ⟨Row.other hs5 (by omega), Row.other hv5 (by omega), trivial⟩ ?_
              simp only [Act.put, List.setIfInBounds_toArray]
              refine a_done ?_
              try simp only [Exit.then]
              go_wp2
              exact bodyPost_ret (results_cell_row2 resultsRt _ _ w.heap.size 159 (tmC t u) (0, 0) _ rfl (Row.setRow hz5) Tryz.underlying159 rfl infoT) rfl ⟨t, u, by rw [HTE.out]; rfl, (fun t ht => by rw [HTE.out] at ht; cases ht; rfl), bel_setRow hb5.drew (Nat.le_refl _) _⟩
          · have hne1 : ¬ t.toList = x.toList := fun e => htx (by
              rw [ByteArray.toList_eq, ByteArray.toList_eq] at e
              exact vb_inj e)
            have hne2 : (t.toList == x.toList) = false := by simpa using hne1
            have HP : Hid (sgP (vb s) (vb x) = false) := by
              show _ = _
              unfold sgP
              rw [vb_len, vb_len, decide_eq_true hlen, ← HTv.out, Bool.true_and]
              simp only [beq_eq_false_iff_ne]
              exact fun e => htx (vb_inj e)
            have HN : Hid (∀ q, TmR w (wr.drewN q) s (i + 1)) := fun q => (TmR.skip HR.out HX2.out HP.out).drewN q
            clear ht htx HTv
            go_wp2
            go_quiet (fail)
            go_wp2
            go_roundw
            case rel => exact ⟨i + 1, by omega, by go_num, HN.out _⟩
            case measure => simp [intOf]; omega
        · have g1 : ¬ (x.size : Int) < (s.size : Int) := by omega
          have g2 : decide ((x.size : Int) < (s.size : Int)) = false := decide_eq_false g1
          have g3 : decide (x.size < s.size) = false := decide_eq_false hlen
          have HP : Hid (sgP (vb s) (vb x) = false) := by
            show _ = _
            unfold sgP
            rw [vb_len, vb_len, decide_eq_false hlen]
            rfl
          have HN : Hid (∀ q, TmR w (wr.drewN q) s (i + 1)) := fun q => (TmR.skip HR.out HX2.out HP.out).drewN q
          go_wp2
          go_quiet (fail)
          go_wp2
          go_roundw
          case rel => exact ⟨i + 1, by omega, by go_num, HN.out _⟩
          case measure => simp [intOf]; omega
      · have hlt' : ¬ (i : Int) < 7 := by omega
        have HTE : Hid (termR (vb s) = none) := by show _ = _; rw [HT.out, TmR.none HR.out (by omega)]
        have hz := TmR.z HR.out
        have HB : Hid (Below w.heap.size w wr) := TmR.old HR.out
        go_wp2_with (refine wpList_store_row rfl 159 _ _ rfl w.heap.size (tmC ⟨#[]⟩ zeroVer) rfl rfl 159 (tmC ⟨#[]⟩ zeroVer) hz infoT rfl (tm_one _ _) ?_)
        exact bodyPost_ret (results_cell_row2 resultsRt _ _ w.heap.size 159 (tmC ⟨#[]⟩ zeroVer) (0, 0) _ rfl (Row.setRow hz) Tryz.underlying159 rfl infoT) rfl ⟨⟨#[]⟩, zeroVer, by rw [HTE.out]; rfl, (fun t ht => by rw [HTE.out] at ht; cases ht), bel_setRow HB.out (Nat.le_refl _) _⟩
end Go.Proofs.YtkbhckjpmgkgjaaGreatDoor
namespace Go.Proofs.YtkbhckjpmgkgjaaGreatDoor
open Go.RowKit

/-- What holds while a term is asked. -/
structure HsS (w : World) (op : ByteArray) (u x : Ver) (wx : World) : Prop where
  a : Row wx w.heap.size (tmC op u) 159
  b : Row wx (w.heap.size + 1) (verC x) 104
  old : Below w.heap.size w wx
theorem HsS.next {w : World} {op : ByteArray} {u x : Ver} {wx w' : World} (h : HsS w op u x wx) (hb : Below wx.heap.size wx w') : HsS w op u x w' :=
  ⟨h.a.below hb h.a.lt, h.b.below hb h.b.lt, h.old.trans (hb.mono h.old.size)⟩
theorem HsS.start (w : World) (op : ByteArray) (u x : Ver) : HsS w op u x ((w.alloc (.cells (tmC op u) 159)).alloc (.cells (verC x) 104)) := by
  refine ⟨(Row.new w _ _).alloc _, ?_, ((Below.refl _ _).alloc (Nat.le_refl _) _).alloc (by simp) _⟩
  have h := Row.new (w.alloc (.cells (tmC op u) 159)) (verC x) 104
  rw [World.size_alloc] at h
  exact h
theorem row_tv {w : World} {g : Nat} {op : ByteArray} {u : Ver} (h : Row w g (tmC op u) 159) : w.rangeAt g 1 (encV1 u) := fun j y hj => by
  have h6 : j < 6 := (List.getElem?_eq_some_iff.1 hj).1
  rw [h.cell (1 + j), ← hj]
  match j, h6 with
  | 0, _ => rfl
  | 1, _ => rfl
  | 2, _ => rfl
  | 3, _ => rfl
  | 4, _ => rfl
  | 5, _ => rfl
/-- A row's part is loaded behind a guard that stands. -/
theorem wpList_load_midW {P : Program} {ops : Array Oper} {rest : List Oper} {o : Oper} {a : Act} {w : World} {Q : Exit → Act → World → Prop} (hw : Region.wanted o (yielded ops a.tmps) = true) (ty : TypeId) (x : Operand) (ho : o.op = .load ty x) (b off : Nat) (hx : a.eval x = .pointer (some ⟨b, off, none⟩)) (cs : List Value) (d : TypeDesc)
    (hC : w.rangeAt b off cs) (hu : P.underlying ty = some d) (hd : d.isRow = true) (hs : (P.info? ty).map (·.size) = some cs.length) (k : wpList P ops Q rest (a.put o.dst (.agg cs.toArray)) w) : wpList P ops Q (o :: rest) a w := by
  refine BigFrame.wpList_want hw fun K hK => ?_
  unfold Oper.wp execOp
  simp only [ho, hx, Instr.loadAt, Instr.sureAddr, Sem.run_bind, Sem.run_pure, Result.andThen_ok, run_loadVar_mid w b off ty cs d hC hu hd hs]
  exact hK _ _ k
/-- How far the first number that is not 0 has been sought, from behind. -/
def FpI (v : Ver) (n k : Nat) (m : Int) : Prop := ((∀ j, k ≤ j → j < n → nAt v j = 0) ∧ m = n) ∨ ∃ j, k ≤ j ∧ j < n ∧ nAt v j ≠ 0 ∧ (∀ i, k ≤ i → i < j → nAt v i = 0) ∧ m = (j : Int) + 1
theorem FpI.zero {v : Ver} {n i : Nat} {m : Int} (h : FpI v n (i + 1) m) (hz : nAt v i = 0) : FpI v n i m := by
  rcases h with ⟨h1, h2⟩ | ⟨j, h1, h2, h3, h4, h5⟩
  · refine Or.inl ⟨fun j hj hn => ?_, h2⟩
    by_cases e : j = i
    · rw [e]; exact hz
    · exact h1 j (by omega) hn
  · refine Or.inr ⟨j, by omega, h2, h3, fun k hk hj => ?_, h5⟩
    by_cases e : k = i
    · rw [e]; exact hz
    · exact h4 k (by omega) hj
theorem FpI.some {v : Ver} {n i : Nat} (hi : i < n) (hz : nAt v i ≠ 0) : FpI v n i ((i : Int) + 1) := Or.inr ⟨i, Nat.le_refl _, hi, hz, fun k h1 h2 => absurd h1 (by omega), rfl⟩
theorem FpI.done {v : Ver} {n : Nat} {m : Int} (h : FpI v n 0 m) (hv : May v) (hn : v.cnt = (n : Int)) : m = firstP v := by
  have hc := hv.cnt
  rcases h with ⟨h1, h2⟩ | ⟨j, h1, h2, h3, h4, h5⟩
  · rw [firstP_none hv (fun j hj => h1 j (Nat.zero_le _) (by omega)), h2, hn]
  · rw [firstP_at (fun k hk => h4 k (Nat.zero_le _) hk) (by omega) h3, h5]
theorem FpI.small {v : Ver} {n k : Nat} {m : Int} (h : FpI v n k m) (hn : n ≤ 4) : 0 ≤ m ∧ m ≤ 4 := by
  rcases h with ⟨_, h2⟩ | ⟨j, _, h2, _, _, h5⟩ <;> omega
set_option maxRecDepth 20000 in
set_option maxHeartbeats 4000000 in
theorem has_st (u x : Ver) (w : World) : Calls Tryz.prog 132 #[.agg (tmC ⟨#[42]⟩ u), verV x] w fun e w' => e = .returned (.bool (true)) ∧ Below w.heap.size w w' := by
  have hs := HsS.start w ⟨#[42]⟩ u x
  obtain ⟨w1, hw1⟩ : ∃ y, y = (w.alloc (.cells (tmC ⟨#[42]⟩ u) 159)).alloc (.cells (verC x) 104) := ⟨_, rfl⟩
  have hw1' := hw1.symm
  rw [← hw1] at hs
  have HS1 : Hid (HsS w ⟨#[42]⟩ u x w1) := hs
  have hcm := refCompare_ok x u w1
  have hrx := hs.b
  have hru := row_tv hs.a
  clear hs hw1
  go_enter Tryz.func132, Tryz.ntmps132
  go_wp2_with (first | refine wpList_load_mid rfl 104 _ rfl w.heap.size 1 rfl _ _ hru Tryz.underlying104 rfl infoRs ?_ | refine wpList_load_row rfl 104 _ rfl (w.heap.size + 1) rfl 104 (verC x) (0, 0) _ hrx Tryz.underlying104 rfl infoRs ?_ | fail)
  refine hcm.mono ?_
  rintro e w2 ⟨rfl, hb2⟩
  have HS2 : Hid (HsS w ⟨#[42]⟩ u x w2) := HsS.next HS1.out hb2
  have cop : w2.cell? ⟨w.heap.size, 0, none⟩ = some (.string ⟨#[42]⟩) := ((HsS.a HS2.out).cell 0).trans rfl
  have HB2 : Hid (Below w.heap.size w w2) := HsS.old HS2.out
  clear hcm hb2 hrx hru hw1' HS1
  go_wp2
  go_ret
  exact ⟨(by first | rfl | (congr 2; simp) | (congr 2; exact Bool.eq_iff_iff.2 (by simp))), HB2.out⟩
set_option maxRecDepth 20000 in
set_option maxHeartbeats 4000000 in
theorem has_ge (u x : Ver) (w : World) : Calls Tryz.prog 132 #[.agg (tmC ⟨#[62, 61]⟩ u), verV x] w fun e w' => e = .returned (.bool (decide (0 ≤ cmpV x u))) ∧ Below w.heap.size w w' := by
  have hs := HsS.start w ⟨#[62, 61]⟩ u x
  obtain ⟨w1, hw1⟩ : ∃ y, y = (w.alloc (.cells (tmC ⟨#[62, 61]⟩ u) 159)).alloc (.cells (verC x) 104) := ⟨_, rfl⟩
  have hw1' := hw1.symm
  rw [← hw1] at hs
  have HS1 : Hid (HsS w ⟨#[62, 61]⟩ u x w1) := hs
  have hcm := refCompare_ok x u w1
  have hrx := hs.b
  have hru := row_tv hs.a
  obtain ⟨cz, hcz⟩ : ∃ c, c = cmpV x u := ⟨_, rfl⟩
  rw [← hcz] at hcm
  rw [← hcz]
  clear hcz
  clear hs hw1
  go_enter Tryz.func132, Tryz.ntmps132
  go_wp2_with (first | refine wpList_load_mid rfl 104 _ rfl w.heap.size 1 rfl _ _ hru Tryz.underlying104 rfl infoRs ?_ | refine wpList_load_row rfl 104 _ rfl (w.heap.size + 1) rfl 104 (verC x) (0, 0) _ hrx Tryz.underlying104 rfl infoRs ?_ | fail)
  refine hcm.mono ?_
  rintro e w2 ⟨rfl, hb2⟩
  have HS2 : Hid (HsS w ⟨#[62, 61]⟩ u x w2) := HsS.next HS1.out hb2
  have cop : w2.cell? ⟨w.heap.size, 0, none⟩ = some (.string ⟨#[62, 61]⟩) := ((HsS.a HS2.out).cell 0).trans rfl
  have HB2 : Hid (Below w.heap.size w w2) := HsS.old HS2.out
  clear hcm hb2 hrx hru hw1' HS1
  go_wp2
  go_ret
  exact ⟨(by first | rfl | (congr 2; simp) | (congr 2; exact Bool.eq_iff_iff.2 (by simp))), HB2.out⟩
set_option maxRecDepth 20000 in
set_option maxHeartbeats 4000000 in
theorem has_le (u x : Ver) (w : World) : Calls Tryz.prog 132 #[.agg (tmC ⟨#[60, 61]⟩ u), verV x] w fun e w' => e = .returned (.bool (decide (cmpV x u ≤ 0))) ∧ Below w.heap.size w w' := by
  have hs := HsS.start w ⟨#[60, 61]⟩ u x
  obtain ⟨w1, hw1⟩ : ∃ y, y = (w.alloc (.cells (tmC ⟨#[60, 61]⟩ u) 159)).alloc (.cells (verC x) 104) := ⟨_, rfl⟩
  have hw1' := hw1.symm
  rw [← hw1] at hs
  have HS1 : Hid (HsS w ⟨#[60, 61]⟩ u x w1) := hs
  have hcm := refCompare_ok x u w1
  have hrx := hs.b
  have hru := row_tv hs.a
  obtain ⟨cz, hcz⟩ : ∃ c, c = cmpV x u := ⟨_, rfl⟩
  rw [← hcz] at hcm
  rw [← hcz]
  clear hcz
  clear hs hw1
  go_enter Tryz.func132, Tryz.ntmps132
  go_wp2_with (first | refine wpList_load_mid rfl 104 _ rfl w.heap.size 1 rfl _ _ hru Tryz.underlying104 rfl infoRs ?_ | refine wpList_load_row rfl 104 _ rfl (w.heap.size + 1) rfl 104 (verC x) (0, 0) _ hrx Tryz.underlying104 rfl infoRs ?_ | fail)
  refine hcm.mono ?_
  rintro e w2 ⟨rfl, hb2⟩
  have HS2 : Hid (HsS w ⟨#[60, 61]⟩ u x w2) := HsS.next HS1.out hb2
  have cop : w2.cell? ⟨w.heap.size, 0, none⟩ = some (.string ⟨#[60, 61]⟩) := ((HsS.a HS2.out).cell 0).trans rfl
  have HB2 : Hid (Below w.heap.size w w2) := HsS.old HS2.out
  clear hcm hb2 hrx hru hw1' HS1
  go_wp2
  go_ret
  exact ⟨(by first | rfl | (congr 2; simp) | (congr 2; exact Bool.eq_iff_iff.2 (by simp))), HB2.out⟩
set_option maxRecDepth 20000 in
set_option maxHeartbeats 4000000 in
theorem has_gt (u x : Ver) (w : World) : Calls Tryz.prog 132 #[.agg (tmC ⟨#[62]⟩ u), verV x] w fun e w' => e = .returned (.bool (decide (0 < cmpV x u))) ∧ Below w.heap.size w w' := by
  have hs := HsS.start w ⟨#[62]⟩ u x
  obtain ⟨w1, hw1⟩ : ∃ y, y = (w.alloc (.cells (tmC ⟨#[62]⟩ u) 159)).alloc (.cells (verC x) 104) := ⟨_, rfl⟩
  have hw1' := hw1.symm
  rw [← hw1] at hs
  have HS1 : Hid (HsS w ⟨#[62]⟩ u x w1) := hs
  have hcm := refCompare_ok x u w1
  have hrx := hs.b
  have hru := row_tv hs.a
  obtain ⟨cz, hcz⟩ : ∃ c, c = cmpV x u := ⟨_, rfl⟩
  rw [← hcz] at hcm
  rw [← hcz]
  clear hcz
  clear hs hw1
  go_enter Tryz.func132, Tryz.ntmps132
  go_wp2_with (first | refine wpList_load_mid rfl 104 _ rfl w.heap.size 1 rfl _ _ hru Tryz.underlying104 rfl infoRs ?_ | refine wpList_load_row rfl 104 _ rfl (w.heap.size + 1) rfl 104 (verC x) (0, 0) _ hrx Tryz.underlying104 rfl infoRs ?_ | fail)
  refine hcm.mono ?_
  rintro e w2 ⟨rfl, hb2⟩
  have HS2 : Hid (HsS w ⟨#[62]⟩ u x w2) := HsS.next HS1.out hb2
  have cop : w2.cell? ⟨w.heap.size, 0, none⟩ = some (.string ⟨#[62]⟩) := ((HsS.a HS2.out).cell 0).trans rfl
  have HB2 : Hid (Below w.heap.size w w2) := HsS.old HS2.out
  clear hcm hb2 hrx hru hw1' HS1
  go_wp2
  go_ret
  exact ⟨(by first | rfl | (congr 2; simp) | (congr 2; exact Bool.eq_iff_iff.2 (by simp))), HB2.out⟩
set_option maxRecDepth 20000 in
set_option maxHeartbeats 4000000 in
theorem has_lt (u x : Ver) (w : World) : Calls Tryz.prog 132 #[.agg (tmC ⟨#[60]⟩ u), verV x] w fun e w' => e = .returned (.bool (decide (cmpV x u < 0))) ∧ Below w.heap.size w w' := by
  have hs := HsS.start w ⟨#[60]⟩ u x
  obtain ⟨w1, hw1⟩ : ∃ y, y = (w.alloc (.cells (tmC ⟨#[60]⟩ u) 159)).alloc (.cells (verC x) 104) := ⟨_, rfl⟩
  have hw1' := hw1.symm
  rw [← hw1] at hs
  have HS1 : Hid (HsS w ⟨#[60]⟩ u x w1) := hs
  have hcm := refCompare_ok x u w1
  have hrx := hs.b
  have hru := row_tv hs.a
  obtain ⟨cz, hcz⟩ : ∃ c, c = cmpV x u := ⟨_, rfl⟩
  rw [← hcz] at hcm
  rw [← hcz]
  clear hcz
  clear hs hw1
  go_enter Tryz.func132, Tryz.ntmps132
  go_wp2_with (first | refine wpList_load_mid rfl 104 _ rfl w.heap.size 1 rfl _ _ hru Tryz.underlying104 rfl infoRs ?_ | refine wpList_load_row rfl 104 _ rfl (w.heap.size + 1) rfl 104 (verC x) (0, 0) _ hrx Tryz.underlying104 rfl infoRs ?_ | fail)
  refine hcm.mono ?_
  rintro e w2 ⟨rfl, hb2⟩
  have HS2 : Hid (HsS w ⟨#[60]⟩ u x w2) := HsS.next HS1.out hb2
  have cop : w2.cell? ⟨w.heap.size, 0, none⟩ = some (.string ⟨#[60]⟩) := ((HsS.a HS2.out).cell 0).trans rfl
  have HB2 : Hid (Below w.heap.size w w2) := HsS.old HS2.out
  clear hcm hb2 hrx hru hw1' HS1
  go_wp2
  go_ret
  exact ⟨(by first | rfl | (congr 2; simp) | (congr 2; exact Bool.eq_iff_iff.2 (by simp))), HB2.out⟩
set_option maxRecDepth 20000 in
set_option maxHeartbeats 4000000 in
theorem has_eq (u x : Ver) (w : World) : Calls Tryz.prog 132 #[.agg (tmC ⟨#[61]⟩ u), verV x] w fun e w' => e = .returned (.bool (decide (cmpV x u = 0))) ∧ Below w.heap.size w w' := by
  have hs := HsS.start w ⟨#[61]⟩ u x
  obtain ⟨w1, hw1⟩ : ∃ y, y = (w.alloc (.cells (tmC ⟨#[61]⟩ u) 159)).alloc (.cells (verC x) 104) := ⟨_, rfl⟩
  have hw1' := hw1.symm
  rw [← hw1] at hs
  have HS1 : Hid (HsS w ⟨#[61]⟩ u x w1) := hs
  have hcm := refCompare_ok x u w1
  have hrx := hs.b
  have hru := row_tv hs.a
  obtain ⟨cz, hcz⟩ : ∃ c, c = cmpV x u := ⟨_, rfl⟩
  rw [← hcz] at hcm
  rw [← hcz]
  clear hcz
  clear hs hw1
  go_enter Tryz.func132, Tryz.ntmps132
  go_wp2_with (first | refine wpList_load_mid rfl 104 _ rfl w.heap.size 1 rfl _ _ hru Tryz.underlying104 rfl infoRs ?_ | refine wpList_load_row rfl 104 _ rfl (w.heap.size + 1) rfl 104 (verC x) (0, 0) _ hrx Tryz.underlying104 rfl infoRs ?_ | fail)
  refine hcm.mono ?_
  rintro e w2 ⟨rfl, hb2⟩
  have HS2 : Hid (HsS w ⟨#[61]⟩ u x w2) := HsS.next HS1.out hb2
  have cop : w2.cell? ⟨w.heap.size, 0, none⟩ = some (.string ⟨#[61]⟩) := ((HsS.a HS2.out).cell 0).trans rfl
  have HB2 : Hid (Below w.heap.size w w2) := HsS.old HS2.out
  clear hcm hb2 hrx hru hw1' HS1
  go_wp2
  go_ret
  exact ⟨(by first | rfl | (congr 2; simp) | (congr 2; exact Bool.eq_iff_iff.2 (by simp))), HB2.out⟩
set_option maxRecDepth 20000 in
set_option maxHeartbeats 4000000 in
theorem has_tip (u x : Ver) (w : World) (hm : May u) (hs13 : u.tag.size ≤ 140737488355328) (hc0 : 0 ≤ cmpV x u) : Calls Tryz.prog 132 #[.agg (tmC ⟨#[126]⟩ u), verV x] w fun e w' => e = .returned (.bool ((decide (0 ≤ cmpV x u) && belowB x u (if u.cnt = 1 then 1 else 2)))) ∧ Below w.heap.size w w' := by
  have hs := HsS.start w ⟨#[126]⟩ u x
  obtain ⟨w1, hw1⟩ : ∃ y, y = (w.alloc (.cells (tmC ⟨#[126]⟩ u) 159)).alloc (.cells (verC x) 104) := ⟨_, rfl⟩
  have hw1' := hw1.symm
  rw [← hw1] at hs
  have HS1 : Hid (HsS w ⟨#[126]⟩ u x w1) := hs
  have hcm := refCompare_ok x u w1
  have hrx := hs.b
  have hru := row_tv hs.a
  obtain ⟨cz, hcz⟩ : ∃ c, c = cmpV x u := ⟨_, rfl⟩
  rw [← hcz] at hcm hc0
  rw [← hcz]
  clear hcz
  obtain ⟨R, hR⟩ : ∃ R, R = (decide (0 ≤ cz) && belowB x u (if u.cnt = 1 then 1 else 2)) := ⟨_, rfl⟩
  have HRes : Hid (R = belowB x u (if u.cnt = 1 then 1 else 2)) := by show _ = _; rw [hR, decide_eq_true hc0]; rfl
  rw [← hR]
  clear hR
  have hcnt := hm.cnt
  obtain ⟨n, hn⟩ : ∃ n : Nat, u.cnt = (n : Int) := ⟨u.cnt.toNat, by omega⟩
  have hn1 : 1 ≤ n := by omega
  have hn4 : n ≤ 4 := by omega
  have HN : Hid (u.cnt = (n : Int)) := hn
  have HM : Hid (May u) := hm
  have HTG : Hid (u.tag.size ≤ 140737488355328) := hs13
  clear hcnt hn hm hs13
  clear hs hw1
  go_enter Tryz.func132, Tryz.ntmps132
  go_wp2_with (first | refine wpList_load_mid rfl 104 _ rfl w.heap.size 1 rfl _ _ hru Tryz.underlying104 rfl infoRs ?_ | refine wpList_load_row rfl 104 _ rfl (w.heap.size + 1) rfl 104 (verC x) (0, 0) _ hrx Tryz.underlying104 rfl infoRs ?_ | fail)
  refine hcm.mono ?_
  rintro e w2 ⟨rfl, hb2⟩
  have HS2 : Hid (HsS w ⟨#[126]⟩ u x w2) := HsS.next HS1.out hb2
  have cop : w2.cell? ⟨w.heap.size, 0, none⟩ = some (.string ⟨#[126]⟩) := ((HsS.a HS2.out).cell 0).trans rfl
  have HB2 : Hid (Below w.heap.size w w2) := HsS.old HS2.out
  clear hcm hb2 hrx hru hw1' HS1
  have ccn : w2.cell? ⟨w.heap.size, 5, none⟩ = some (.int .i64 (n : Int)) := ((HsS.a HS2.out).cell 5).trans (by show some (Value.int .i64 u.cnt) = _; rw [HN.out])
  by_cases h1 : n = 1
  · have HE1 : Hid ((if u.cnt = 1 then (1 : Int) else 2) = 1) := by show _ = _; rw [if_pos (by rw [HN.out, h1]; rfl)]
    subst h1
    have hbl := below_ok x u 1 w2 HTG.out
    have hrx2 := HsS.b HS2.out
    have hru2 := row_tv (HsS.a HS2.out)
    go_wp2_with (first | refine wpList_load_midW (by rfl) 104 _ rfl w.heap.size 1 rfl _ _ hru2 Tryz.underlying104 rfl infoRs ?_ | refine wpList_load_wanted (by rfl) 104 _ rfl (w.heap.size + 1) rfl 104 (verC x) _ hrx2 Tryz.underlying104 rfl infoRs ?_ | fail)
    refine hbl.mono ?_
    rintro e w3 ⟨rfl, hb3⟩
    clear hbl
    go_wp2
    go_ret
    exact ⟨by rw [HRes.out, HE1.out]; rfl, HB2.out.trans (hb3.mono HB2.out.size)⟩
  · have HE1 : Hid ((if u.cnt = 1 then (1 : Int) else 2) = 2) := by show _ = _; rw [if_neg (by rw [HN.out]; omega)]
    have h1' : ¬ (n : Int) = 1 := by omega
    have h1b := beqI h1'
    have hbl := below_ok x u 2 w2 HTG.out
    have hrx2 := HsS.b HS2.out
    have hru2 := row_tv (HsS.a HS2.out)
    go_wp2_with (first | refine wpList_load_midW (by rfl) 104 _ rfl w.heap.size 1 rfl _ _ hru2 Tryz.underlying104 rfl infoRs ?_ | refine wpList_load_wanted (by rfl) 104 _ rfl (w.heap.size + 1) rfl 104 (verC x) _ hrx2 Tryz.underlying104 rfl infoRs ?_ | fail)
    refine hbl.mono ?_
    rintro e w3 ⟨rfl, hb3⟩
    clear hbl
    go_wp2
    go_ret
    exact ⟨by rw [HRes.out, HE1.out]; rfl, HB2.out.trans (hb3.mono HB2.out.size)⟩
set_option maxRecDepth 20000 in
set_option maxHeartbeats 4000000 in
theorem has_tin (u x : Ver) (w : World) (hm : May u) (hs13 : u.tag.size ≤ 140737488355328) (hc0 : ¬ 0 ≤ cmpV x u) : Calls Tryz.prog 132 #[.agg (tmC ⟨#[126]⟩ u), verV x] w fun e w' => e = .returned (.bool ((decide (0 ≤ cmpV x u) && belowB x u (if u.cnt = 1 then 1 else 2)))) ∧ Below w.heap.size w w' := by
  have hs := HsS.start w ⟨#[126]⟩ u x
  obtain ⟨w1, hw1⟩ : ∃ y, y = (w.alloc (.cells (tmC ⟨#[126]⟩ u) 159)).alloc (.cells (verC x) 104) := ⟨_, rfl⟩
  have hw1' := hw1.symm
  rw [← hw1] at hs
  have HS1 : Hid (HsS w ⟨#[126]⟩ u x w1) := hs
  have hcm := refCompare_ok x u w1
  have hrx := hs.b
  have hru := row_tv hs.a
  obtain ⟨cz, hcz⟩ : ∃ c, c = cmpV x u := ⟨_, rfl⟩
  rw [← hcz] at hcm hc0
  rw [← hcz]
  clear hcz
  obtain ⟨R, hR⟩ : ∃ R, R = (decide (0 ≤ cz) && belowB x u (if u.cnt = 1 then 1 else 2)) := ⟨_, rfl⟩
  have HRes : Hid (R = false) := by show _ = _; rw [hR, decide_eq_false hc0]; rfl
  rw [← hR]
  clear hR
  have hcnt := hm.cnt
  obtain ⟨n, hn⟩ : ∃ n : Nat, u.cnt = (n : Int) := ⟨u.cnt.toNat, by omega⟩
  have hn1 : 1 ≤ n := by omega
  have hn4 : n ≤ 4 := by omega
  have HN : Hid (u.cnt = (n : Int)) := hn
  have HM : Hid (May u) := hm
  have HTG : Hid (u.tag.size ≤ 140737488355328) := hs13
  clear hcnt hn hm hs13
  clear hs hw1
  go_enter Tryz.func132, Tryz.ntmps132
  go_wp2_with (first | refine wpList_load_mid rfl 104 _ rfl w.heap.size 1 rfl _ _ hru Tryz.underlying104 rfl infoRs ?_ | refine wpList_load_row rfl 104 _ rfl (w.heap.size + 1) rfl 104 (verC x) (0, 0) _ hrx Tryz.underlying104 rfl infoRs ?_ | fail)
  refine hcm.mono ?_
  rintro e w2 ⟨rfl, hb2⟩
  have HS2 : Hid (HsS w ⟨#[126]⟩ u x w2) := HsS.next HS1.out hb2
  have cop : w2.cell? ⟨w.heap.size, 0, none⟩ = some (.string ⟨#[126]⟩) := ((HsS.a HS2.out).cell 0).trans rfl
  have HB2 : Hid (Below w.heap.size w w2) := HsS.old HS2.out
  clear hcm hb2 hrx hru hw1' HS1
  have ccn : w2.cell? ⟨w.heap.size, 5, none⟩ = some (.int .i64 (n : Int)) := ((HsS.a HS2.out).cell 5).trans (by show some (Value.int .i64 u.cnt) = _; rw [HN.out])
  by_cases h1 : n = 1
  · have HE1 : Hid ((if u.cnt = 1 then (1 : Int) else 2) = 1) := by show _ = _; rw [if_pos (by rw [HN.out, h1]; rfl)]
    subst h1
    go_wp2
    go_ret
    exact ⟨by rw [HRes.out]; rfl, HB2.out⟩
  · have HE1 : Hid ((if u.cnt = 1 then (1 : Int) else 2) = 2) := by show _ = _; rw [if_neg (by rw [HN.out]; omega)]
    have h1' : ¬ (n : Int) = 1 := by omega
    have h1b := beqI h1'
    go_wp2
    go_ret
    exact ⟨by rw [HRes.out]; rfl, HB2.out⟩
set_option maxRecDepth 20000 in
set_option maxHeartbeats 4000000 in
theorem has_cap (u x : Ver) (w : World) (hm : May u) (hs13 : u.tag.size ≤ 140737488355328) (hc0 : 0 ≤ cmpV x u) : Calls Tryz.prog 132 #[.agg (tmC ⟨#[94]⟩ u), verV x] w fun e w' => e = .returned (.bool ((decide (0 ≤ cmpV x u) && belowB x u (firstP u)))) ∧ Below w.heap.size w w' := by
  have hs := HsS.start w ⟨#[94]⟩ u x
  obtain ⟨w1, hw1⟩ : ∃ y, y = (w.alloc (.cells (tmC ⟨#[94]⟩ u) 159)).alloc (.cells (verC x) 104) := ⟨_, rfl⟩
  have hw1' := hw1.symm
  rw [← hw1] at hs
  have HS1 : Hid (HsS w ⟨#[94]⟩ u x w1) := hs
  have hcm := refCompare_ok x u w1
  have hrx := hs.b
  have hru := row_tv hs.a
  obtain ⟨cz, hcz⟩ : ∃ c, c = cmpV x u := ⟨_, rfl⟩
  rw [← hcz] at hcm hc0
  rw [← hcz]
  clear hcz
  obtain ⟨R, hR⟩ : ∃ R, R = (decide (0 ≤ cz) && belowB x u (firstP u)) := ⟨_, rfl⟩
  have HRes : Hid (R = belowB x u (firstP u)) := by show _ = _; rw [hR, decide_eq_true hc0]; rfl
  rw [← hR]
  clear hR
  have hcnt := hm.cnt
  obtain ⟨n, hn⟩ : ∃ n : Nat, u.cnt = (n : Int) := ⟨u.cnt.toNat, by omega⟩
  have hn1 : 1 ≤ n := by omega
  have hn4 : n ≤ 4 := by omega
  have HN : Hid (u.cnt = (n : Int)) := hn
  have HM : Hid (May u) := hm
  have HTG : Hid (u.tag.size ≤ 140737488355328) := hs13
  clear hcnt hn hm hs13
  clear hs hw1
  go_enter Tryz.func132, Tryz.ntmps132
  go_wp2_with (first | refine wpList_load_mid rfl 104 _ rfl w.heap.size 1 rfl _ _ hru Tryz.underlying104 rfl infoRs ?_ | refine wpList_load_row rfl 104 _ rfl (w.heap.size + 1) rfl 104 (verC x) (0, 0) _ hrx Tryz.underlying104 rfl infoRs ?_ | fail)
  refine hcm.mono ?_
  rintro e w2 ⟨rfl, hb2⟩
  have HS2 : Hid (HsS w ⟨#[94]⟩ u x w2) := HsS.next HS1.out hb2
  have cop : w2.cell? ⟨w.heap.size, 0, none⟩ = some (.string ⟨#[94]⟩) := ((HsS.a HS2.out).cell 0).trans rfl
  have HB2 : Hid (Below w.heap.size w w2) := HsS.old HS2.out
  clear hcm hb2 hrx hru hw1' HS1
  have ccn : w2.cell? ⟨w.heap.size, 5, none⟩ = some (.int .i64 (n : Int)) := ((HsS.a HS2.out).cell 5).trans (by show some (Value.int .i64 u.cnt) = _; rw [HN.out])
  have hcn1 : IntKind.i64.wrap ((n : Int) - 1) = ((n - 1 : Nat) : Int) := by rw [IntKind.wrap_i64]; omega
  have HI0 : Hid (FpI u n n n) := Or.inl ⟨fun j h1 h2 => absurd h1 (by omega), rfl⟩
  go_wp2
  go_loop [7, 8] (fun mv iv => ∃ m : Int, mv = .int .i64 m ∧ 0 ≤ m ∧ m ≤ 4 ∧ ((∃ i : Nat, iv = .int .i64 i ∧ i < n ∧ Hid (FpI u n (i + 1) m)) ∨ (iv = .int .i64 (-1) ∧ Hid (FpI u n 0 m)))) (fun _ iv => (intOf iv + 1).toNat)
  case atStart => exact ⟨n, rfl, by omega, by omega, Or.inl ⟨n - 1, rfl, by omega, by rw [show n - 1 + 1 = n by omega]; exact HI0⟩⟩
  case round =>
    obtain ⟨m, rfl, hm0, hm4, ⟨i, rfl, hin, HF⟩ | ⟨rfl, HF⟩⟩ := hrel
    · have hi4 : (i : Int) < 4 := by omega
      have cni : w2.cell? ⟨w.heap.size, 1 + i, none⟩ = some (.int .i64 (nAt u i)) := by
        rw [(HsS.a HS2.out).cell (1 + i)]
        have h4 : i < 4 := by omega
        match i, h4 with
        | 0, _ => rfl
        | 1, _ => rfl
        | 2, _ => rfl
        | 3, _ => rfl
      obtain ⟨q, hq⟩ : ∃ q, q = nAt u i := ⟨_, rfl⟩
      rw [← hq] at cni
      have hwd : IntKind.i64.wrap ((i : Int) - 1) = (i : Int) - 1 := by rw [IntKind.wrap_i64]; omega
      have HNext : Hid (∀ m' : Int, 0 ≤ m' → m' ≤ 4 → FpI u n i m' → ∃ m : Int, Value.int .i64 m' = .int .i64 m ∧ 0 ≤ m ∧ m ≤ 4 ∧ ((∃ j : Nat, Value.int .i64 ((i : Int) - 1) = .int .i64 j ∧ j < n ∧ Hid (FpI u n (j + 1) m)) ∨ (Value.int .i64 ((i : Int) - 1) = .int .i64 (-1) ∧ Hid (FpI u n 0 m)))) := fun m' g0 g4 hf => by
        refine ⟨m', rfl, g0, g4, ?_⟩
        cases i with
        | zero => exact Or.inr ⟨rfl, hf⟩
        | succ k => exact Or.inl ⟨k, by congr 1; omega, by omega, hf⟩
      by_cases hq0 : q = 0
      · have HN2 := HNext.out m hm0 hm4 (HF.out.zero (by rw [← hq]; exact hq0))
        have HN3 : Hid _ := HN2
        clear hq HN2 HNext
        go_wp2
        go_round
        case rel => exact HN3.out
        case measure => first | (simp [intOf]; done) | (simp [intOf]; omega)
      · have hqb := beqI hq0
        have HN2 := HNext.out ((i : Int) + 1) (by omega) (by omega) (FpI.some hin (by rw [← hq]; exact hq0))
        have HN3 : Hid _ := HN2
        have hwi : IntKind.i64.wrap ((i : Int) + 1) = (i : Int) + 1 := by rw [IntKind.wrap_i64]; omega
        clear hq HN2 HNext
        go_wp2
        go_round
        case rel => exact HN3.out
        case measure => first | (simp [intOf]; done) | (simp [intOf]; omega)
    · have HEq : Hid (firstP u = m) := (HF.out.done HM.out HN.out).symm
      have hbl := below_ok x u m w2 HTG.out
      have hrx2 := HsS.b HS2.out
      have hru2 := row_tv (HsS.a HS2.out)
      go_wp2_with (first | refine wpList_load_midW (by rfl) 104 _ rfl w.heap.size 1 rfl _ _ hru2 Tryz.underlying104 rfl infoRs ?_ | refine wpList_load_wanted (by rfl) 104 _ rfl (w.heap.size + 1) rfl 104 (verC x) _ hrx2 Tryz.underlying104 rfl infoRs ?_ | fail)
      refine hbl.mono ?_
      rintro e w3 ⟨rfl, hb3⟩
      clear hbl
      go_wp2
      go_ret
      exact ⟨by rw [HRes.out, HEq.out]; rfl, HB2.out.trans (hb3.mono HB2.out.size)⟩
set_option maxRecDepth 20000 in
set_option maxHeartbeats 4000000 in
theorem has_can (u x : Ver) (w : World) (hm : May u) (hs13 : u.tag.size ≤ 140737488355328) (hc0 : ¬ 0 ≤ cmpV x u) : Calls Tryz.prog 132 #[.agg (tmC ⟨#[94]⟩ u), verV x] w fun e w' => e = .returned (.bool ((decide (0 ≤ cmpV x u) && belowB x u (firstP u)))) ∧ Below w.heap.size w w' := by
  have hs := HsS.start w ⟨#[94]⟩ u x
  obtain ⟨w1, hw1⟩ : ∃ y, y = (w.alloc (.cells (tmC ⟨#[94]⟩ u) 159)).alloc (.cells (verC x) 104) := ⟨_, rfl⟩
  have hw1' := hw1.symm
  rw [← hw1] at hs
  have HS1 : Hid (HsS w ⟨#[94]⟩ u x w1) := hs
  have hcm := refCompare_ok x u w1
  have hrx := hs.b
  have hru := row_tv hs.a
  obtain ⟨cz, hcz⟩ : ∃ c, c = cmpV x u := ⟨_, rfl⟩
  rw [← hcz] at hcm hc0
  rw [← hcz]
  clear hcz
  obtain ⟨R, hR⟩ : ∃ R, R = (decide (0 ≤ cz) && belowB x u (firstP u)) := ⟨_, rfl⟩
  have HRes : Hid (R = false) := by show _ = _; rw [hR, decide_eq_false hc0]; rfl
  rw [← hR]
  clear hR
  have hcnt := hm.cnt
  obtain ⟨n, hn⟩ : ∃ n : Nat, u.cnt = (n : Int) := ⟨u.cnt.toNat, by omega⟩
  have hn1 : 1 ≤ n := by omega
  have hn4 : n ≤ 4 := by omega
  have HN : Hid (u.cnt = (n : Int)) := hn
  have HM : Hid (May u) := hm
  have HTG : Hid (u.tag.size ≤ 140737488355328) := hs13
  clear hcnt hn hm hs13
  clear hs hw1
  go_enter Tryz.func132, Tryz.ntmps132
  go_wp2_with (first | refine wpList_load_mid rfl 104 _ rfl w.heap.size 1 rfl _ _ hru Tryz.underlying104 rfl infoRs ?_ | refine wpList_load_row rfl 104 _ rfl (w.heap.size + 1) rfl 104 (verC x) (0, 0) _ hrx Tryz.underlying104 rfl infoRs ?_ | fail)
  refine hcm.mono ?_
  rintro e w2 ⟨rfl, hb2⟩
  have HS2 : Hid (HsS w ⟨#[94]⟩ u x w2) := HsS.next HS1.out hb2
  have cop : w2.cell? ⟨w.heap.size, 0, none⟩ = some (.string ⟨#[94]⟩) := ((HsS.a HS2.out).cell 0).trans rfl
  have HB2 : Hid (Below w.heap.size w w2) := HsS.old HS2.out
  clear hcm hb2 hrx hru hw1' HS1
  have ccn : w2.cell? ⟨w.heap.size, 5, none⟩ = some (.int .i64 (n : Int)) := ((HsS.a HS2.out).cell 5).trans (by show some (Value.int .i64 u.cnt) = _; rw [HN.out])
  have hcn1 : IntKind.i64.wrap ((n : Int) - 1) = ((n - 1 : Nat) : Int) := by rw [IntKind.wrap_i64]; omega
  have HI0 : Hid (FpI u n n n) := Or.inl ⟨fun j h1 h2 => absurd h1 (by omega), rfl⟩
  go_wp2
  go_loop [7, 8] (fun mv iv => ∃ m : Int, mv = .int .i64 m ∧ 0 ≤ m ∧ m ≤ 4 ∧ ((∃ i : Nat, iv = .int .i64 i ∧ i < n ∧ Hid (FpI u n (i + 1) m)) ∨ (iv = .int .i64 (-1) ∧ Hid (FpI u n 0 m)))) (fun _ iv => (intOf iv + 1).toNat)
  case atStart => exact ⟨n, rfl, by omega, by omega, Or.inl ⟨n - 1, rfl, by omega, by rw [show n - 1 + 1 = n by omega]; exact HI0⟩⟩
  case round =>
    obtain ⟨m, rfl, hm0, hm4, ⟨i, rfl, hin, HF⟩ | ⟨rfl, HF⟩⟩ := hrel
    · have hi4 : (i : Int) < 4 := by omega
      have cni : w2.cell? ⟨w.heap.size, 1 + i, none⟩ = some (.int .i64 (nAt u i)) := by
        rw [(HsS.a HS2.out).cell (1 + i)]
        have h4 : i < 4 := by omega
        match i, h4 with
        | 0, _ => rfl
        | 1, _ => rfl
        | 2, _ => rfl
        | 3, _ => rfl
      obtain ⟨q, hq⟩ : ∃ q, q = nAt u i := ⟨_, rfl⟩
      rw [← hq] at cni
      have hwd : IntKind.i64.wrap ((i : Int) - 1) = (i : Int) - 1 := by rw [IntKind.wrap_i64]; omega
      have HNext : Hid (∀ m' : Int, 0 ≤ m' → m' ≤ 4 → FpI u n i m' → ∃ m : Int, Value.int .i64 m' = .int .i64 m ∧ 0 ≤ m ∧ m ≤ 4 ∧ ((∃ j : Nat, Value.int .i64 ((i : Int) - 1) = .int .i64 j ∧ j < n ∧ Hid (FpI u n (j + 1) m)) ∨ (Value.int .i64 ((i : Int) - 1) = .int .i64 (-1) ∧ Hid (FpI u n 0 m)))) := fun m' g0 g4 hf => by
        refine ⟨m', rfl, g0, g4, ?_⟩
        cases i with
        | zero => exact Or.inr ⟨rfl, hf⟩
        | succ k => exact Or.inl ⟨k, by congr 1; omega, by omega, hf⟩
      by_cases hq0 : q = 0
      · have HN2 := HNext.out m hm0 hm4 (HF.out.zero (by rw [← hq]; exact hq0))
        have HN3 : Hid _ := HN2
        clear hq HN2 HNext
        go_wp2
        go_round
        case rel => exact HN3.out
        case measure => first | (simp [intOf]; done) | (simp [intOf]; omega)
      · have hqb := beqI hq0
        have HN2 := HNext.out ((i : Int) + 1) (by omega) (by omega) (FpI.some hin (by rw [← hq]; exact hq0))
        have HN3 : Hid _ := HN2
        have hwi : IntKind.i64.wrap ((i : Int) + 1) = (i : Int) + 1 := by rw [IntKind.wrap_i64]; omega
        clear hq HN2 HNext
        go_wp2
        go_round
        case rel => exact HN3.out
        case measure => first | (simp [intOf]; done) | (simp [intOf]; omega)
    · have HEq : Hid (firstP u = m) := (HF.out.done HM.out HN.out).symm
      go_wp2
      go_ret
      exact ⟨by rw [HRes.out]; rfl, HB2.out⟩
/-- What the document's has tells. -/
theorem refHas_ok {op : ByteArray} {u : Ver} (hop : vb op = [42] ∨ (vb op ∈ signsR ∧ May u)) (hs : u.tag.size ≤ 140737488355328) (x : Ver) (w : World) : Calls Tryz.prog 132 #[.agg (tmC op u), verV x] w fun e w' => e = .returned (.bool (hasO (vb op) u x)) ∧ Below w.heap.size w w' := by
  rcases hop with h | ⟨h, hm⟩
  · obtain rfl : op = ⟨#[42]⟩ := vb_inj h
    exact has_st u x w
  · unfold signsR at h
    simp only [List.mem_cons, List.not_mem_nil, or_false] at h
    rcases h with h | h | h | h | h | h | h
    · obtain rfl : op = ⟨#[62, 61]⟩ := vb_inj h
      exact has_ge u x w
    · obtain rfl : op = ⟨#[60, 61]⟩ := vb_inj h
      exact has_le u x w
    · obtain rfl : op = ⟨#[62]⟩ := vb_inj h
      exact has_gt u x w
    · obtain rfl : op = ⟨#[60]⟩ := vb_inj h
      exact has_lt u x w
    · obtain rfl : op = ⟨#[61]⟩ := vb_inj h
      exact has_eq u x w
    · obtain rfl : op = ⟨#[94]⟩ := vb_inj h
      by_cases hc : 0 ≤ cmpV x u
      · exact has_cap u x w hm hs hc
      · exact has_can u x w hm hs hc
    · obtain rfl : op = ⟨#[126]⟩ := vb_inj h
      by_cases hc : 0 ≤ cmpV x u
      · exact has_tip u x w hm hs hc
      · exact has_tin u x w hm hs hc
end Go.Proofs.YtkbhckjpmgkgjaaGreatDoor
namespace Go.Proofs.YtkbhckjpmgkgjaaGreatDoor
open Go.RowKit

theorem mapO_step {α β : Type} {f : α → Option β} {L : List α} {k : Nat} {D : List β} (h : mapO f L = (mapO f (L.drop k)).map (D ++ ·)) (hk : k < L.length) {a : β} (ha : f L[k] = some a) : mapO f L = (mapO f (L.drop (k + 1))).map ((D ++ [a]) ++ ·) := by
  rw [h, List.drop_eq_getElem_cons hk, mapO_cons ha]
  cases mapO f (L.drop (k + 1)) <;> simp
theorem mapO_stop {α β : Type} {f : α → Option β} {L : List α} {k : Nat} {D : List β} (h : mapO f L = (mapO f (L.drop k)).map (D ++ ·)) (hk : k < L.length) (ha : f L[k] = none) : mapO f L = none := by
  rw [h, List.drop_eq_getElem_cons hk, mapO_none ha]
  rfl
theorem mapO_end {α β : Type} {f : α → Option β} {L : List α} {k : Nat} {D : List β} (h : mapO f L = (mapO f (L.drop k)).map (D ++ ·)) (hk : L.length ≤ k) : mapO f L = some D := by
  rw [h, List.drop_of_length_le hk]
  simp [mapO]
theorem mapO_begin {α β : Type} (f : α → Option β) (L : List α) : mapO f L = (mapO f (L.drop 0)).map (([] : List β) ++ ·) := by
  rw [List.drop_zero]
  cases mapO f L <;> simp
/-- A term as it lies in memory. -/
abbrev encM (t : Tm) : List Value := encT (tx t.1) t.2
def flatT (L : List Tm) : List Value := (L.map encM).flatten
theorem flatT_len (L : List Tm) : (flatT L).length = L.length * 7 := by
  induction L with
  | nil => rfl
  | cons v L ih =>
    have h7 : (encM v).length = 7 := rfl
    show (encM v ++ flatT L).length = (L.length + 1) * 7
    rw [List.length_append, ih, h7]
    omega
theorem flatT_snoc (L : List Tm) (t : Tm) : flatT (L ++ [t]) = flatT L ++ encM t := by
  unfold flatT
  rw [List.map_append, List.flatten_append]
  simp
theorem flatT_at : ∀ (L : List Tm) (i : Nat) (hi : i < L.length) (j : Nat), j < 7 → (flatT L)[i * 7 + j]? = (encM L[i])[j]? := by
  intro L
  induction L with
  | nil => exact fun i hi => absurd hi (by simp)
  | cons c r ih =>
    intro i hi j hj
    have h7 : (encM c).length = 7 := rfl
    show (encM c ++ flatT r)[i * 7 + j]? = _
    cases i with
    | zero => rw [Nat.zero_mul, Nat.zero_add, List.getElem?_append_left (by rw [h7]; exact hj)]; rfl
    | succ i =>
      rw [List.getElem?_append_right (by rw [h7]; omega), h7, show (i + 1) * 7 + j - 7 = i * 7 + j by omega]
      exact ih i (by simpa using hi) j hj
/-- An alternative in memory: terms one behind another. -/
structure AlAt (w : World) (v : Value) (a : List Tm) : Prop where
  ex : ∃ g cap, v = .slice (some ⟨g, 0, none⟩) a.length cap ∧ g < w.heap.size ∧ (∃ C, w.heap[g]? = some (.cells C 159 (0, 0))) ∧ ∀ i (h : i < a.length), w.rangeAt g (i * 7) (encM a[i])
theorem AlAt.keep {w w' : World} {v : Value} {a : List Tm} {B : Nat} (h : AlAt w v a) (hB : w.heap.size ≤ B) (hb : Below B w w') : AlAt w' v a := by
  obtain ⟨g, cap, h1, h2, ⟨C, h3⟩, h4⟩ := h.ex
  exact ⟨g, cap, h1, Nat.lt_of_lt_of_le h2 hb.size, ⟨C, (hb.block g (by omega)).trans h3⟩, fun i hi j u hj => (hb.cell (p := ⟨g, i * 7 + j, none⟩) (by show g < B; omega)).trans (h4 i hi j u hj)⟩
theorem AlAt.grown {w w' : World} {v : Value} {a : List Tm} {row : Option Nat} (h : AlAt w v a) (hg : w.grownBy w' row) (hr : ∀ k, row = some k → ∃ C, w.heap[k]? = some (.cells C 157 (0, 0))) : AlAt w' v a := by
  obtain ⟨g, cap, h1, h2, ⟨C, h3⟩, h4⟩ := h.ex
  have hne : some g ≠ row := fun e => by
    obtain ⟨D, hD⟩ := hr g e.symm
    rw [h3] at hD
    simp at hD
  refine ⟨g, cap, h1, Nat.lt_of_lt_of_le h2 hg.size, ⟨C, (hg.block g h2 hne).trans h3⟩, fun i hi j u hj => hg.cell (a := ⟨g, i * 7 + j, none⟩) (h4 i hi j u hj) hne⟩
theorem al_own {w : World} {B : Nat} {v : Value} {a : List Tm} (h : w.ownsRow B 159 7 v a.length (flatT a)) (h0 : 0 < a.length) : AlAt w v a := by
  have h' := h
  have hrow := ownsRow_row h
  obtain ⟨hl, ⟨rfl, h0'⟩ | ⟨g, cap, cur, rfl, _, hr, _⟩⟩ := h
  · omega
  · refine ⟨g, cap, rfl, (Array.getElem?_eq_some_iff.1 hr).1, hrow g rfl, fun i hi j u hj => ?_⟩
    have hj7 : j < 7 := (List.getElem?_eq_some_iff.1 hj).1
    rw [h'.cellAt (i * 7 + j) (by omega), flatT_at a i hi j hj7]
    exact hj
/-- A range in memory. -/
structure RgAt (w : World) (v : Value) (P : List (List Tm)) : Prop where
  ex : ∃ g cap, v = .slice (some ⟨g, 0, none⟩) P.length cap ∧ g < w.heap.size ∧ ∀ i (h : i < P.length), ∃ av, w.cell? ⟨g, i, none⟩ = some av ∧ AlAt w av P[i]
theorem RgAt.keep {w w' : World} {v : Value} {P : List (List Tm)} {B : Nat} (h : RgAt w v P) (hB : w.heap.size ≤ B) (hb : Below B w w') : RgAt w' v P := by
  obtain ⟨g, cap, h1, h2, h3⟩ := h.ex
  refine ⟨g, cap, h1, Nat.lt_of_lt_of_le h2 hb.size, fun i hi => ?_⟩
  obtain ⟨av, k1, k2⟩ := h3 i hi
  exact ⟨av, (hb.cell (p := ⟨g, i, none⟩) (by show g < B; omega)).trans k1, k2.keep hB hb⟩
/-- What holds while the alternatives are gone through. -/
structure PoR (w wr : World) (B : Nat) (Q : List ByteArray) (k : Nat) (ov : Value) (P : List (List Tm)) : Prop where
  ow : ∃ vs : List Value, vs.length = P.length ∧ wr.ownsRow B 157 1 ov P.length vs ∧ ∀ i (h : i < P.length) (h' : i < vs.length), AlAt wr vs[i] P[i]
  eq : mapO altR (Q.map vb) = (mapO altR ((Q.map vb).drop k)).map (P ++ ·)
  len : P.length = k
  bs : B ≤ wr.heap.size
  old : Below w.heap.size w wr
theorem PoR.next {w wr w' : World} {B : Nat} {Q : List ByteArray} {k : Nat} {ov : Value} {P : List (List Tm)} (h : PoR w wr B Q k ov P) (hb : Below wr.heap.size wr w') : PoR w w' B Q k ov P := by
  obtain ⟨vs, h1, h2, h3⟩ := h.ow
  exact ⟨⟨vs, h1, own_below h2 hb, fun i hi hi' => (h3 i hi hi').keep (Nat.le_refl _) hb⟩, h.eq, h.len, Nat.le_trans h.bs hb.size, h.old.trans (hb.mono h.old.size)⟩
theorem one_tm (op : ByteArray) (v : Ver) (w : World) : (Instr.buildSlice 157 1 #[(0, .agg (tmC op v))]).run Tryz.prog w = .ok (.slice (some ⟨w.heap.size, 0, none⟩) 1 1) (w.alloc (.cells (tmC op v) 159)) := by
  obtain ⟨i0, hi, hz0, hz1, _⟩ := info_parts infoTz
  refine run_buildSlice w 157 159 1 _ _ i0 _ Tryz.underlying157 hi hz0 (by rw [hz1]; decide) (by rw [hz1]; decide) ?_
  rw [hz1]
  kernel_rfl
theorem infoA : (Tryz.prog.info? 157).map (fun i => (i.zero, i.size, i.bytes)) = some (some (.slice none 0 0), 1, 24) := by kernel_rfl
/-- A term is appended. -/
theorem wpList_ap_tm {w w1 : World} {ops : Array Oper} {rest : List Oper} {o : Oper} {a : Act} {Q : Exit → Act → World → Prop} (hgd : o.guard = none) (dd : Option Tmp) (hdd : o.dst = dd) (s x : Operand) (ho : o.op = .call { callee := .builtin .append, args := #[s, x], argTypes := #[157, 157] }) (B : Nat) (v : Value) (L : List Tm) (hs : a.eval s = v) (op : ByteArray) (u : Ver) (hw : w1 = w.alloc (.cells (tmC op u) 159)) (g : Nat) (hg : g = w.heap.size) (hown : w1.ownsRow B 159 7 v L.length (flatT L)) (hx : a.eval x = .slice (some ⟨g, 0, none⟩) 1 1) (hB : B ≤ w.heap.size) (hby : (L.length + 1) * 72 ≤ 140737488355328)
    (h : ∀ v' w', w'.ownsRow B 159 7 v' (L ++ [(vb op, u)]).length (flatT (L ++ [(vb op, u)])) → w1.grownBy w' v.ownBlock → wpList Tryz.prog ops Q rest (a.put dd v') w') : wpList Tryz.prog ops Q (o :: rest) a w1 := by
  subst hw hg
  refine wpList_plain hgd fun K hK => wp_append_any dd hdd s x 157 159 (.agg (tmC ⟨#[]⟩ zeroVer)) 7 72 Tryz.underlying157 infoTz rfl (by decide) ho B v L.length (flatT L) hs hown (some ⟨w.heap.size, 0, none⟩) w.heap.size 0 1 1 (encM (vb op, u)) rfl hx (fun _ => rfl) (fun j y hj => ?_) (fun y hy => ?_) (fun h => nomatch h) (by unfold maxLen; omega) hby (by simp; omega) (fun v' w' h1 h2 _ => hK _ _ (h v' w' (by rw [List.length_append, flatT_snoc]; exact h1) h2))
  · rw [Nat.zero_add, (Row.new w (tmC op u) 159).cell j, ← hj]
    show ((encT op u).toArray)[j]? = (encT (tx (vb op)) u)[j]?
    rw [tx_vb, List.getElem?_toArray]
  · have hk : (tmC (tx (vb op)) u).all (·.oneCell') = true := tm_one _ _
    exact Array.all_eq_true'.1 hk y (by simpa using hy)
/-- An alternative is appended. -/
theorem wpList_ap_al {w w1 : World} {ops : Array Oper} {rest : List Oper} {o : Oper} {a : Act} {Q : Exit → Act → World → Prop} (hgd : o.guard = none) (dd : Option Tmp) (hdd : o.dst = dd) (s x : Operand) (ho : o.op = .call { callee := .builtin .append, args := #[s, x], argTypes := #[107, 107] }) (B : Nat) (v : Value) (n : Nat) (xs : List Value) (hs : a.eval s = v) (y : Value) (hy1 : y.oneCell' = true) (hw : w1 = w.alloc (.cells #[y] 157)) (g : Nat) (hg : g = w.heap.size) (hown : w1.ownsRow B 157 1 v n xs) (hx : a.eval x = .slice (some ⟨g, 0, none⟩) 1 1) (hB : B ≤ w.heap.size) (hby : (n + 1) * 24 ≤ 140737488355328)
    (h : ∀ v' w', w'.ownsRow B 157 1 v' (n + 1) (xs ++ [y]) → w1.grownBy w' v.ownBlock → wpList Tryz.prog ops Q rest (a.put dd v') w') : wpList Tryz.prog ops Q (o :: rest) a w1 := by
  subst hw hg
  refine wpList_plain hgd fun K hK => wp_append_any dd hdd s x 107 157 (.slice none 0 0) 1 24 Tryz.underlying107 infoA rfl (by decide) ho B v n xs hs hown (some ⟨w.heap.size, 0, none⟩) w.heap.size 0 1 1 [y] rfl hx (fun _ => rfl) (fun j u hj => ?_) (fun u hu => ?_) (fun h => nomatch h) (by unfold maxLen; omega) hby (by simp; omega) (fun v' w' h1 h2 _ => hK _ _ (h v' w' h1 h2))
  · cases j with
    | zero => simp at hj; subst hj; exact (Row.cell (Row.new w #[y] 157) 0).trans rfl
    | succ j => simp at hj
  · simp at hu; subst hu; exact hy1
/-- What Parse tells. -/
def PrPost (r : Option (List (List Tm))) (w : World) (e : Ending) (w' : World) : Prop := (r = none ∧ e = .returned (.tuple #[.slice none 0 0, .int .i64 21]) ∧ Below w.heap.size w w') ∨ ∃ P v, r = some P ∧ e = .returned (.tuple #[v, .int .i64 0]) ∧ RgAt w' v P ∧ Below w.heap.size w w'
theorem grown_below {w w5 : World} {v : Value} {B : Nat} (hg : w.grownBy w5 v.ownBlock) (hB : B ≤ w.heap.size) (hr : ∀ k, v.ownBlock = some k → B ≤ k) : Below B w w5 := below_own' hg hB hr
theorem alt_len {Q : List ByteArray} {x : ByteArray} (h : Q.map vb = cutAll 44 (vb x)) : 1 ≤ Q.length := by
  have := cutAll_pos 44 (vb x)
  rw [← h, List.length_map] at this
  exact this
set_option maxRecDepth 40000 in
set_option maxHeartbeats 16000000 in
theorem refRange_ok (s : ByteArray) (w : World) (hs : s.size ≤ 4194304) : Calls Tryz.prog 51 #[.string s] w (PrPost (parseR (vb s)) w) := by
  have hc1 := refCut_ok 124 s w hs
  obtain ⟨R, hR⟩ : ∃ R, R = parseR (vb s) := ⟨_, rfl⟩
  rw [← hR]
  have HRR : Hid (R = if 16 < (cutAll 124 (vb s)).length then none else mapO altR (cutAll 124 (vb s))) := hR
  have HSZ : Hid (s.size ≤ 4194304) := hs
  clear hR hs
  go_enter Tryz.func51, Tryz.ntmps51
  go_wp2_with fail
  refine hc1.mono ?_
  rintro e w1 ⟨gq, Q, cq, rfl, hQ, hcell, hgq0, hgq, hb1, hcq, hQl, hQs⟩
  have HQ : Hid (Q.map vb = cutAll 124 (vb s)) := hQ
  have HB1 : Hid (Below w.heap.size w w1) := hb1
  have HC1 : Hid (∀ wx, Below w1.heap.size w1 wx → ∀ i (h : i < Q.length), wx.cell? ⟨gq, i, none⟩ = some (.string Q[i])) := fun wx hx i h => (hx.cell (p := ⟨gq, i, none⟩) hgq).trans (hcell i h)
  have HQS : Hid (∀ i (h : i < Q.length), Q[i].size ≤ 4194304) := fun i h => Nat.le_trans (hQs i h) HSZ.out
  obtain ⟨n, hn⟩ : ∃ n, n = Q.length := ⟨_, rfl⟩
  have HN : Hid (n = Q.length) := hn
  have hnn : Q.length = n := hn.symm
  have hn1 : n ≤ 4194305 := by have := HSZ.out; omega
  have HL : Hid ((cutAll 124 (vb s)).length = n) := by show _ = _; rw [← hQ, List.length_map, hnn]
  rw [hnn]
  rw [hnn] at hcq
  clear hc1 hQ hcell hgq0 hgq hb1 hQl hQs hn hnn
  by_cases h16 : 16 < n
  · have HNo : Hid (R = none) := by show _ = _; rw [HRR.out, HL.out, if_pos h16]
    have h16' : (16 : Int) < (n : Int) := by omega
    go_wp2
    go_ret2
    exact Or.inl ⟨HNo.out, rfl, HB1.out⟩
  · have h16' : ¬ (16 : Int) < (n : Int) := by omega
    have HR2 : Hid (R = mapO altR (Q.map vb)) := by show _ = _; rw [HRR.out, HL.out, if_neg h16, HQ.out]
    have H0 : Hid (PoR w w1 w1.heap.size Q 0 (.slice none 0 0) []) := ⟨⟨[], rfl, World.ownsRow_nil _ _ _ _, fun i h => absurd h (by simp)⟩, mapO_begin altR _, rfl, Nat.le_refl _, HB1.out⟩
    go_wp2
    go_loopw [4, 6] (fun ov iv wr => ∃ (k : Nat) (P : List (List Tm)), k ≤ n ∧ iv = .int .i64 k ∧ PoR w wr w1.heap.size Q k ov P ∧ Below w1.heap.size w1 wr) (fun _ iv _ => n - (intOf iv).toNat)
    case atStart => exact ⟨0, [], Nat.zero_le _, rfl, H0.out, Below.refl _ _⟩
    case round =>
      obtain ⟨k, P, hk, rfl, hPo, hB1r⟩ := hrel
      have HPo : Hid (PoR w wr w1.heap.size Q k u4 P) := hPo
      have HB1r : Hid (Below w1.heap.size w1 wr) := hB1r
      clear hPo hB1r H0
      by_cases hkn : k < n
      · have hkn' : (k : Int) < (n : Int) := by omega
        have hkQ : k < Q.length := by have := HN.out; omega
        have hcell := HC1.out wr HB1r.out k hkQ
        obtain ⟨x, hx⟩ : ∃ x, x = Q[k] := ⟨_, rfl⟩
        rw [← hx] at hcell
        have hxs : x.size ≤ 4194304 := by rw [hx]; exact HQS.out k hkQ
        have HX : Hid ((Q.map vb)[k]? = some (vb x)) := by show _ = _; rw [List.getElem?_map, List.getElem?_eq_getElem hkQ, hx]; rfl
        have HXL : Hid (k < (Q.map vb).length ∧ ∀ h : k < (Q.map vb).length, (Q.map vb)[k] = vb x) := ⟨by rw [List.length_map]; exact hkQ, fun h => by rw [List.getElem_map, hx]⟩
        have hc2 := refCut_ok 44 x wr hxs
        clear hx
        go_wp2_with fail
        refine hc2.mono ?_
        rintro e w2 ⟨gm, M, cm, rfl, hM, hcm2, hgm0, hgm, hb2, hcm, hMl, hMs⟩
        have HM : Hid (M.map vb = cutAll 44 (vb x)) := hM
        have HB12 : Hid (Below w1.heap.size w1 w2) := HB1r.out.trans (hb2.mono HB1r.out.size)
        have HPo2 : Hid (PoR w w2 w1.heap.size Q k u4 P) := PoR.next HPo.out hb2
        have HC2 : Hid (∀ wx, Below w2.heap.size w2 wx → ∀ i (h : i < M.length), wx.cell? ⟨gm, i, none⟩ = some (.string M[i])) := fun wx hx i h => (hx.cell (p := ⟨gm, i, none⟩) hgm).trans (hcm2 i h)
        have HMS : Hid (∀ i (h : i < M.length), M[i].size ≤ 4194304) := fun i h => Nat.le_trans (hMs i h) hxs
        have HM1 : Hid (1 ≤ M.length) := alt_len hM
        obtain ⟨m, hm⟩ : ∃ m, m = M.length := ⟨_, rfl⟩
        have HMN : Hid (m = M.length) := hm
        have hmm : M.length = m := hm.symm
        have HML : Hid ((cutAll 44 (vb x)).length = m) := by show _ = _; rw [← hM, List.length_map, hmm]
        rw [hmm]
        rw [hmm] at hcm
        clear hc2 hM hcm2 hgm0 hgm hb2 hMl hMs hm hmm hcell
        by_cases g16 : 16 < m
        · have HNo : Hid (R = none) := by
            show _ = _
            rw [HR2.out]
            refine mapO_stop (PoR.eq HPo.out) HXL.out.1 ?_
            rw [HXL.out.2 _]
            unfold altR
            rw [HML.out, if_pos g16]
          have g16' : (16 : Int) < (m : Int) := by omega
          have HBe : Hid (Below w.heap.size w w2) := PoR.old HPo2.out
          go_wp2
          go_ret2
          exact Or.inl ⟨HNo.out, rfl, HBe.out⟩
        · have g16' : ¬ (16 : Int) < (m : Int) := by omega
          have HAl : Hid (altR (vb x) = mapO termR (M.map vb)) := by show _ = _; unfold altR; rw [HML.out, if_neg g16, HM.out]
          have HI0 : Hid (w2.ownsRow w2.heap.size 159 7 (.slice none 0 0) ([] : List Tm).length (flatT [])) := World.ownsRow_nil _ _ _ _
          go_wp2
          go_loopw [8, 9] (fun xv jv wi => ∃ (j : Nat) (ts : List Tm), j ≤ m ∧ jv = .int .i64 j ∧ ts.length = j ∧ wi.ownsRow w2.heap.size 159 7 xv ts.length (flatT ts) ∧ Below w2.heap.size w2 wi ∧ Hid (mapO termR (M.map vb) = (mapO termR ((M.map vb).drop j)).map (ts ++ ·))) (fun _ jv _ => m - (intOf jv).toNat)
          case atStart => exact ⟨0, [], Nat.zero_le _, rfl, rfl, HI0.out, Below.refl _ _, mapO_begin termR _⟩
          case round =>
            obtain ⟨j, ts, hj, rfl, htl, hown, hb2i, HEq⟩ := hrel
            have HOwn : Hid (wr.ownsRow w2.heap.size 159 7 u8 ts.length (flatT ts)) := hown
            have HB2i : Hid (Below w2.heap.size w2 wr) := hb2i
            have HTL : Hid (ts.length = j) := htl
            clear hown hb2i htl HI0 HPo HB1r
            by_cases hjm : j < m
            · have hjm' : (j : Int) < (m : Int) := by omega
              have hjM : j < M.length := by have := HMN.out; omega
              have hcell := HC2.out wr HB2i.out j hjM
              obtain ⟨y, hy⟩ : ∃ y, y = M[j] := ⟨_, rfl⟩
              rw [← hy] at hcell
              have hys : y.size ≤ 4194304 := by rw [hy]; exact HMS.out j hjM
              have HY : Hid (j < (M.map vb).length ∧ ∀ h : j < (M.map vb).length, (M.map vb)[j] = vb y) := ⟨by rw [List.length_map]; exact hjM, fun h => by rw [List.getElem_map, hy]⟩
              have htm := refTerm_ok y wr hys
              obtain ⟨tr, htr⟩ : ∃ r, r = termR (vb y) := ⟨_, rfl⟩
              rw [← htr] at htm
              have HTr : Hid (tr = termR (vb y)) := htr
              clear hy htr
              go_wp2_with fail
              refine htm.mono ?_
              rintro e w3 ⟨op, v, rfl, hv, hb3⟩
              have HV : Hid (∀ t, tr = some t → t = (vb op, v)) := hv
              have hr4 : Row (w3.alloc (.cells (tmC op v) 159)) w3.heap.size (tmC op v) 159 := Row.new _ _ _
              have hb4 : Below wr.heap.size wr (w3.alloc (.cells (tmC op v) 159)) := hb3.alloc hb3.size _
              obtain ⟨w4, hw4⟩ : ∃ z, z = w3.alloc (.cells (tmC op v) 159) := ⟨_, rfl⟩
              rw [← hw4] at hr4 hb4
              have hw4' := hw4.symm
              have HB4 : Hid (Below wr.heap.size wr w4) := hb4
              clear htm hv hb3 hw4 hb4 hcell
              cases htr : tr with
              | none =>
                have HNo : Hid (R = none) := by
                  show _ = _
                  rw [HR2.out]
                  refine mapO_stop (PoR.eq HPo2.out) HXL.out.1 ?_
                  rw [HXL.out.2 _, HAl.out]
                  refine mapO_stop HEq.out HY.out.1 ?_
                  rw [HY.out.2 _, ← HTr.out, htr]
                have HBe : Hid (Below w.heap.size w w4) := (PoR.old HPo2.out).trans ((HB2i.out.trans (HB4.out.mono HB2i.out.size)).mono (PoR.old HPo2.out).size)
                have hsome : tr.isSome = false := by rw [htr]; rfl
                clear htr
                simp only [Option.isSome_none]
                go_wp2_with (refine wpList_store_new rfl 159 _ _ rfl w3 (tmC ⟨#[]⟩ zeroVer) (tmC op v) 159 rfl w3.heap.size rfl rfl rfl infoT rfl (tm_one _ _) ?_; rw [hw4'])
                go_ret2
                exact Or.inl ⟨HNo.out, rfl, HBe.out⟩
              | some t =>
                have HT : Hid (t = (vb op, v)) := HV.out t htr
                have HTe : Hid (termR (vb y) = some (vb op, v)) := by show _ = _; rw [← HTr.out, htr, HT.out]
                have hone := one_tm op v w4
                have hown5 : (w4.alloc (.cells (tmC op v) 159)).ownsRow w2.heap.size 159 7 u8 ts.length (flatT ts) := own_below (own_below HOwn.out HB4.out) ((Below.refl _ _).alloc (Nat.le_refl _) _)
                have hlow : w2.heap.size ≤ w4.heap.size := Nat.le_trans HB2i.out.size HB4.out.size
                have htsl : (ts.length + 1) * 72 ≤ 140737488355328 := by have := HTL.out; omega
                clear htr
                simp only [Option.isSome_some]
                go_wp2_with (first | (refine wpList_store_new rfl 159 _ _ rfl w3 (tmC ⟨#[]⟩ zeroVer) (tmC op v) 159 rfl w3.heap.size rfl rfl rfl infoT rfl (tm_one _ _) ?_; rw [hw4']) | refine wpList_load_row rfl 159 _ rfl w3.heap.size rfl 159 (tmC op v) (0, 0) _ hr4 Tryz.underlying159 rfl infoT ?_ | (at_builtin; refine wpList_ap_tm rfl (some 50) rfl _ _ rfl w2.heap.size u8 ts rfl op v rfl w4.heap.size rfl hown5 rfl hlow htsl ?_; intro v6 w6 ho6 hg6))
                have hb6 : Below w2.heap.size (w4.alloc (.cells (tmC op v) 159)) w6 := below_own' hg6 (by simp; omega) fun k hk => (own_block hown5 k hk).1
                have HB6 : Hid (Below w2.heap.size w2 w6) := ((HB2i.out.trans (HB4.out.mono HB2i.out.size)).alloc hlow _).trans hb6
                have HO6 : Hid (w6.ownsRow w2.heap.size 159 7 v6 (ts ++ [(vb op, v)]).length (flatT (ts ++ [(vb op, v)]))) := ho6
                have HEq6 : Hid (mapO termR (M.map vb) = (mapO termR ((M.map vb).drop (j + 1))).map ((ts ++ [(vb op, v)]) ++ ·)) := mapO_step HEq.out HY.out.1 (by rw [HY.out.2 _, HTe.out])
                clear ho6 hg6 hb6 hown5 hone
                go_roundw
                case rel => exact ⟨j + 1, ts ++ [(vb op, v)], by omega, by go_num, by rw [List.length_append, HTL.out]; rfl, HO6.out, HB6.out, HEq6.out⟩
                case measure => simp [intOf]; omega
            · have hjm' : ¬ (j : Int) < (m : Int) := by omega
              have HA : Hid (altR (vb x) = some ts) := by
                show _ = _
                rw [HAl.out]
                exact mapO_end HEq.out (by rw [List.length_map]; have := HMN.out; omega)
              have hal : AlAt wr u8 ts := al_own HOwn.out (by have := HTL.out; have := HM1.out; have := HMN.out; omega)
              obtain ⟨ga, ca, rfl, hga, hgaC, hgac⟩ := hal.ex
              have HAL : Hid (AlAt wr (.slice (some ⟨ga, 0, none⟩) ts.length ca) ts) := hal
              have HPi : Hid (PoR w wr w1.heap.size Q k u4 P) := PoR.next HPo2.out HB2i.out
              have HB1i : Hid (Below w1.heap.size w1 wr) := HB12.out.trans (HB2i.out.mono HB12.out.size)
              obtain ⟨vs, hvs1, hvs2, hvs3⟩ := (PoR.ow HPi.out)
              have HV1 : Hid (vs.length = P.length) := hvs1
              have HV3 : Hid (∀ i (h : i < P.length) (h' : i < vs.length), AlAt wr vs[i] P[i]) := hvs3
              obtain ⟨tl, htl⟩ : ∃ tl, tl = ts.length := ⟨_, rfl⟩
              rw [← htl] at HAL
              rw [← htl]
              have hown5 : (wr.alloc (.cells #[.slice (some ⟨ga, 0, none⟩) tl ca] 157)).ownsRow w1.heap.size 157 1 u4 P.length vs := own_below hvs2 ((Below.refl _ _).alloc (Nat.le_refl _) _)
              have hlow : w1.heap.size ≤ wr.heap.size := PoR.bs HPi.out
              have hPl : (P.length + 1) * 24 ≤ 140737488355328 := by have := PoR.len HPi.out; omega
              have HO4 : Hid (wr.ownsRow w1.heap.size 157 1 u4 P.length vs) := hvs2
              clear hvs1 hvs2 hvs3 hal hga hgaC hgac htl
              go_wp2_with (at_builtin; refine wpList_ap_al rfl (some 54) rfl _ _ rfl w1.heap.size u4 P.length vs rfl (.slice (some ⟨ga, 0, none⟩) tl ca) rfl rfl wr.heap.size rfl hown5 rfl hlow hPl ?_; intro v6 w6 ho6 hg6)
              have hob := own_block hown5
              have hrw := ownsRow_row hown5
              have hba : Below wr.heap.size wr (wr.alloc (.cells #[.slice (some ⟨ga, 0, none⟩) tl ca] 157)) := (Below.refl _ _).alloc (Nat.le_refl _) _
              have hb6 : Below w1.heap.size wr w6 := (hba.mono hlow).trans (below_own' hg6 (by simp; omega) fun k hk => (hob k hk).1)
              have HPo6 : Hid (PoR w w6 w1.heap.size Q (k + 1) v6 (P ++ [ts])) := by
                refine ⟨⟨vs ++ [.slice (some ⟨ga, 0, none⟩) tl ca], by rw [List.length_append, List.length_append, HV1.out]; rfl, by rw [List.length_append]; exact ho6, fun i hi hi' => ?_⟩, mapO_step (PoR.eq HPi.out) HXL.out.1 (by rw [HXL.out.2 _, HA.out]), by rw [List.length_append, PoR.len HPi.out]; rfl, Nat.le_trans hlow hb6.size, (PoR.old HPi.out).trans (hb6.mono (Nat.le_trans HB1.out.size (Nat.le_refl _)))⟩
                by_cases hiP : i < P.length
                · rw [List.getElem_append_left hiP, List.getElem_append_left (by rw [HV1.out]; exact hiP)]
                  exact ((HV3.out i hiP (by rw [HV1.out]; exact hiP)).keep (Nat.le_refl _) hba).grown hg6 hrw
                · have hie : i = P.length := by rw [List.length_append] at hi; simp at hi; omega
                  subst hie
                  rw [List.getElem_append_right (Nat.le_refl _), List.getElem_append_right (by rw [HV1.out]; exact Nat.le_refl _)]
                  simp only [HV1.out, Nat.sub_self, List.getElem_cons_zero]
                  exact (HAL.out.keep (Nat.le_refl _) hba).grown hg6 hrw
              have HB1n : Hid (Below w1.heap.size w1 w6) := HB1i.out.trans hb6
              clear ho6 hg6 hb6 hown5 hob hrw hba
              go_roundw
              case rel => exact ⟨k + 1, P ++ [ts], by omega, by go_num, HPo6.out, HB1n.out⟩
              case measure => simp [intOf]; omega
      · have hkn' : ¬ (k : Int) < (n : Int) := by omega
        have HYes : Hid (R = some P) := by
          show _ = _
          rw [HR2.out]
          exact mapO_end (PoR.eq HPo.out) (by rw [List.length_map]; have := HN.out; omega)
        have HRg : Hid (RgAt wr u4 P) := by
          obtain ⟨vs, h1, h2, h3⟩ := (PoR.ow HPo.out)
          have hp := cutAll_pos 124 (vb s)
          have hPl := PoR.len HPo.out
          have h2' := h2
          obtain ⟨_, ⟨_, h0⟩ | ⟨g, cap, cur, rfl, k2, k3, _⟩⟩ := h2
          · have := HL.out; omega
          · refine ⟨g, cap, rfl, (Array.getElem?_eq_some_iff.1 k3).1, fun i hi => ⟨vs[i]'(by omega), ?_, h3 i hi (by omega)⟩⟩
            rw [h2'.cellAt i (by omega)]
            exact List.getElem?_eq_getElem (by omega)
        have HBe : Hid (Below w.heap.size w wr) := PoR.old HPo.out
        go_wp2
        go_ret2
        exact Or.inr ⟨P, u4, HYes.out, rfl, HRg.out, HBe.out⟩
end Go.Proofs.YtkbhckjpmgkgjaaGreatDoor
namespace Go.Proofs.YtkbhckjpmgkgjaaGreatDoor
open Go.RowKit

theorem refRange_code (s : ByteArray) (w : World) (hs : s.size ≤ 4194304) : Calls Tryz.prog 51 #[.string s] w fun e w' => ∃ v : Value, e = .returned (.tuple #[v, .int .i64 (if (rangeS (vb s)).isNone = true then 21 else 0)]) ∧ Below w.heap.size w w' := by
  refine (refRange_ok s w hs).mono ?_
  rintro e w' (⟨h1, rfl, h3⟩ | ⟨P, v, h1, rfl, _, h3⟩)
  · rcases range_pair (vb s) with ⟨_, g2⟩ | ⟨p, L, g1, _⟩
    · exact ⟨_, by rw [g2]; rfl, h3⟩
    · rw [h1] at g1; cases g1
  · rcases range_pair (vb s) with ⟨g1, _⟩ | ⟨p, L, _, g2, _⟩
    · rw [h1] at g1; cases g1
    · exact ⟨v, by rw [g2]; rfl, h3⟩
/-- Texts that the document's own parsers take. -/
def FitR (L : List Pak) : Prop := ∀ p ∈ L, p.nm.size ≤ 140737488355328 ∧ p.vr.size ≤ 140737488355328 ∧ ∀ n ∈ p.nd, n.nm.size ≤ 140737488355328 ∧ n.rg.size ≤ 4194304
def PkPost (R : Int) (w : World) (e : Ending) (w' : World) : Prop := ∃ z : Int, e = .returned (.tuple #[.int .i64 R, .int .i64 z]) ∧ Below w.heap.size w w'
theorem parseE_code (s : ByteArray) : ∃ (v : Ver) (z : Int), parseE s = .tuple #[verV v, .int .i64 z] ∧ z = if (parseV (vb s)).isNone = true then 20 else 0 := by
  cases h : parseV (vb s) with
  | none => exact ⟨zeroV, 20, parseE_no h, rfl⟩
  | some v => exact ⟨v, 0, parseE_yes h, rfl⟩
theorem packE_17 {E : List Rl} {p : Pak} (h : false = nameI (vb p.nm)) : packE E p = 17 := by
  have e : rightP p.nm p.vr E = 17 := by unfold rightP; rw [if_pos h.symm]
  unfold packE
  rw [e]
  rfl
theorem packE_20 {E : List Rl} {p : Pak} (h : true = nameI (vb p.nm)) (h1 : (parseV (vb p.vr)).isNone = true) : packE E p = 20 := by
  have e : rightP p.nm p.vr E = 20 := by unfold rightP; rw [← h, if_neg (by decide), if_pos h1]
  unfold packE
  rw [e]
  rfl
theorem packE_13 {E : List Rl} {p : Pak} (h : true = nameI (vb p.nm)) (h1 : ¬ (parseV (vb p.vr)).isNone = true) (h2 : (p.nm, p.vr) ∈ E) : packE E p = 13 := by
  have e : rightP p.nm p.vr E = 13 := by unfold rightP; rw [← h, if_neg (by decide), if_neg h1, if_pos h2]
  unfold packE
  rw [e]
  rfl
theorem packE_go {E : List Rl} {p : Pak} (h : true = nameI (vb p.nm)) (h1 : ¬ (parseV (vb p.vr)).isNone = true) (h2 : (p.nm, p.vr) ∉ E) : packE E p = needsE [] p.nd := by
  have e : rightP p.nm p.vr E = 0 := by unfold rightP; rw [← h, if_neg (by decide), if_neg h1, if_neg h2]
  unfold packE
  rw [e]
  rfl
theorem needsE_17 {A l r : List Ned} {n : Ned} (hd : l = n :: r) (h : false = nameI (vb n.nm)) : needsE A l = 17 := by
  have e : rightN n A = 17 := by unfold rightN; rw [if_pos h.symm]
  rw [hd, needsE, e]
  rfl
theorem needsE_21 {A l r : List Ned} {n : Ned} (hd : l = n :: r) (h : true = nameI (vb n.nm)) (h1 : (rangeS (vb n.rg)).isNone = true) : needsE A l = 21 := by
  have e : rightN n A = 21 := by unfold rightN; rw [← h, if_neg (by decide), if_pos h1]
  rw [hd, needsE, e]
  rfl
theorem needsE_13 {A l r : List Ned} {n : Ned} (hd : l = n :: r) (h : true = nameI (vb n.nm)) (h1 : ¬ (rangeS (vb n.rg)).isNone = true) (h2 : n.nm ∈ A.map Ned.nm) : needsE A l = 13 := by
  have e : rightN n A = 13 := by unfold rightN; rw [← h, if_neg (by decide), if_neg h1, if_pos h2]
  rw [hd, needsE, e]
  rfl
theorem needsE_go {A l r : List Ned} {n : Ned} (hd : l = n :: r) (h : true = nameI (vb n.nm)) (h1 : ¬ (rangeS (vb n.rg)).isNone = true) (h2 : n.nm ∉ A.map Ned.nm) : needsE A l = needsE (A ++ [n]) r := by
  have e : rightN n A = 0 := by unfold rightN; rw [← h, if_neg (by decide), if_neg h1, if_neg h2]
  rw [hd, needsE, e]
  rfl
set_option maxRecDepth 40000 in
set_option maxHeartbeats 16000000 in
theorem refPack_ok {L : List Pak} {pa : Option Addr} {pc : Nat} (k : Nat) (w : World) (hL : PacksIn w (.slice pa L.length pc) L) (hF : FitR L) (hl : L.length ≤ 140737488355328) (hnd : ∀ p ∈ L, p.nd.length ≤ 140737488355328) (hk : k < L.length) : Calls Tryz.prog 28 #[.slice pa L.length pc, .int .i64 k] w (PkPost (packE ((L.take k).map Pak.key) L[k]) w) := by
  obtain ⟨a1, g, off, c1, he, h2, h3, h4, h5⟩ := hL.ex
  simp only [Value.slice.injEq, true_and] at he
  obtain ⟨rfl, rfl⟩ := he
  obtain ⟨rfl, hg⟩ := h3 (by omega)
  have HA5 : Hid (∀ i (h : i < L.length), ∃ na nc, (∀ wx, Below w.heap.size w wx → wx.rangeAt g (off + i * 3) (encP L[i] (.slice na L[i].nd.length nc))) ∧ ∀ wx, Below w.heap.size w wx → NeedsIn wx (.slice na L[i].nd.length nc) L[i].nd) := fun i hi => by
    obtain ⟨nv, k1, k2⟩ := h5 i hi
    have k2' := k2
    obtain ⟨na, _, _, nc, rfl, _⟩ := k2.ex
    exact ⟨na, nc, fun wx hx j u hj => (hx.cell (p := ⟨g, off + i * 3 + j, none⟩) hg).trans (k1 j u hj), fun wx hx => k2'.keep (Nat.le_refl _) hx⟩
  obtain ⟨na, nc, hrg0, hno0⟩ := HA5.out k hk
  obtain ⟨p, hp⟩ : ∃ p, p = L[k] := ⟨_, rfl⟩
  rw [← hp] at hrg0 hno0
  rw [← hp]
  obtain ⟨hf1, hf2, hf3⟩ := hF p (by rw [hp]; exact List.getElem_mem _)
  have HF3 : Hid (∀ n ∈ p.nd, n.nm.size ≤ 140737488355328 ∧ n.rg.size ≤ 4194304) := hf3
  obtain ⟨E, hE⟩ : ∃ E, E = (L.take k).map Pak.key := ⟨_, rfl⟩
  have HE : Hid (E = (L.take k).map Pak.key) := hE
  rw [← hE]
  obtain ⟨R, hR⟩ : ∃ R, R = packE E p := ⟨_, rfl⟩
  have HR : Hid (R = packE E p) := hR
  rw [← hR]
  obtain ⟨n, hn⟩ : ∃ n, n = L.length := ⟨_, rfl⟩
  have HN : Hid (n = L.length) := hn
  rw [← hn]
  have hkn : k < n := by omega
  have hn9 : n ≤ 140737488355328 := by omega
  have hkn' : (k : Int) < (n : Int) := by omega
  obtain ⟨nl, hnl⟩ : ∃ nl, nl = p.nd.length := ⟨_, rfl⟩
  rw [← hnl] at hrg0 hno0
  have HNl : Hid (nl = p.nd.length) := hnl
  have hnl9 : nl ≤ 140737488355328 := by rw [hnl, hp]; exact hnd _ (List.getElem_mem _)
  have HNo : Hid (∀ wx, Below w.heap.size w wx → NeedsIn wx (.slice na nl nc) p.nd) := hno0
  have hrg := hrg0 w (Below.refl _ _)
  have hb3 : Below w.heap.size w (w.alloc (.cells #[.string p.nm, .string p.vr, .slice na nl nc] 44)) := (Below.refl _ _).alloc (Nat.le_refl _) _
  have hr3 : Row (w.alloc (.cells #[.string p.nm, .string p.vr, .slice na nl nc] 44)) w.heap.size #[.string p.nm, .string p.vr, .slice na nl nc] 44 := Row.new _ _ _
  obtain ⟨w3, hw3⟩ : ∃ x, x = w.alloc (.cells #[.string p.nm, .string p.vr, .slice na nl nc] 44) := ⟨_, rfl⟩
  rw [← hw3] at hb3 hr3
  have hw3' := hw3.symm
  obtain ⟨k5, hk5⟩ : ∃ k, k = w.heap.size := ⟨_, rfl⟩
  have hk5' := hk5.symm
  rw [← hk5] at hr3
  have HB3 : Hid (Below w.heap.size w w3) := hb3
  have HR3 : Hid (Row w3 k5 #[.string p.nm, .string p.vr, .slice na nl nc] 44) := hr3
  have d0 : w3.cell? ⟨k5, 0, none⟩ = some (.string p.nm) := (hr3.cell 0).trans rfl
  have d1 : w3.cell? ⟨k5, 1, none⟩ = some (.string p.vr) := (hr3.cell 1).trans rfl
  have hnm := refName_ok p.nm hf1 w3
  obtain ⟨b, hb⟩ : ∃ b, b = nameI (vb p.nm) := ⟨_, rfl⟩
  rw [← hb] at hnm
  have HBn : Hid (b = nameI (vb p.nm)) := hb
  obtain ⟨v1, z1, hpe, hz1⟩ := parseE_code p.vr
  have HPs : Hid (∀ wx, Calls Tryz.prog 50 #[.string p.vr] wx fun e w' => e = .returned (.tuple #[verV v1, .int .i64 z1]) ∧ Below wx.heap.size wx w') := fun wx => by rw [← hpe]; exact refParse_ok p.vr wx hf2
  have HZ1 : Hid (z1 = if (parseV (vb p.vr)).isNone = true then 20 else 0) := hz1
  have hzc : z1 = 0 ∨ z1 = 20 := by rw [hz1]; split; exact Or.inr rfl; exact Or.inl rfl
  clear hnd hl hp hE hR hn hnl hw3 hk5 hb3 hb hpe hz1 hf1 hf2 hf3 hno0 hrg0 h3 h4 h5 hF hL hr3
  go_enter Tryz.func28, Tryz.ntmps28
  go_wp2_with (first | refine wpList_load_mid rfl 44 _ rfl g (off + k * 3) rfl _ _ hrg Tryz.underlying44 rfl infoPk ?_ | (refine wpList_store_new rfl 44 _ _ rfl w zeroPk #[.string p.nm, .string p.vr, .slice na nl nc] 44 rfl w.heap.size rfl rfl rfl infoPk rfl (pk_one _ _ _ _ _) ?_; rw [hw3']; rw [hk5']) | fail)
  refine hnm.mono ?_
  rintro e w4 ⟨rfl, hw4⟩
  rw [hw4]
  clear hw4 hnm hrg hw3'
  cases b with
  | false =>
    have HR17 : Hid (R = 17) := HR.out.trans (packE_17 HBn.out)
    go_wp2
    go_ret2
    exact ⟨_, by rw [HR17.out]; rfl, HB3.out⟩
  | true =>
    go_wp2_with fail
    refine (HPs.out w3).mono ?_
    rintro e w4 ⟨rfl, hb4⟩
    have HB4 : Hid (Below w3.heap.size w3 w4) := hb4
    have hb5 : Below w4.heap.size w4 (w4.alloc (.cells (verC v1) 104)) := (Below.refl _ _).alloc (Nat.le_refl _) _
    obtain ⟨w5, hw5⟩ : ∃ x, x = w4.alloc (.cells (verC v1) 104) := ⟨_, rfl⟩
    rw [← hw5] at hb5
    have hw5' := hw5.symm
    have HB5 : Hid (Below w.heap.size w w5) := HB3.out.trans ((HB4.out.trans (hb5.mono HB4.out.size)).mono HB3.out.size)
    have HR5 : Hid (Row w5 k5 #[.string p.nm, .string p.vr, .slice na nl nc] 44) := HR3.out.below (HB4.out.trans (hb5.mono HB4.out.size)) HR3.out.lt
    clear hb4 hb5 hw5 d0 d1
    go_upto_region 5 with (refine wpList_store_new rfl 104 _ _ rfl w4 zeroC (verC v1) 104 rfl w4.heap.size rfl rfl rfl infoRs rfl (verC_one v1) ?_; rw [hw5'])
    rcases hzc with hz | hz
    · subst hz
      have HV : Hid (¬ (parseV (vb p.vr)).isNone = true) := fun h => by
        have h2 := HZ1.out
        rw [if_pos h] at h2
        exact absurd h2 (by decide)
      have HKE : Hid (∀ i (h : i < k), ∃ q, q ∈ L ∧ (L.take (i + 1)).map Pak.key = (L.take i).map Pak.key ++ [q.key] ∧ ∀ wx, Below w.heap.size w wx → wx.cell? ⟨g, off + i * 3, none⟩ = some (.string q.nm) ∧ wx.cell? ⟨g, off + i * 3 + 1, none⟩ = some (.string q.vr)) := fun i hi => by
        have hiL : i < L.length := by have := HN.out; omega
        obtain ⟨na, nc, hr, _⟩ := HA5.out i hiL
        exact ⟨L[i], List.getElem_mem _, by rw [List.take_succ_eq_append_getElem hiL, List.map_append]; rfl, fun wx hx => ⟨hr wx hx 0 _ rfl, hr wx hx 1 _ rfl⟩⟩
      go_wp2
      go_loopw [9] (fun iv wi => ∃ i : Nat, i ≤ k ∧ iv = .int .i64 i ∧ Below w5.heap.size w5 wi ∧ Hid (p.key ∉ (L.take i).map Pak.key)) (fun iv _ => k - (intOf iv).toNat)
      case atStart => exact ⟨0, Nat.zero_le _, rfl, Below.refl _ _, by show _ ∉ _; simp⟩
      case round =>
        obtain ⟨i, hi, rfl, hb, HI⟩ := hrel
        have HB : Hid (Below w5.heap.size w5 wr) := hb
        clear hb
        by_cases hlt : i < k
        · have hlt' : (i : Int) < (k : Int) := by omega
          have hin' : (i : Int) < (n : Int) := by omega
          obtain ⟨q, hq1, hq2, hq3⟩ := HKE.out i hlt
          have HQ2 : Hid ((L.take (i + 1)).map Pak.key = (L.take i).map Pak.key ++ [q.key]) := hq2
          obtain ⟨cq0, cq1⟩ := hq3 wr (HB5.out.trans (HB.out.mono HB5.out.size))
          obtain ⟨qn, hqn⟩ : ∃ x, x = q.nm := ⟨_, rfl⟩
          obtain ⟨qv, hqv⟩ : ∃ x, x = q.vr := ⟨_, rfl⟩
          rw [← hqn] at cq0
          rw [← hqv] at cq1
          have HQK : Hid (q.key = (qn, qv)) := by show (q.nm, q.vr) = _; rw [hqn, hqv]
          have hrr : Row wr k5 #[.string p.nm, .string p.vr, .slice na nl nc] 44 := HR5.out.below HB.out HR5.out.lt
          have d0 : wr.cell? ⟨k5, 0, none⟩ = some (.string p.nm) := (hrr.cell 0).trans rfl
          have d1 : wr.cell? ⟨k5, 1, none⟩ = some (.string p.vr) := (hrr.cell 1).trans rfl
          have HBq : Hid (∀ q, Below w5.heap.size w5 (wr.drewN q)) := fun q => HB.out.trans ⟨rfl, rfl, rfl, Nat.le_refl _, fun _ _ => rfl⟩
          clear hq1 hq2 hq3 hqn hqv hrr
          by_cases e1 : qn = p.nm
          · rw [e1] at cq0
            by_cases e2 : qv = p.vr
            · rw [e2] at cq1
              have HR13 : Hid (R = 13) := by
                have hm : (p.nm, p.vr) ∈ E := by
                  rw [HE.out]
                  have h1 : (p.nm, p.vr) ∈ (L.take (i + 1)).map Pak.key := by rw [HQ2.out, HQK.out, e1, e2]; simp
                  obtain ⟨x, hx, he⟩ := List.mem_map.1 h1
                  exact List.mem_map.2 ⟨x, by
                    have h3 : L.take (i + 1) = (L.take k).take (i + 1) := by rw [List.take_take]; congr 1; omega
                    rw [h3] at hx
                    exact List.mem_of_mem_take hx, he⟩
                exact HR.out.trans (packE_13 HBn.out HV.out hm)
              clear e1 e2
              go_wp2
              go_quiet (fail)
              go_wp2
              go_ret2
              exact ⟨_, by rw [HR13.out]; rfl, HB5.out.trans ((HBq.out _).mono HB5.out.size)⟩
            · have hne1 : ¬ qv.toList = p.vr.toList := fun e => e2 (list_eq.1 e)
              have hne2 : (qv.toList == p.vr.toList) = false := by simpa using hne1
              have HI2 : Hid (p.key ∉ (L.take (i + 1)).map Pak.key) := fun h => by
                rw [HQ2.out, HQK.out] at h
                rcases List.mem_append.1 h with h | h
                · exact HI.out h
                · exact e2 (congrArg Prod.snd (List.mem_singleton.1 h)).symm
              clear e1
              go_wp2
              go_quiet (fail)
              go_wp2
              go_roundw
              case rel => exact ⟨i + 1, by omega, by go_num, HBq.out _, HI2.out⟩
              case measure => simp [intOf]; omega
          · have hne1 : ¬ qn.toList = p.nm.toList := fun e => e1 (list_eq.1 e)
            have hne2 : (qn.toList == p.nm.toList) = false := by simpa using hne1
            have HI2 : Hid (p.key ∉ (L.take (i + 1)).map Pak.key) := fun h => by
              rw [HQ2.out, HQK.out] at h
              rcases List.mem_append.1 h with h | h
              · exact HI.out h
              · exact e1 (congrArg Prod.fst (List.mem_singleton.1 h)).symm
            go_wp2
            go_quiet (fail)
            go_wp2
            go_roundw
            case rel => exact ⟨i + 1, by omega, by go_num, HBq.out _, HI2.out⟩
            case measure => simp [intOf]; omega
        · have hlt' : ¬ (i : Int) < (k : Int) := by omega
          obtain rfl : i = k := by omega
          have HRn : Hid (R = needsE [] p.nd) := HR.out.trans (packE_go HBn.out HV.out (by rw [HE.out]; exact HI.out))
          have HNC : Hid (0 < nl → ∃ ng noff, na = some ⟨ng, noff, none⟩ ∧ ∀ wx, Below w.heap.size w wx → ∀ i (h : i < p.nd.length), wx.cell? ⟨ng, noff + i * 2, none⟩ = some (.string p.nd[i].nm) ∧ wx.cell? ⟨ng, noff + i * 2 + 1, none⟩ = some (.string p.nd[i].rg)) := fun h0 => by
            obtain ⟨a', ng, noff, c', he, _, h3, _, h5⟩ := (HNo.out w (Below.refl _ _)).ex
            simp only [Value.slice.injEq] at he
            obtain ⟨rfl, -, rfl⟩ := he
            obtain ⟨hna, hlt⟩ := h3 (by have := HNl.out; omega)
            exact ⟨ng, noff, hna, fun wx hx i hi => ⟨(hx.cell (p := ⟨ng, noff + i * 2 + 0, none⟩) hlt).trans (h5 i hi 0 _ rfl), (hx.cell (p := ⟨ng, noff + i * 2 + 1, none⟩) hlt).trans (h5 i hi 1 _ rfl)⟩⟩
          obtain ⟨wE, rfl⟩ : ∃ x, x = wr := ⟨wr, rfl⟩
          have HBE : Hid (Below w.heap.size w wE) := HB5.out.trans (HB.out.mono HB5.out.size)
          have HRE : Hid (Row wE k5 #[.string p.nm, .string p.vr, .slice na nl nc] 44) := HR5.out.below HB.out HR5.out.lt
          clear HI HB HKE HV HBn HPs HA5 HR HB5 HR5
          go_wp2
          go_loopw [10] (fun jv wi => ∃ j : Nat, j ≤ nl ∧ jv = .int .i64 j ∧ Below wE.heap.size wE wi ∧ Hid (R = needsE (p.nd.take j) (p.nd.drop j))) (fun jv _ => nl - (intOf jv).toNat)
          case atStart => exact ⟨0, Nat.zero_le _, rfl, Below.refl _ _, by show _ = _; rw [List.drop_zero]; exact HRn.out⟩
          case round =>
            obtain ⟨j, hj, rfl, hb, HJ⟩ := hrel
            have HBw : Hid (Below w.heap.size w wr) := HBE.out.trans (hb.mono HBE.out.size)
            have HRr : Hid (Row wr k5 #[.string p.nm, .string p.vr, .slice na nl nc] 44) := HRE.out.below hb HRE.out.lt
            have d2 : wr.cell? ⟨k5, 2, none⟩ = some (.slice na nl nc) := (HRr.out.cell 2).trans rfl
            have HBj : Hid (Below wE.heap.size wE wr) := hb
            clear hb
            by_cases hjl : j < nl
            · have hjl' : (j : Int) < (nl : Int) := by omega
              have hjd : j < p.nd.length := by have := HNl.out; omega
              obtain ⟨ng, noff, hna, hcs⟩ := HNC.out (by omega)
              subst hna
              have HCs : Hid (∀ wx, Below w.heap.size w wx → ∀ i (h : i < p.nd.length), wx.cell? ⟨ng, noff + i * 2, none⟩ = some (.string p.nd[i].nm) ∧ wx.cell? ⟨ng, noff + i * 2 + 1, none⟩ = some (.string p.nd[i].rg)) := hcs
              obtain ⟨nd, hnd⟩ : ∃ x, x = p.nd[j] := ⟨_, rfl⟩
              have HCj : Hid (∀ wx, Below w.heap.size w wx → wx.cell? ⟨ng, noff + j * 2, none⟩ = some (.string nd.nm) ∧ wx.cell? ⟨ng, noff + j * 2 + 1, none⟩ = some (.string nd.rg)) := fun wx hx => by rw [hnd]; exact hcs wx hx j hjd
              have HDj : Hid (p.nd.drop j = nd :: p.nd.drop (j + 1)) := by show _ = _; rw [List.drop_eq_getElem_cons hjd, hnd]
              have HTj : Hid (p.nd.take (j + 1) = p.nd.take j ++ [nd]) := by show _ = _; rw [List.take_succ_eq_append_getElem hjd, hnd]
              obtain ⟨hf1, hf2⟩ := HF3.out nd (by rw [hnd]; exact List.getElem_mem _)
              have hnm := refName_ok nd.nm hf1 wr
              obtain ⟨b2, hb2⟩ : ∃ b, b = nameI (vb nd.nm) := ⟨_, rfl⟩
              rw [← hb2] at hnm
              have HB2 : Hid (b2 = nameI (vb nd.nm)) := hb2
              obtain ⟨z2, hz2⟩ : ∃ z : Int, z = if (rangeS (vb nd.rg)).isNone = true then 21 else 0 := ⟨_, rfl⟩
              have HZ2 : Hid (z2 = if (rangeS (vb nd.rg)).isNone = true then 21 else 0) := hz2
              have HRc : Hid (∀ wx, Calls Tryz.prog 51 #[.string nd.rg] wx fun e w' => ∃ v : Value, e = .returned (.tuple #[v, .int .i64 z2]) ∧ Below wx.heap.size wx w') := fun wx => by rw [hz2]; exact refRange_code nd.rg wx hf2
              have hzc2 : z2 = 0 ∨ z2 = 21 := by rw [hz2]; split; exact Or.inr rfl; exact Or.inl rfl
              have c0 := (HCj.out wr HBw.out).1
              have c1 := (HCj.out wr HBw.out).2
              clear hcs hnd hf1 hf2 hb2 hz2
              go_wp2_with fail
              refine hnm.mono ?_
              rintro e w7 ⟨rfl, hw7⟩
              rw [hw7]
              clear hw7 hnm
              cases b2 with
              | false =>
                have HR17 : Hid (R = 17) := HJ.out.trans (needsE_17 HDj.out HB2.out)
                go_wp2
                go_ret2
                exact ⟨_, by rw [HR17.out]; rfl, HBw.out⟩
              | true =>
                go_wp2_with fail
                refine (HRc.out wr).mono ?_
                rintro e w8 ⟨v8, rfl, hb8⟩
                have HB8 : Hid (Below w.heap.size w w8) := HBw.out.trans (hb8.mono HBw.out.size)
                have HBE8 : Hid (Below wE.heap.size wE w8) := HBj.out.trans (hb8.mono HBj.out.size)
                have HR8 : Hid (Row w8 k5 #[.string p.nm, .string p.vr, .slice (some ⟨ng, noff, none⟩) nl nc] 44) := HRr.out.below hb8 HRr.out.lt
                clear hb8 c0 c1 d2
                rcases hzc2 with hz | hz
                · subst hz
                  have HV2 : Hid (¬ (rangeS (vb nd.rg)).isNone = true) := fun h => by
                    have h2 := HZ2.out
                    rw [if_pos h] at h2
                    exact absurd h2 (by decide)
                  go_wp2
                  go_loopw [13] (fun iv wi => ∃ i : Nat, i ≤ j ∧ iv = .int .i64 i ∧ Below w8.heap.size w8 wi ∧ Hid (nd.nm ∉ (p.nd.take i).map Ned.nm)) (fun iv _ => j - (intOf iv).toNat)
                  case atStart => exact ⟨0, Nat.zero_le _, rfl, Below.refl _ _, by show _ ∉ _; simp⟩
                  case round =>
                    obtain ⟨i, hi, rfl, hb, HI⟩ := hrel
                    have HB : Hid (Below w8.heap.size w8 wr) := hb
                    have HBx : Hid (Below w.heap.size w wr) := HB8.out.trans (hb.mono HB8.out.size)
                    have HBEx : Hid (Below wE.heap.size wE wr) := HBE8.out.trans (hb.mono HBE8.out.size)
                    have d2 : wr.cell? ⟨k5, 2, none⟩ = some (.slice (some ⟨ng, noff, none⟩) nl nc) := ((HR8.out.below hb HR8.out.lt).cell 2).trans rfl
                    clear hb
                    by_cases hlt : i < j
                    · have hlt' : (i : Int) < (j : Int) := by omega
                      have hil' : (i : Int) < (nl : Int) := by omega
                      have hid : i < p.nd.length := by omega
                      obtain ⟨qn, hqn⟩ : ∃ x, x = p.nd[i].nm := ⟨_, rfl⟩
                      have c0 := (HCj.out wr HBx.out).1
                      have cq := (HCs.out wr HBx.out i hid).1
                      rw [← hqn] at cq
                      have HTi : Hid ((p.nd.take (i + 1)).map Ned.nm = (p.nd.take i).map Ned.nm ++ [qn]) := by show _ = _; rw [List.take_succ_eq_append_getElem hid, List.map_append, hqn]; rfl
                      have HBq : Hid (∀ q, Below w8.heap.size w8 (wr.drewN q)) := fun q => HB.out.trans ⟨rfl, rfl, rfl, Nat.le_refl _, fun _ _ => rfl⟩
                      clear hqn
                      by_cases e1 : qn = nd.nm
                      · rw [e1] at cq
                        have HR13 : Hid (R = 13) := by
                          have hm : nd.nm ∈ (p.nd.take j).map Ned.nm := by
                            have h1 : nd.nm ∈ (p.nd.take (i + 1)).map Ned.nm := by rw [HTi.out, e1]; simp
                            obtain ⟨x, hx, he⟩ := List.mem_map.1 h1
                            exact List.mem_map.2 ⟨x, by
                              have h3 : p.nd.take (i + 1) = (p.nd.take j).take (i + 1) := by rw [List.take_take]; congr 1; omega
                              rw [h3] at hx
                              exact List.mem_of_mem_take hx, he⟩
                          exact HJ.out.trans (needsE_13 HDj.out HB2.out HV2.out hm)
                        clear e1
                        go_wp2
                        go_quiet (fail)
                        go_wp2
                        go_ret2
                        exact ⟨_, by rw [HR13.out]; rfl, HB8.out.trans ((HBq.out _).mono HB8.out.size)⟩
                      · have hne1 : ¬ qn.toList = nd.nm.toList := fun e => e1 (list_eq.1 e)
                        have hne2 : (qn.toList == nd.nm.toList) = false := by simpa using hne1
                        have HI2 : Hid (nd.nm ∉ (p.nd.take (i + 1)).map Ned.nm) := fun h => by
                          rw [HTi.out] at h
                          rcases List.mem_append.1 h with h | h
                          · exact HI.out h
                          · exact e1 (List.mem_singleton.1 h).symm
                        go_wp2
                        go_quiet (fail)
                        go_wp2
                        go_roundw
                        case rel => exact ⟨i + 1, by omega, by go_num, HBq.out _, HI2.out⟩
                        case measure => simp [intOf]; omega
                    · have hlt' : ¬ (i : Int) < (j : Int) := by omega
                      obtain rfl : i = j := by omega
                      have HJ2 : Hid (R = needsE (p.nd.take (i + 1)) (p.nd.drop (i + 1))) := by
                        show _ = _
                        rw [HJ.out, HTj.out]
                        exact needsE_go HDj.out HB2.out HV2.out HI.out
                      go_wp2
                      go_roundw
                      case rel => exact ⟨i + 1, by omega, by go_num, HBEx.out, HJ2.out⟩
                      case measure => simp [intOf]; omega
                · subst hz
                  have HR21 : Hid (R = 21) := by
                    have h1 : (rangeS (vb nd.rg)).isNone = true := by
                      by_cases h : (rangeS (vb nd.rg)).isNone = true
                      · exact h
                      · have h2 := HZ2.out
                        rw [if_neg h] at h2
                        exact absurd h2 (by decide)
                    exact HJ.out.trans (needsE_21 HDj.out HB2.out h1)
                  go_wp2
                  go_ret2
                  exact ⟨_, by rw [HR21.out]; rfl, HB8.out⟩
            · have hjl' : ¬ (j : Int) < (nl : Int) := by omega
              have HR0 : Hid (R = 0) := by
                show _ = _
                rw [HJ.out, List.drop_eq_nil_of_le (by have := HNl.out; omega)]
                rfl
              go_wp2
              go_ret2
              exact ⟨_, by rw [HR0.out]; rfl, HBw.out⟩
    · subst hz
      have HR20 : Hid (R = 20) := by
        have h1 : (parseV (vb p.vr)).isNone = true := by
          by_cases h : (parseV (vb p.vr)).isNone = true
          · exact h
          · have h2 := HZ1.out
            rw [if_neg h] at h2
            exact absurd h2 (by decide)
        exact HR.out.trans (packE_20 HBn.out h1)
      go_wp2
      go_ret2
      exact ⟨_, by rw [HR20.out]; rfl, HB5.out⟩
end Go.Proofs.YtkbhckjpmgkgjaaGreatDoor
namespace Go.Proofs.YtkbhckjpmgkgjaaGreatDoor
open Go.RowKit

theorem rightL_big {L : List Pak} (h : 1024 < L.length) : rightL L = 3 := by
  unfold rightL
  rw [if_pos]
  unfold bigL
  rw [decide_eq_true h]
  rfl
theorem rightL_needs {L : List Pak} {p : Pak} (hp : p ∈ L) (h : 64 < p.nd.length) : rightL L = 3 := by
  unfold rightL
  rw [if_pos]
  cases hb : bigL L with
  | true => rfl
  | false => have := ((bigL_iff L).1 hb).2 p hp; omega
theorem rightL_go {L : List Pak} (h : L.length ≤ 1024) (h2 : ∀ p ∈ L, p.nd.length ≤ 64) : rightL L = packsE [] L := by
  unfold rightL
  rw [(bigL_iff L).2 ⟨h, h2⟩, if_neg (by decide)]
set_option maxRecDepth 40000 in
set_option maxHeartbeats 16000000 in
theorem refRight_ok {L : List Pak} {pa : Option Addr} {pc : Nat} (w : World) (hL : PacksIn w (.slice pa L.length pc) L) (hF : FitR L) (hl : L.length ≤ 140737488355328) (hnd : ∀ p ∈ L, p.nd.length ≤ 140737488355328) : Calls Tryz.prog 18 #[.slice pa L.length pc] w fun e w' => e = .returned (.int .i64 (rightL L)) ∧ Below w.heap.size w w' := by
  obtain ⟨R, hR⟩ : ∃ R, R = rightL L := ⟨_, rfl⟩
  have HR : Hid (R = rightL L) := hR
  rw [← hR]
  obtain ⟨a1, g, off, c1, he, h2, h3, h4, h5⟩ := hL.ex
  simp only [Value.slice.injEq, true_and] at he
  obtain ⟨rfl, rfl⟩ := he
  have HA1 : Hid (0 < L.length → pa = some ⟨g, off, none⟩) := fun h => (h3 h).1
  have HA5 : Hid (∀ i (h : i < L.length), ∃ na nc, ∀ wx, Below w.heap.size w wx → wx.rangeAt g (off + i * 3) (encP L[i] (.slice na L[i].nd.length nc))) := fun i hi => by
    obtain ⟨nv, k1, k2⟩ := h5 i hi
    obtain ⟨na, _, _, nc, rfl, _⟩ := k2.ex
    exact ⟨na, nc, fun wx hx j u hj => (hx.cell (p := ⟨g, off + i * 3 + j, none⟩) (h3 (by omega)).2).trans (k1 j u hj)⟩
  obtain ⟨n, hn⟩ : ∃ n, n = L.length := ⟨_, rfl⟩
  have HN : Hid (n = L.length) := hn
  have HPk : Hid (∀ (k : Nat) (h : k < L.length) wx, Below w.heap.size w wx → Calls Tryz.prog 28 #[.slice pa n pc, .int .i64 k] wx (PkPost (packE ((L.take k).map Pak.key) L[k]) wx)) := fun k hk wx hx => by
    rw [hn]
    exact refPack_ok k wx (hL.keep (Nat.le_refl _) hx) hF hl hnd hk
  have hn9 : n ≤ 140737488355328 := by omega
  have HND : Hid (∀ p ∈ L, p.nd.length ≤ 140737488355328) := hnd
  rw [← hn]
  rw [← hn] at h2
  clear hL h3 h4 h5 hn hnd hF hl hR
  go_enter Tryz.func18, Tryz.ntmps18
  by_cases hbig : 1024 < n
  · have hbig' : (1024 : Int) < (n : Int) := by omega
    have HR3 : Hid (R = 3) := HR.out.trans (rightL_big (by have := HN.out; omega))
    go_wp2
    go_ret
    exact ⟨by rw [HR3.out]; rfl, Below.refl _ _⟩
  · have hbig' : ¬ (1024 : Int) < (n : Int) := by omega
    go_wp2
    go_loopw [3] (fun iv wi => ∃ i : Nat, i ≤ n ∧ iv = .int .i64 i ∧ Below w.heap.size w wi ∧ Hid (∀ p ∈ L.take i, p.nd.length ≤ 64)) (fun iv _ => n - (intOf iv).toNat)
    case atStart => exact ⟨0, Nat.zero_le _, rfl, Below.refl _ _, fun p hp => by simp at hp⟩
    case round =>
      obtain ⟨i, hi, rfl, hb, HI⟩ := hrel
      have HB : Hid (Below w.heap.size w wr) := hb
      clear hb
      by_cases hlt : i < n
      · have hlt' : (i : Int) < (n : Int) := by omega
        have hiL : i < L.length := by have := HN.out; omega
        obtain rfl := HA1.out (by omega)
        obtain ⟨na, nc, hrg⟩ := HA5.out i hiL
        obtain ⟨m, hm⟩ : ∃ m, m = L[i].nd.length := ⟨_, rfl⟩
        have HM : Hid (m = L[i].nd.length) := hm
        have c2 := hrg wr HB.out 2 _ rfl
        have hm9 : m ≤ 140737488355328 := by rw [hm]; exact HND.out _ (List.getElem_mem _)
        rw [← hm] at c2
        clear hrg hm
        by_cases h64 : 64 < m
        · have h64' : (64 : Int) < (m : Int) := by omega
          have HR3 : Hid (R = 3) := HR.out.trans (rightL_needs (List.getElem_mem hiL) (by have := HM.out; omega))
          go_wp2
          go_ret
          exact ⟨by rw [HR3.out]; rfl, HB.out⟩
        · have h64' : ¬ (64 : Int) < (m : Int) := by omega
          have HI2 : Hid (∀ p ∈ L.take (i + 1), p.nd.length ≤ 64) := fun p hp => by
            rw [List.take_succ_eq_append_getElem hiL] at hp
            rcases List.mem_append.1 hp with hp | hp
            · exact HI.out p hp
            · rw [List.mem_singleton.1 hp]; have := HM.out; omega
          go_wp2
          go_roundw
          case rel => exact ⟨i + 1, by omega, by go_num, HB.out, HI2.out⟩
          case measure => simp [intOf]; omega
      · have hlt' : ¬ (i : Int) < (n : Int) := by omega
        obtain rfl : i = n := by omega
        have HRP : Hid (R = packsE [] L) := HR.out.trans (rightL_go (by have := HN.out; omega) (fun p hp => HI.out p (by rw [List.take_of_length_le (by have := HN.out; omega)]; exact hp)))
        obtain ⟨wE, rfl⟩ : ∃ x, x = wr := ⟨wr, rfl⟩
        clear HI HR HA5 HA1 HND
        go_wp2
        go_loopw [4] (fun kv wi => ∃ k : Nat, k ≤ i ∧ kv = .int .i64 k ∧ Below w.heap.size w wi ∧ Hid (R = packsE ((L.take k).map Pak.key) (L.drop k))) (fun kv _ => i - (intOf kv).toNat)
        case atStart => exact ⟨0, Nat.zero_le _, rfl, HB.out, by show _ = _; rw [List.drop_zero]; exact HRP.out⟩
        case round =>
          obtain ⟨k, hk, rfl, hb, HK⟩ := hrel
          have HBk : Hid (Below w.heap.size w wr) := hb
          clear hb
          by_cases hlk : k < i
          · have hlk' : (k : Int) < (i : Int) := by omega
            have hkL : k < L.length := by have := HN.out; omega
            obtain ⟨E, hE⟩ : ∃ E, E = packE ((L.take k).map Pak.key) L[k] := ⟨_, rfl⟩
            have HE : Hid (E = packE ((L.take k).map Pak.key) L[k]) := hE
            have hcall := HPk.out k hkL wr HBk.out
            rw [← hE] at hcall
            have HKs : Hid (R = if E ≠ 0 then E else packsE ((L.take (k + 1)).map Pak.key) (L.drop (k + 1))) := by
              show _ = _
              rw [HK.out, List.drop_eq_getElem_cons hkL, packsE_cons, ← hE, List.take_succ_eq_append_getElem hkL, List.map_append]
              rfl
            clear hE
            go_wp2_with fail
            refine hcall.mono ?_
            rintro e w5 ⟨z, rfl, hb5⟩
            have HB5 : Hid (Below w.heap.size w w5) := HBk.out.trans (hb5.mono HBk.out.size)
            clear hcall hb5
            by_cases hz : E = 0
            · have HK2 : Hid (R = packsE ((L.take (k + 1)).map Pak.key) (L.drop (k + 1))) := by
                have h := HKs.out
                rw [if_neg (fun h => h hz)] at h
                exact h
              subst hz
              go_wp2
              go_roundw
              case rel => exact ⟨k + 1, by omega, by go_num, HB5.out, HK2.out⟩
              case measure => simp [intOf]; omega
            · have HK2 : Hid (R = E) := by
                have h := HKs.out
                rw [if_pos hz] at h
                exact h
              have hzb := beqI hz
              go_wp2
              go_ret
              exact ⟨by rw [HK2.out]; rfl, HB5.out⟩
          · have hlk' : ¬ (k : Int) < (i : Int) := by omega
            have HR0 : Hid (R = 0) := by
              show _ = _
              rw [HK.out, List.drop_eq_nil_of_le (by have := HN.out; omega)]
              rfl
            go_wp2
            go_ret
            exact ⟨by rw [HR0.out]; rfl, HBk.out⟩
end Go.Proofs.YtkbhckjpmgkgjaaGreatDoor
namespace Go.Proofs.YtkbhckjpmgkgjaaGreatDoor.BF
open Go.RowKit

theorem ownsRow_keep {w w' : World} {B n s : Nat} {e : TypeId} {v : Value} {xs : List Value} (h : w.ownsRow B e s v n xs) (hb : ∀ g, v.ownBlock = some g → g < w.heap.size → w'.heap[g]? = w.heap[g]?) : w'.ownsRow B e s v n xs := by
  obtain ⟨h1, h2 | ⟨g, cap, cur, e1, e2, e3, e4⟩⟩ := h
  · exact ⟨h1, .inl h2⟩
  · refine ⟨h1, .inr ⟨g, cap, cur, e1, e2, ?_, e4⟩⟩
    obtain ⟨hlt, _⟩ := Array.getElem?_eq_some_iff.1 e3
    exact (hb g (by rw [e1]; rfl) hlt).trans e3
theorem own_grown {B : Nat} {w wr w1 : World} {e : TypeId} {s : Nat} {v : Value} {n : Nat} {xs : List Value} (hown : wr.ownsRow B e s v n xs) (hb : Below B w wr) (hB : B ≤ wr.heap.size) (hgrow : wr.grownBy w1 v.ownBlock) : Below B w w1 := by
  refine hb.grown hgrow hB (fun r hr => ?_)
  obtain ⟨_, ⟨rfl, _⟩ | ⟨g', cap, cur, rfl, hle, _⟩⟩ := hown
  · cases hr
  · simp [Value.ownBlock] at hr; omega
theorem ownsRow_lt {w : World} {base n s : Nat} {e : TypeId} {v : Value} {xs : List Value} (h : w.ownsRow base e s v n xs) : ∀ k, v.ownBlock = some k → k < w.heap.size ∧ base ≤ k ∧ ∃ cur, Row w k cur e := fun k hk => by
  obtain ⟨_, ⟨rfl, _⟩ | ⟨g', c', cur, rfl, h2, e3, _⟩⟩ := h
  · cases hk
  · simp [Value.ownBlock] at hk
    subst hk
    exact ⟨Row.lt e3, h2, cur, e3⟩
/-- Bytes as cells. -/
def u8s (X : List UInt8) : List Value := X.map fun b => Value.int .u8 b.toNat
theorem u8s_append (X Y : List UInt8) : u8s (X ++ Y) = u8s X ++ u8s Y := by simp [u8s]
theorem u8s_length (X : List UInt8) : (u8s X).length = X.length := by simp [u8s]
theorem u8s_one (X : List UInt8) : ∀ u ∈ u8s X, u.oneCell' = true := fun u hu => by
  obtain ⟨_, _, rfl⟩ := List.mem_map.1 hu
  rfl
theorem row_apart {w : World} {k k' : Nat} {C C' : Array Value} {t t' : TypeId} (h : Row w k C t) (h' : Row w k' C' t') (ht : t ≠ t') : k ≠ k' := fun e => by
  subst e
  have := h.symm.trans h'
  simp at this
  exact ht this.2
/-- A row of bytes of one's own. -/
abbrev Buf (w : World) (B : Nat) (v : Value) (X : List UInt8) : Prop := w.ownsRow B 5 1 v X.length (u8s X)
/-- It has become another one, and nothing else has changed. -/
structure More (B : Nat) (w : World) (v : Value) (w' : World) (v' : Value) (Z : List UInt8) : Prop where
  buf : Buf w' B v' Z
  grown : w.grownBy w' v.ownBlock
  new : v'.ownBlock = v.ownBlock ∨ ∃ k, v'.ownBlock = some k ∧ w.heap.size ≤ k
theorem below_new {a w : World} (h : Below a.heap.size a w) (o : Obj) : Below a.heap.size a (w.alloc o) := h.alloc h.size o
theorem below_next {a w w' : World} (h : Below a.heap.size a w) (h' : Below w.heap.size w w') : Below a.heap.size a w' := h.trans (h'.mono h.size)
theorem Buf.keep {w w' : World} {B : Nat} {v : Value} {X : List UInt8} (h : Buf w B v X) (hb : Below w.heap.size w w') : Buf w' B v X :=
  ownsRow_keep h fun k hk _ => hb.block k (ownsRow_lt h k hk).1
theorem Below.grownBy {w w' : World} (hb : Below w.heap.size w w') (r : Option Nat) : w.grownBy w' r := ⟨hb.os, hb.tape, hb.output, hb.size, fun k hk _ => hb.block k hk⟩
theorem grown_trans {w w1 w2 : World} {r r1 : Option Nat} (h1 : w.grownBy w1 r) (hr : r1 = r ∨ ∃ k, r1 = some k ∧ w.heap.size ≤ k) (h2 : w1.grownBy w2 r1) : w.grownBy w2 r :=
  ⟨h2.os.trans h1.os, h2.tape.trans h1.tape, h2.output.trans h1.output, Nat.le_trans h1.size h2.size, fun k hk hne => by
    have hs := h1.size
    refine (h2.block k (by omega) ?_).trans (h1.block k hk hne)
    rcases hr with e | ⟨q, e, hq⟩
    · rw [e]; exact hne
    · rw [e]; intro e1; simp only [Option.some.injEq] at e1; omega⟩
theorem More.trans {B : Nat} {w w1 w2 : World} {v v1 v2 : Value} {X Y : List UInt8} (h1 : More B w v w1 v1 X) (h2 : More B w1 v1 w2 v2 Y) : More B w v w2 v2 Y :=
  ⟨h2.buf, grown_trans h1.grown h1.new h2.grown, by
    have hs := h1.grown.size
    rcases h2.new with e | ⟨k, e, hk⟩
    · rw [e]; exact h1.new
    · exact .inr ⟨k, e, by omega⟩⟩
/-- Ahead of it something else was made. -/
theorem More.after {B : Nat} {w w1 w2 : World} {v v2 : Value} {Y : List UInt8} (hb : Below w.heap.size w w1) (h2 : More B w1 v w2 v2 Y) : More B w v w2 v2 Y :=
  ⟨h2.buf, grown_trans (Below.grownBy hb v.ownBlock) (.inl rfl) h2.grown, by
    have hs := hb.size
    rcases h2.new with e | ⟨k, e, hk⟩
    · exact .inl e
    · exact .inr ⟨k, e, by omega⟩⟩
theorem More.refl {B : Nat} {w : World} {v : Value} {X : List UInt8} (h : Buf w B v X) : More B w v w v X := ⟨h, ⟨rfl, rfl, rfl, Nat.le_refl _, fun _ _ _ => rfl⟩, .inl rfl⟩
/-- What lay below the row's base stays. -/
theorem More.below {B : Nat} {w w' : World} {v v' : Value} {X Z : List UInt8} (h : More B w v w' v' Z) (h0 : Buf w B v X) (hB : B ≤ w.heap.size) : Below B w w' :=
  own_grown h0 (Below.refl B w) hB h.grown
/-- Rows of other elements stay. -/
theorem More.row {B : Nat} {w w' : World} {v v' : Value} {X Z : List UInt8} (h : More B w v w' v' Z) (h0 : Buf w B v X) {k : Nat} {C : Array Value} {t : TypeId} (hr : Row w k C t) (ht : t ≠ 5) : Row w' k C t :=
  (h.grown.block k hr.lt (fun e1 => by
    obtain ⟨_, _, c2, r2⟩ := ownsRow_lt h0 k e1.symm
    exact row_apart hr r2 ht rfl)).trans hr

section
variable {P : Program} (w : World)
/-- 'append', onto a row of bytes of one's own, of whatever yields bytes. -/
theorem run_append_src (B : Nat) (t tx ty : TypeId) (i : TypeInfo) (ht : P.underlying t = some (.slice 5)) (hi : P.info? 5 = some i) (hz : i.zero = some (.int .u8 0)) (hsize : i.size = 1) (hby : i.bytes = 1)
    (v : Value) (X : List UInt8) (hown : Buf w B v X) (x : Value) (Y : List UInt8) (hs : Src P 1 tx x Y.length (u8s Y) w) (hln : X.length + Y.length ≤ 140737488355328) (hB : B ≤ w.heap.size) :
    ∃ v' w', (Builtin.append_ #[t, tx] ty #[v, x]).run P w = .ok v' w' ∧ More B w v w' v' (X ++ Y) := by
  have h63 : X.length + Y.length ≤ maxLen := by unfold maxLen; omega
  have hlen : (u8s (X ++ Y)).length = (X ++ Y).length * 1 := by rw [u8s_length, Nat.mul_one]
  have hlen2 : (X ++ Y).length = X.length + Y.length := List.length_append
  have grown : ∀ (old : Nat), ∀ (row : Option Nat),
      (w.drew.alloc (.cells ((u8s X ++ u8s Y).toArray ++ Builtin.zeroCells (Value.int .u8 0).cells (grownCap w (X.length + Y.length) old 5 - (X.length + Y.length))) 5)).ownsRow B 5 1
        (.slice (some ⟨w.heap.size, 0, none⟩) (X.length + Y.length) (grownCap w (X.length + Y.length) old 5)) (X ++ Y).length (u8s (X ++ Y)) ∧
      w.grownBy (w.drew.alloc (.cells ((u8s X ++ u8s Y).toArray ++ Builtin.zeroCells (Value.int .u8 0).cells (grownCap w (X.length + Y.length) old 5 - (X.length + Y.length))) 5)) row := by
    intro old row
    have hge := grownCap_ge w (X.length + Y.length) old 5
    have hcm : grownCap w (X.length + Y.length) old 5 ≤ maxLen := grownCap_le_maxLen w _ old 5 h63
    refine ⟨⟨hlen, .inr ⟨w.heap.size, _, _, by rw [hlen2], hB, heap_alloc_new w.drew _, by rw [hlen2]; exact hge, hcm, ?_, ?_⟩⟩, ⟨rfl, rfl, rfl, by simp, fun k hk _ => Below.heap_alloc w.drew _ k hk⟩⟩
    · have hz1 : (Value.int IntKind.u8 0).cells.size = 1 := rfl
      simp only [Array.size_append, List.size_toArray, size_zeroCells, hz1, List.length_append, u8s_length]
      omega
    · rw [Array.toList_append, ← u8s_append, ← hlen]
      exact List.take_left
  rcases hown.2 with ⟨rfl, h0⟩ | ⟨g, cap, cur, rfl, hbg, hg, hnc, hcm, hcs, htake⟩
  · have hX : X = [] := List.eq_nil_of_length_eq_zero h0
    subst hX
    by_cases hm : Y.length = 0
    · have hY : Y = [] := List.eq_nil_of_length_eq_zero hm
      subst hY
      refine ⟨.slice none 0 0, w, ?_, More.refl (World.ownsRow_nil w B 5 1)⟩
      have hc : (Builtin.firstCells 1 0 x).run P w = .ok #[] w := hs.cells
      have hl : (Builtin.lenOf x).run P w = .ok 0 w := hs.len w
      rcases hs.kind with ⟨e', hk⟩ | hk <;> simp [Builtin.append_, run_underlying ht, run_underlying hk, sizeOf, typeInfo, hi, hsize, hl, hc]
    · have hr := run_append_grow_src (P := P) w t tx ty 5 i (.int .u8 0) ht hi hz none 0 0 [] (by simpa using run_firstCells_none (P := P) w.drew i.size 0 0 0) x Y.length (u8s Y) (by rw [hsize]; exact hs) (by omega) (by omega) (by rw [hby, nextslicecap_zero (by omega)]; simp only [List.length_nil] at hln; omega)
      have hgr := grown 0 (Value.ownBlock (.slice none 0 0))
      simp only [List.length_nil, Nat.zero_add] at hr hgr ⊢
      exact ⟨_, _, hr, hgr.1, hgr.2, .inr ⟨_, rfl, Nat.le_refl _⟩⟩
  · by_cases hroom : X.length + Y.length ≤ cap
    · have hcs' : cur.size = cap := by simpa using hcs
      have ht' : cur.toList.take X.length = u8s X := by simpa using htake
      have hst := run_storeCells_at P g X.length 5 (u8s Y) 0 cur w hg (by rw [u8s_length]; omega) (u8s_one Y)
      simp only [Nat.add_zero, u8s_length] at hst
      have hr : (Builtin.append_ #[t, tx] ty #[.slice (some ⟨g, 0, none⟩) X.length cap, x]).run P w = .ok (.slice (some ⟨g, 0, none⟩) (X.length + Y.length) cap) (w.setRow g (cur.toList.take X.length ++ u8s Y ++ cur.toList.drop (X.length + Y.length)).toArray) := by
        rcases hs.kind with ⟨e', hk⟩ | hk <;> simp [Builtin.append_, run_underlying ht, run_underlying hk, sizeOf, typeInfo, hi, hsize, hs.len, hroom, hs.cells, Addr.add_lit, hst]
      refine ⟨_, _, hr, ⟨hlen, .inr ⟨g, cap, _, by rw [hlen2], hbg, setRow_heap w g cur _ 5 _ hg, by rw [hlen2]; exact hroom, hcm, ?_, ?_⟩⟩, ⟨rfl, rfl, rfl, by simp, fun k _ hk => setRow_other w g k _ (fun e => hk (by simp [Value.ownBlock, e]))⟩, .inl rfl⟩
      · simp only [List.size_toArray, List.length_append, List.length_take, List.length_drop, Array.length_toList, u8s_length]
        omega
      · rw [ht', ← u8s_append, Nat.mul_one, show (X ++ Y).length = (u8s (X ++ Y)).length by rw [u8s_length]]
        exact List.take_left
    · have holds : ∀ j u, (u8s X)[j]? = some u → w.drew.cell? ((⟨g, 0, none⟩ : Addr).add j) = some u := hown.cells (g := g) rfl
      have hr := run_append_grow_src (P := P) w t tx ty 5 i (.int .u8 0) ht hi hz (some ⟨g, 0, none⟩) X.length cap (u8s X) (run_firstCells_some w.drew i.size X.length ⟨g, 0, none⟩ X.length cap (u8s X) (by rw [hsize, u8s_length, Nat.mul_one]) holds) x Y.length (u8s Y) (by rw [hsize]; exact hs) (by omega) (by omega) (by rw [hby]; exact growslice_fits (by omega) (by omega))
      have hgr := grown cap (Value.ownBlock (.slice (some ⟨g, 0, none⟩) X.length cap))
      exact ⟨_, _, hr, hgr.1, hgr.2, .inr ⟨_, rfl, Nat.le_refl _⟩⟩
end
theorem infoB : (Tryz.prog.info? 5).map (fun i => (i.zero, i.size, i.bytes)) = some (some (.int .u8 0), 1, 1) := by kernel_rfl
section
variable {w : World} {ops : Array Oper} {rest : List Oper} {o : Oper} {a : Act} {Q : Exit → Act → World → Prop}
theorem ap_src (hgd : o.guard = none) (s x : Operand) (tx : TypeId) (ho : o.op = .call { callee := .builtin .append, args := #[s, x], argTypes := #[69, tx] })
    (B : Nat) (v : Value) (X : List UInt8) (hs : a.eval s = v) (hown : Buf w B v X) (xv : Value) (hx : a.eval x = xv) (Y : List UInt8) (hsrc : Src Tryz.prog 1 tx xv Y.length (u8s Y) w) (hln : X.length + Y.length ≤ 140737488355328) (hB : B ≤ w.heap.size)
    (h : ∀ v' w', More B w v w' v' (X ++ Y) → wpList Tryz.prog ops Q rest (a.put o.dst v') w') : wpList Tryz.prog ops Q (o :: rest) a w := by
  obtain ⟨i0, hi, hz0, hz1, hz2⟩ := info_parts infoB
  obtain ⟨v', w', hr, hm⟩ := run_append_src (P := Tryz.prog) w B 69 tx o.type i0 Tryz.underlying69 hi hz0 hz1 hz2 v X hown xv Y hsrc hln hB
  exact Lib.wpList_append_run w hgd s x 69 tx ho v xv hs hx v' w' hr (h v' w' hm)
theorem ap_slice (hgd : o.guard = none) (s x : Operand) (ho : o.op = .call { callee := .builtin .append, args := #[s, x], argTypes := #[69, 69] })
    (B : Nat) (v : Value) (X : List UInt8) (hs : a.eval s = v) (hown : Buf w B v X) (ad : Addr) (c : Nat) (Y : List UInt8) (hx : a.eval x = .slice (some ad) Y.length c) (hY : ∀ j u, (u8s Y)[j]? = some u → w.cell? (ad.add j) = some u) (hln : X.length + Y.length ≤ 140737488355328) (hB : B ≤ w.heap.size)
    (h : ∀ v' w', More B w v w' v' (X ++ Y) → wpList Tryz.prog ops Q rest (a.put o.dst v') w') : wpList Tryz.prog ops Q (o :: rest) a w :=
  ap_src hgd s x 69 ho B v X hs hown _ hx Y (Src.ofSlice w Tryz.underlying69 ad Y.length c (u8s Y) (by rw [u8s_length, Nat.mul_one]) hY (u8s_one Y)) hln hB h
theorem ap_str (hgd : o.guard = none) (s x : Operand) (ho : o.op = .call { callee := .builtin .append, args := #[s, x], argTypes := #[69, 9] })
    (B : Nat) (v : Value) (X : List UInt8) (hs : a.eval s = v) (hown : Buf w B v X) (t : ByteArray) (hx : a.eval x = .string t) (hln : X.length + t.size ≤ 140737488355328) (hB : B ≤ w.heap.size)
    (h : ∀ v' w', More B w v w' v' (X ++ t.data.toList) → wpList Tryz.prog ops Q rest (a.put o.dst v') w') : wpList Tryz.prog ops Q (o :: rest) a w := by
  have hl : t.data.toList.length = t.size := by rw [Array.length_toList]; rfl
  have hS : Src Tryz.prog 1 9 (.string t) t.data.toList.length (u8s t.data.toList) w := by rw [hl]; exact Src.ofString w Tryz.underlying9 t
  exact ap_src hgd s x 9 ho B v X hs hown _ hx t.data.toList hS (by rw [hl]; exact hln) hB h
/-- 'append' of one byte. -/
theorem ap_one (hgd : o.guard = none) (s x : Operand) (ho : o.op = .call { callee := .builtin .append, args := #[s, x], argTypes := #[69, 69] })
    (B : Nat) (v : Value) (X : List UInt8) (hs : a.eval s = v) (hown : Buf w B v X) (b : UInt8) (k c : Nat) (hx : a.eval x = .slice (some ⟨k, 0, none⟩) 1 c) (hk : w.cell? ⟨k, 0, none⟩ = some (.int .u8 b.toNat)) (hln : X.length + 1 ≤ 140737488355328) (hB : B ≤ w.heap.size)
    (h : ∀ v' w', More B w v w' v' (X ++ [b]) → wpList Tryz.prog ops Q rest (a.put o.dst v') w') : wpList Tryz.prog ops Q (o :: rest) a w :=
  ap_slice hgd s x ho B v X hs hown ⟨k, 0, none⟩ c [b] hx (fun j u hj => by
    have hj0 : j = 0 := by
      have := (List.getElem?_eq_some_iff.1 hj).1
      simp [u8s] at this
      exact this
    subst hj0
    simp [u8s] at hj
    subst hj
    exact hk) hln hB h
end
section
variable {w : World} {ops : Array Oper} {rest : List Oper} {o : Oper} {a : Act} {Q : Exit → Act → World → Prop}
/-- 'append' of another row of bytes of one's own. -/
theorem ap_buf (hgd : o.guard = none) (s x : Operand) (ho : o.op = .call { callee := .builtin .append, args := #[s, x], argTypes := #[69, 69] })
    (B : Nat) (v : Value) (X : List UInt8) (hs : a.eval s = v) (hown : Buf w B v X) (B2 : Nat) (v2 : Value) (Y : List UInt8) (hx : a.eval x = v2) (h2 : Buf w B2 v2 Y) (hln : X.length + Y.length ≤ 140737488355328) (hB : B ≤ w.heap.size)
    (h : ∀ v' w', More B w v w' v' (X ++ Y) → wpList Tryz.prog ops Q rest (a.put o.dst v') w') : wpList Tryz.prog ops Q (o :: rest) a w := by
  have hS : Src Tryz.prog 1 69 v2 Y.length (u8s Y) w := by
    have h2' := h2
    obtain ⟨_, ⟨rfl, h0⟩ | ⟨g, cap, cur, rfl, _⟩⟩ := h2
    · have hY : Y = [] := List.eq_nil_of_length_eq_zero h0
      subst hY
      exact Src.ofNil w Tryz.underlying69 0
    · exact Src.ofSlice w Tryz.underlying69 _ _ _ _ (by rw [u8s_length, Nat.mul_one]) (h2'.cells (g := g) rfl) (u8s_one Y)
  exact ap_src hgd s x 69 ho B v X hs hown v2 hx Y hS hln hB h
end
theorem buf_slice {w : World} {B : Nat} {v : Value} {X : List UInt8} (h : Buf w B v X) : ∃ a c, v = .slice a X.length c := by
  obtain ⟨_, ⟨rfl, h0⟩ | ⟨g, cap, cur, rfl, _⟩⟩ := h
  · exact ⟨none, 0, by rw [h0]⟩
  · exact ⟨_, _, rfl⟩
theorem buf_base {w : World} {B B' : Nat} {v : Value} {X : List UInt8} (h : Buf w B v X) (hB : B' ≤ B) : Buf w B' v X := by
  obtain ⟨h1, h2 | ⟨g, cap, cur, e1, e2, e3⟩⟩ := h
  · exact ⟨h1, .inl h2⟩
  · exact ⟨h1, .inr ⟨g, cap, cur, e1, by omega, e3⟩⟩
theorem conv_buf (w : World) (B : Nat) (v : Value) (X : List UInt8) (h : Buf w B v X) : (convert 69 9 v).run Tryz.prog w = .ok (.string ⟨X.toArray⟩) w := by
  have hd : strOfNums (X.map fun x => (x.toNat : Int)) = ⟨X.toArray⟩ := Lib.Lz.strOfNums_map X
  obtain ⟨_, ⟨rfl, h0⟩ | ⟨g, cap, cur, rfl, _⟩⟩ := id h
  · have hX : X = [] := List.eq_nil_of_length_eq_zero h0
    subst hX
    exact run_convert_bytes_nil (P := Tryz.prog) w 69 5 Tryz.underlying69 Tryz.underlying5 0 0 9 Tryz.underlying9
  · have := run_convert_bytes_arg (P := Tryz.prog) w 69 5 Tryz.underlying69 Tryz.underlying5 g 0 X.length cap (X.map fun x => (x.toNat : Int)) (by simp) (fun i hi => by
      rw [Nat.zero_add, h.cellAt i (by omega)]
      simp [u8s, List.getD, hi]) 9 Tryz.underlying9
    rw [hd] at this
    exact this

theorem cat_size (a b : ByteArray) : (a ++ b).size = a.size + b.size := ByteArray.size_append
set_option maxRecDepth 20000 in
set_option maxHeartbeats 2000000 in
/-- A line is appended. -/
theorem appendLine_ok (B : Nat) (v : Value) (X : List UInt8) (word name said : ByteArray) (w : World) (h : Buf w B v X) (hB : B ≤ w.heap.size) (hl : X.length + word.size + name.size + said.size + 3 ≤ 140737488355328) :
    Calls Tryz.prog 32 #[v, .string word, .string name, .string said] w fun e w' => ∃ v', e = .returned v' ∧ More B w v w' v' (X ++ lineI (vb word) (vb name) (vb said)) := by
  obtain ⟨T, hT⟩ : ∃ T, T = word ++ ⟨#[32]⟩ ++ name ++ ⟨#[32]⟩ ++ said ++ ⟨#[10]⟩ := ⟨_, rfl⟩
  have HTl : Hid (T.data.toList = lineI (vb word) (vb name) (vb said)) := by
    show _ = _
    rw [hT]
    simp [lineI, vb, ByteArray.data_append]
  have HTs : Hid (X.length + T.size ≤ 140737488355328) := by
    show _ ≤ _
    rw [hT, ByteArray.size_append, ByteArray.size_append, ByteArray.size_append, ByteArray.size_append, ByteArray.size_append]
    have e1 : (⟨#[32]⟩ : ByteArray).size = 1 := rfl
    have e2 : (⟨#[10]⟩ : ByteArray).size = 1 := rfl
    omega
  have hT' := hT.symm
  have HO : Hid (Buf w B v X) := h
  clear hT h
  go_enter Tryz.func32, Tryz.ntmps32
  go_wp2_with (at_builtin; refine ap_str rfl _ _ rfl B v X rfl HO.out T rfl HTs.out hB (fun v' w' hm => ?_))
  rw [HTl.out] at hm
  go_wp2
  go_ret
  exact ⟨_, rfl, hm⟩
end Go.Proofs.YtkbhckjpmgkgjaaGreatDoor.BF
