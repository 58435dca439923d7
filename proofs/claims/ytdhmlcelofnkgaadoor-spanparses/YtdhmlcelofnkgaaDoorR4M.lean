/- My own work: what the document's own Parse reads, byte by byte; of a version's text it is the version. -/
import Derived.Test.YtdhmlcelofnkgaaDoorR3
namespace Go.Proofs.YtdhmlcelofnkgaaDoor

/-- One byte more. -/
def stepR (u : Ver) (b : UInt8) : Option Ver :=
  if b = 46 then (if 4 < u.cnt + 1 then none else some { u with cnt := u.cnt + 1 })
  else if digB b = true ∧ nAt u (u.cnt.toNat - 1) ≤ 999999999 then some (setN u (u.cnt.toNat - 1) (nAt u (u.cnt.toNat - 1) * 10 + ((b.toNat - 48 : Nat) : Int))) else none
/-- The bytes up to the end, or to a dash. -/
def refR : By → Ver → Option Ver
  | [], u => some u
  | b :: r, u => if b = 45 then some { u with tag := tx r } else (stepR u b).bind (refR r)
def startV : Ver := ⟨0, 0, 0, 0, 1, ⟨#[]⟩⟩
theorem refR_dash (r : By) (u : Ver) : refR (45 :: r) u = some { u with tag := tx r } := by unfold refR; rw [if_pos rfl]
theorem refR_point (r : By) (u : Ver) (h : u.cnt + 1 ≤ 4) : refR (46 :: r) u = refR r { u with cnt := u.cnt + 1 } := by
  rw [refR, if_neg (by decide)]
  unfold stepR
  rw [if_pos rfl, if_neg (by omega)]
  rfl
theorem refR_digit (b : UInt8) (r : By) (u : Ver) (hb : digB b = true) (h : nAt u (u.cnt.toNat - 1) ≤ 999999999) : refR (b :: r) u = refR r (setN u (u.cnt.toNat - 1) (nAt u (u.cnt.toNat - 1) * 10 + ((b.toNat - 48 : Nat) : Int))) := by
  have h1 := (digB_iff b).1 hb
  have h45 : ¬ b = 45 := fun e => by rw [e] at h1; exact absurd h1 (by decide)
  have h46 : ¬ b = 46 := fun e => by rw [e] at h1; exact absurd h1 (by decide)
  rw [refR, if_neg h45]
  unfold stepR
  rw [if_neg h46, if_pos ⟨hb, h⟩]
  rfl
theorem setN_cnt (u : Ver) (k : Nat) (y : Int) : (setN u k y).cnt = u.cnt := by unfold setN; split <;> rfl
theorem setN_tag (u : Ver) (k : Nat) (y : Int) : (setN u k y).tag = u.tag := by unfold setN; split <;> rfl
theorem setN_set (u : Ver) (k : Nat) (y z : Int) : setN (setN u k y) k z = setN u k z := by
  match k with
  | 0 => rfl
  | 1 => rfl
  | 2 => rfl
  | n + 3 => rfl
theorem setN_self (u : Ver) (k : Nat) : setN u k (nAt u k) = u := by
  match k with
  | 0 => rfl
  | 1 => rfl
  | 2 => rfl
  | n + 3 => rfl
theorem nAt_set (u : Ver) (k : Nat) (y : Int) : nAt (setN u k y) k = y := by
  match k with
  | 0 => rfl
  | 1 => rfl
  | 2 => rfl
  | n + 3 => rfl
/-- Digits, one behind another. -/
theorem refR_digits (l r : By) (hl : ∀ b ∈ l, digB b = true) : ∀ (u : Ver) (m : Nat), nAt u (u.cnt.toNat - 1) = (m : Int) → numG m l ≤ 999999999 → refR (l ++ r) u = refR r (setN u (u.cnt.toNat - 1) (numG m l : Nat)) := by
  induction l with
  | nil =>
    intro u m hm _
    show refR r u = refR r (setN u _ ((m : Nat) : Int))
    rw [← hm, setN_self]
  | cons b l ih =>
    intro u m hm hn
    have hge : m ≤ numG m (b :: l) := num_ge m (b :: l)
    have hb := hl b (List.mem_cons_self ..)
    show refR (b :: (l ++ r)) u = _
    rw [refR_digit b (l ++ r) u hb (by rw [hm]; omega), hm]
    have e : ((m : Int) * 10 + ((b.toNat - 48 : Nat) : Int)) = ((10 * m + (b.toNat - 48) : Nat) : Int) := by omega
    rw [e]
    have h2 := ih (fun x hx => hl x (List.mem_cons_of_mem _ hx)) (setN u (u.cnt.toNat - 1) ((10 * m + (b.toNat - 48) : Nat) : Int)) (10 * m + (b.toNat - 48)) (by rw [setN_cnt, nAt_set]) hn
    rw [h2, setN_cnt, setN_set]
    rfl
/-- A number's numeral, where nought stood. -/
theorem refR_num (n : Nat) (r : By) (u : Ver) (hn : n ≤ 999999999) (h0 : nAt u (u.cnt.toNat - 1) = 0) : refR (Lib.itoa (n : Int) ++ r) u = refR r (setN u (u.cnt.toNat - 1) (n : Int)) := by
  have e : numG 0 (Lib.decDigits n) = n := dec_num n
  rw [itoa_nat, refR_digits (Lib.decDigits n) r (dec_dig n) u 0 h0 (by rw [e]; exact hn), e]
theorem refR_tag (t : ByteArray) (u : Ver) (h : u.tag = ⟨#[]⟩) : refR (tagT (vb t)) u = some { u with tag := t } := by
  unfold tagT
  by_cases ht : vb t = []
  · rw [if_pos ht]
    have : t = ⟨#[]⟩ := vb_nil ht
    rw [this]
    show some u = _
    rw [← h]
  · rw [if_neg ht, refR_dash, tx_vb]
theorem refR_text {v : Ver} (h : May v) : refR (textV v) startV = some v := by
  obtain ⟨c, hc⟩ : ∃ c : Nat, v.cnt = (c : Int) := ⟨v.cnt.toNat, by have := h.cnt; omega⟩
  have hc4 : 1 ≤ c ∧ c ≤ 4 := by have := h.cnt; omega
  obtain ⟨n0, n1, n2, n3, cn, t⟩ := v
  obtain ⟨_, _, ⟨h3, h4, h5⟩, ⟨h6, h7, h8⟩, ⟨h9, h10, h11⟩, ⟨h12, h13, h14⟩⟩ := h
  simp only at *
  subst hc
  obtain ⟨a, rfl⟩ := Int.eq_ofNat_of_zero_le h3
  obtain ⟨b, rfl⟩ := Int.eq_ofNat_of_zero_le h6
  obtain ⟨x, rfl⟩ := Int.eq_ofNat_of_zero_le h9
  obtain ⟨y, rfl⟩ := Int.eq_ofNat_of_zero_le h12
  unfold textV
  rw [parts_list (c := c) rfl hc4.2]
  have hcc : c = 1 ∨ c = 2 ∨ c = 3 ∨ c = 4 := by omega
  rcases hcc with rfl | rfl | rfl | rfl
  · obtain rfl : b = 0 := by omega
    obtain rfl : x = 0 := by omega
    obtain rfl : y = 0 := by omega
    show refR (Lib.itoa (a : Int) ++ tagT (vb t)) startV = _
    rw [refR_num a _ startV (by omega) rfl, refR_tag t _ rfl]
    rfl
  · obtain rfl : x = 0 := by omega
    obtain rfl : y = 0 := by omega
    show refR ((Lib.itoa (a : Int) ++ 46 :: Lib.itoa (b : Int)) ++ tagT (vb t)) startV = _
    rw [List.append_assoc, refR_num a _ startV (by omega) rfl]
    show refR (46 :: (Lib.itoa (b : Int) ++ tagT (vb t))) _ = _
    rw [refR_point _ _ (by first | (show (1 : Int) + 1 ≤ 4; decide) | (show ((1 : Int) + 1) + 1 ≤ 4; decide) | (show (((1 : Int) + 1) + 1) + 1 ≤ 4; decide)), refR_num b _ _ (by omega) rfl, refR_tag t _ rfl]
    rfl
  · obtain rfl : y = 0 := by omega
    show refR ((Lib.itoa (a : Int) ++ 46 :: (Lib.itoa (b : Int) ++ 46 :: Lib.itoa (x : Int))) ++ tagT (vb t)) startV = _
    rw [List.append_assoc, refR_num a _ startV (by omega) rfl]
    show refR (46 :: ((Lib.itoa (b : Int) ++ 46 :: Lib.itoa (x : Int)) ++ tagT (vb t))) _ = _
    rw [refR_point _ _ (by first | (show (1 : Int) + 1 ≤ 4; decide) | (show ((1 : Int) + 1) + 1 ≤ 4; decide) | (show (((1 : Int) + 1) + 1) + 1 ≤ 4; decide)), List.append_assoc, refR_num b _ _ (by omega) rfl]
    show refR (46 :: (Lib.itoa (x : Int) ++ tagT (vb t))) _ = _
    rw [refR_point _ _ (by first | (show (1 : Int) + 1 ≤ 4; decide) | (show ((1 : Int) + 1) + 1 ≤ 4; decide) | (show (((1 : Int) + 1) + 1) + 1 ≤ 4; decide)), refR_num x _ _ (by omega) rfl, refR_tag t _ rfl]
    rfl
  · show refR ((Lib.itoa (a : Int) ++ 46 :: (Lib.itoa (b : Int) ++ 46 :: (Lib.itoa (x : Int) ++ 46 :: Lib.itoa (y : Int)))) ++ tagT (vb t)) startV = _
    rw [List.append_assoc, refR_num a _ startV (by omega) rfl]
    show refR (46 :: ((Lib.itoa (b : Int) ++ 46 :: (Lib.itoa (x : Int) ++ 46 :: Lib.itoa (y : Int))) ++ tagT (vb t))) _ = _
    rw [refR_point _ _ (by first | (show (1 : Int) + 1 ≤ 4; decide) | (show ((1 : Int) + 1) + 1 ≤ 4; decide) | (show (((1 : Int) + 1) + 1) + 1 ≤ 4; decide)), List.append_assoc, refR_num b _ _ (by omega) rfl]
    show refR (46 :: ((Lib.itoa (x : Int) ++ 46 :: Lib.itoa (y : Int)) ++ tagT (vb t))) _ = _
    rw [refR_point _ _ (by first | (show (1 : Int) + 1 ≤ 4; decide) | (show ((1 : Int) + 1) + 1 ≤ 4; decide) | (show (((1 : Int) + 1) + 1) + 1 ≤ 4; decide)), List.append_assoc, refR_num x _ _ (by omega) rfl]
    show refR (46 :: (Lib.itoa (y : Int) ++ tagT (vb t))) _ = _
    rw [refR_point _ _ (by first | (show (1 : Int) + 1 ≤ 4; decide) | (show ((1 : Int) + 1) + 1 ≤ 4; decide) | (show (((1 : Int) + 1) + 1) + 1 ≤ 4; decide)), refR_num y _ _ (by omega) rfl, refR_tag t _ rfl]
    rfl
/-- Parse, by what is read and its text. -/
theorem parse_ref_none {l : By} (h : refR l startV = none) : parseV l = none := by
  cases e : parseV l with
  | none => rfl
  | some v =>
    obtain ⟨h1, h2⟩ := parse_back e
    rw [← h2, refR_text h1] at h
    cases h
theorem parse_ref_some {l : By} {u : Ver} (h : refR l startV = some u) : parseV l = if mayV u = true ∧ textV u = l then some u else none := by
  by_cases hc : mayV u = true ∧ textV u = l
  · rw [if_pos hc, ← hc.2]
    exact parse_text ((mayV_iff u).1 hc.1)
  · rw [if_neg hc]
    cases e : parseV l with
    | none => rfl
    | some v =>
      obtain ⟨h1, h2⟩ := parse_back e
      have h3 := refR_text h1
      rw [h2, h] at h3
      obtain rfl := Option.some.inj h3
      exact absurd ⟨(mayV_iff u).2 h1, h2⟩ hc
end Go.Proofs.YtdhmlcelofnkgaaDoor
