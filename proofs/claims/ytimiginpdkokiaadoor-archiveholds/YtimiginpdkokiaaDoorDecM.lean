/- My own work: how an archive is read, as a function of its bytes; that what is read is the archive of its node, and that a node's archive is read as it. -/
import Derived.Test.YtimiginpdkokiaaDoorEncA
namespace Go.Proofs.YtimiginpdkokiaaDoor
open Go.RowKit

/-- Noughts, so many. -/
def zerosB (f : Nat → Int) (s n : Nat) : Bool := (List.range n).all fun i => f (s + i) == 0
/-- The bytes at a place, so many, as a text. -/
def textF (f : Nat → Int) (s n : Nat) : ByteArray := ⟨((List.range n).map fun i => UInt8.ofNat (f (s + i)).toNat).toArray⟩
theorem textF_size (f : Nat → Int) (s n : Nat) : (textF f s n).size = n := by simp [textF, ByteArray.size]
/-- The next string: where it begins, how long it is, what is behind it. -/
def nextF (f : Nat → Int) (L p : Nat) : Except Int (Nat × Nat × Nat) :=
  if L < p + 8 then .error 11
  else if (L : Int) < Num.num (fun i => f (p + i)) 8 then .error 10
  else if L < p + 8 + ((Num.num (fun i => f (p + i)) 8).toNat + fillN (Num.num (fun i => f (p + i)) 8).toNat) then .error 11
  else if zerosB f (p + 8 + (Num.num (fun i => f (p + i)) 8).toNat) (fillN (Num.num (fun i => f (p + i)) 8).toNat) = true then .ok (p + 8, (Num.num (fun i => f (p + i)) 8).toNat, p + 8 + ((Num.num (fun i => f (p + i)) 8).toNat + fillN (Num.num (fun i => f (p + i)) 8).toNat))
  else .error 10
def wordF (f : Nat → Int) (L p : Nat) (ws : List ByteArray) : Except Int (ByteArray × Nat) :=
  match nextF f L p with
  | .error e => .error e
  | .ok (s, n, q) => if (ws.any fun w => decide (w = textF f s n)) = true then .ok (textF f s n, q) else .error 10
def passF (f : Nat → Int) (L : Nat) : Nat → List ByteArray → Except Int Nat
  | p, [] => .ok p
  | p, w :: ws => match wordF f L p [w] with
    | .error e => .error e
    | .ok (_, q) => passF f L q ws
def dataF (f : Nat → Int) (L p : Nat) (k : Int) (e : Bool) : Except Int (Nd × Nat) :=
  match nextF f L p with
  | .error e => .error e
  | .ok (s, n, q) => match passF f L q [wShut] with
    | .error e => .error e
    | .ok q2 => .ok (.mk k e (textF f s n) [] [], q2)
def fileF (f : Nat → Int) (L p : Nat) : Except Int (Nd × Nat) :=
  match wordF f L p [wExec, wData] with
  | .error e => .error e
  | .ok (w, q) => if w = wExec then
      match passF f L q [wNone, wData] with
      | .error e => .error e
      | .ok q2 => dataF f L q2 1 true
    else dataF f L q 1 false
def linkF (f : Nat → Int) (L p : Nat) : Except Int (Nd × Nat) :=
  match passF f L p [wTarget] with
  | .error e => .error e
  | .ok q => dataF f L q 3 false
def entryF (rec : Nat → Except Int (Nd × Nat)) (f : Nat → Int) (L p : Nat) : Except Int (ByteArray × Nd × Nat) :=
  match passF f L p [wOpen, wName] with
  | .error e => .error e
  | .ok q => match nextF f L q with
    | .error e => .error e
    | .ok (s, n, q2) => match passF f L q2 [wNode] with
      | .error e => .error e
      | .ok q3 => match rec q3 with
        | .error e => .error e
        | .ok (kd, q4) => match passF f L q4 [wShut] with
          | .error e => .error e
          | .ok q5 => .ok (textF f s n, kd, q5)
def dirF (rec : Nat → Except Int (Nd × Nat)) (f : Nat → Int) (L : Nat) : Nat → Nat → List ByteArray → List Nd → Except Int (Nd × Nat)
  | 0, _, _, _ => .error 11
  | fuel + 1, p, ns, ks => match wordF f L p [wEntry, wShut] with
    | .error e => .error e
    | .ok (w, q) => if w = wShut then .ok (.mk 2 false ⟨#[]⟩ ns ks, q)
      else match entryF rec f L q with
        | .error e => .error e
        | .ok (nm, kd, q2) => dirF rec f L fuel q2 (ns ++ [nm]) (ks ++ [kd])
/-- A node, k levels deep at most. -/
def nodeF (f : Nat → Int) (L : Nat) : Nat → Nat → Except Int (Nd × Nat)
  | 0, p => match passF f L p [wOpen] with
    | .error e => .error e
    | .ok _ => .error 3
  | k + 1, p => match passF f L p [wOpen] with
    | .error e => .error e
    | .ok q => match passF f L q [wType] with
      | .error e => .error e
      | .ok q2 => match wordF f L q2 [wFile, wLink, wDir] with
        | .error e => .error e
        | .ok (w, q3) => if w = wFile then fileF f L q3 else if w = wLink then linkF f L q3 else dirF (nodeF f L k) f L (L + 1) q3 [] []
def archF (f : Nat → Int) (L : Nat) : Except Int Nd :=
  match passF f L 0 [wFirst] with
  | .error e => .error e
  | .ok q => match nodeF f L 32 q with
    | .error e => .error e
    | .ok (n, q2) => if q2 < L then .error 10 else .ok n
def decF (f : Nat → Int) (L : Nat) : Except Int Nd :=
  if 1048576 < L then .error 3
  else match archF f L with
    | .error e => .error e
    | .ok n => if rightE n = 0 then .ok n else .error (rightE n)

/-- These bytes stand there. -/
def At (f : Nat → Int) (p : Nat) (X : List UInt8) : Prop := ∀ i (h : i < X.length), f (p + i) = (X[i].toNat : Int)
theorem At.nil (f : Nat → Int) (p : Nat) : At f p [] := fun i h => absurd h (by simp)
theorem At.app {f : Nat → Int} {p : Nat} {X Y : List UInt8} : At f p (X ++ Y) ↔ At f p X ∧ At f (p + X.length) Y := by
  constructor
  · intro h
    refine ⟨fun i hi => ?_, fun i hi => ?_⟩
    · have := h i (by rw [List.length_append]; omega)
      rw [List.getElem_append_left hi] at this
      exact this
    · have := h (X.length + i) (by rw [List.length_append]; omega)
      rw [List.getElem_append_right (by omega)] at this
      simp only [Nat.add_sub_cancel_left] at this
      rw [Nat.add_assoc]
      exact this
  · rintro ⟨h1, h2⟩ i hi
    rw [List.length_append] at hi
    by_cases h : i < X.length
    · rw [List.getElem_append_left h]
      exact h1 i h
    · rw [List.getElem_append_right (by omega)]
      have := h2 (i - X.length) (by omega)
      rw [show p + i = p + X.length + (i - X.length) by omega]
      exact this
theorem num8 (g : Nat → Int) : Num.num g 8 = (((((((g 0 * 256 + g 1) * 256 + g 2) * 256 + g 3) * 256 + g 4) * 256 + g 5) * 256 + g 6) * 256 + g 7) := by
  simp only [Num.num]
  omega
theorem num_be8 {f : Nat → Int} (hf : ∀ i, 0 ≤ f i ∧ f i < 256) (p n : Nat) (hn : Num.num (fun i => f (p + i)) 8 = n) : At f p (be8 n) := fun i hi => by
  rw [be8_length] at hi
  have h0 := hf (p + 0); have h1 := hf (p + 1); have h2 := hf (p + 2); have h3 := hf (p + 3)
  have h4 := hf (p + 4); have h5 := hf (p + 5); have h6 := hf (p + 6); have h7 := hf (p + 7)
  rw [num8] at hn
  have hlt : n / 2 ^ (8 * (7 - i)) % 256 < 256 := Nat.mod_lt _ (by omega)
  have e : ((be8 n)[i]'(by rw [be8_length]; exact hi)).toNat = n / 2 ^ (8 * (7 - i)) % 256 := by
    simp only [be8, List.getElem_map, List.getElem_range]
    rw [UInt8.toNat_ofNat', Nat.mod_eq_of_lt (by simpa using hlt)]
  rw [e]
  match i, hi with
  | 0, _ => show f (p + 0) = ((n / 72057594037927936 % 256 : Nat) : Int); omega
  | 1, _ => show f (p + 1) = ((n / 281474976710656 % 256 : Nat) : Int); omega
  | 2, _ => show f (p + 2) = ((n / 1099511627776 % 256 : Nat) : Int); omega
  | 3, _ => show f (p + 3) = ((n / 4294967296 % 256 : Nat) : Int); omega
  | 4, _ => show f (p + 4) = ((n / 16777216 % 256 : Nat) : Int); omega
  | 5, _ => show f (p + 5) = ((n / 65536 % 256 : Nat) : Int); omega
  | 6, _ => show f (p + 6) = ((n / 256 % 256 : Nat) : Int); omega
  | 7, _ => show f (p + 7) = ((n / 1 % 256 : Nat) : Int); omega
theorem be8_num {f : Nat → Int} (p n : Nat) (hn : n < 18446744073709551616) (h : At f p (be8 n)) : Num.num (fun i => f (p + i)) 8 = n := by
  have g : ∀ i (hi : i < 8), f (p + i) = ((n / 2 ^ (8 * (7 - i)) % 256 : Nat) : Int) := fun i hi => by
    have h1 := h i (by rw [be8_length]; exact hi)
    have hlt : n / 2 ^ (8 * (7 - i)) % 256 < 256 := Nat.mod_lt _ (by omega)
    have e : ((be8 n)[i]'(by rw [be8_length]; exact hi)).toNat = n / 2 ^ (8 * (7 - i)) % 256 := by
      simp only [be8, List.getElem_map, List.getElem_range]
      rw [UInt8.toNat_ofNat', Nat.mod_eq_of_lt (by simpa using hlt)]
    rw [e] at h1
    exact h1
  have g0 : f (p + 0) = ((n / 72057594037927936 % 256 : Nat) : Int) := g 0 (by omega)
  have g1 : f (p + 1) = ((n / 281474976710656 % 256 : Nat) : Int) := g 1 (by omega)
  have g2 : f (p + 2) = ((n / 1099511627776 % 256 : Nat) : Int) := g 2 (by omega)
  have g3 : f (p + 3) = ((n / 4294967296 % 256 : Nat) : Int) := g 3 (by omega)
  have g4 : f (p + 4) = ((n / 16777216 % 256 : Nat) : Int) := g 4 (by omega)
  have g5 : f (p + 5) = ((n / 65536 % 256 : Nat) : Int) := g 5 (by omega)
  have g6 : f (p + 6) = ((n / 256 % 256 : Nat) : Int) := g 6 (by omega)
  have g7 : f (p + 7) = ((n / 1 % 256 : Nat) : Int) := g 7 (by omega)
  rw [num8]
  clear g h
  omega
theorem text_at {f : Nat → Int} (hf : ∀ i, 0 ≤ f i ∧ f i < 256) (s n : Nat) : At f s (textF f s n).data.toList := fun i hi => by
  have hi' : i < n := by
    have : (textF f s n).data.toList.length = n := by rw [Array.length_toList]; exact textF_size f s n
    omega
  have := hf (s + i)
  have e : ((textF f s n).data.toList[i]) = UInt8.ofNat (f (s + i)).toNat := by simp [textF]
  rw [e, UInt8.toNat_ofNat', Nat.mod_eq_of_lt (by simp; omega)]
  omega
theorem at_text {f : Nat → Int} (s : Nat) (t : ByteArray) (h : At f s t.data.toList) : textF f s t.size = t := by
  apply ByteArray.ext
  apply Array.ext
  · have := textF_size f s t.size
    exact this
  · intro i h1 h2
    have hi : i < t.data.toList.length := by simpa using h2
    have := h i hi
    simp only [textF, List.getElem_toArray, List.getElem_map, List.getElem_range]
    rw [this, Int.toNat_natCast]
    simp
theorem zeros_at {f : Nat → Int} (s n : Nat) : zerosB f s n = true ↔ At f s (List.replicate n 0) := by
  unfold zerosB
  rw [List.all_eq_true]
  constructor
  · intro h i hi
    have hi' : i < n := by simpa using hi
    have := h i (List.mem_range.2 hi')
    simp only [List.getElem_replicate]
    simpa using this
  · intro h i hi
    have := h i (by simpa using hi)
    simp only [List.getElem_replicate] at this
    simpa using this
theorem next_sound {f : Nat → Int} (hf : ∀ i, 0 ≤ f i ∧ f i < 256) {L : Nat} {p s n q : Nat} (h : nextF f L p = .ok (s, n, q)) : At f p (strU (textF f s n)) ∧ q = p + (strU (textF f s n)).length ∧ q ≤ L ∧ s = p + 8 := by
  unfold nextF at h
  have hb := Num.num_bd (fun i => f (p + i)) (fun i => hf (p + i)) 8
  obtain ⟨v, hv⟩ : ∃ v : Nat, Num.num (fun i => f (p + i)) 8 = v := ⟨_, (Int.toNat_of_nonneg hb.1).symm⟩
  have h8 := num_be8 hf p v hv
  rw [hv, Int.toNat_natCast] at h
  split at h
  · cases h
  · split at h
    · cases h
    · split at h
      · cases h
      · split at h
        · rename_i hz
          simp only [Except.ok.injEq, Prod.mk.injEq] at h
          obtain ⟨rfl, rfl, rfl⟩ := h
          have hl : (strU (textF f (p + 8) v)).length = 8 + v + fillN v := by rw [strU_length, textF_size]
          refine ⟨?_, by rw [hl]; omega, by omega, rfl⟩
          unfold strU
          rw [textF_size, At.app, At.app]
          have ht : (textF f (p + 8) v).data.toList.length = v := by rw [Array.length_toList]; exact textF_size f (p + 8) v
          refine ⟨⟨h8, by rw [be8_length]; exact text_at hf (p + 8) v⟩, ?_⟩
          rw [List.length_append, be8_length, ht, ← Nat.add_assoc]
          exact (zeros_at _ _).1 hz
        · cases h
theorem next_complete {f : Nat → Int} {L : Nat} {p : Nat} {t : ByteArray} (ht : t.size < 18446744073709551616) (h : At f p (strU t)) (hL : p + (strU t).length ≤ L) : nextF f L p = .ok (p + 8, t.size, p + (strU t).length) ∧ textF f (p + 8) t.size = t := by
  have hl : (strU t).length = 8 + t.size + fillN t.size := strU_length t
  unfold strU at h
  rw [At.app, At.app] at h
  have hd : t.data.toList.length = t.size := by rw [Array.length_toList]; rfl
  rw [List.length_append, be8_length, hd, ← Nat.add_assoc] at h
  have hn := be8_num p t.size ht h.1.1
  refine ⟨?_, at_text (p + 8) t h.1.2⟩
  unfold nextF
  rw [hn, Int.toNat_natCast, if_neg (by omega), if_neg (by omega), if_neg (by omega), if_pos ((zeros_at _ _).2 h.2), hl]
  congr 3
  omega
theorem word_sound {f : Nat → Int} (hf : ∀ i, 0 ≤ f i ∧ f i < 256) {L : Nat} {p q : Nat} {ws : List ByteArray} {w : ByteArray} (h : wordF f L p ws = .ok (w, q)) : w ∈ ws ∧ At f p (strU w) ∧ q = p + (strU w).length ∧ q ≤ L := by
  unfold wordF at h
  split at h
  · cases h
  · rename_i s n q' hn
    split at h
    · rename_i hm
      simp only [Except.ok.injEq, Prod.mk.injEq] at h
      obtain ⟨rfl, rfl⟩ := h
      obtain ⟨h1, h2, h3, _⟩ := next_sound hf hn
      rw [List.any_eq_true] at hm
      obtain ⟨x, hx, he⟩ := hm
      simp only [decide_eq_true_eq] at he
      exact ⟨he ▸ hx, h1, h2, h3⟩
    · cases h
theorem word_complete {f : Nat → Int} {L : Nat} {p : Nat} {ws : List ByteArray} {w : ByteArray} (hw : w.size < 18446744073709551616) (hm : w ∈ ws) (h : At f p (strU w)) (hL : p + (strU w).length ≤ L) : wordF f L p ws = .ok (w, p + (strU w).length) := by
  obtain ⟨h1, h2⟩ := next_complete hw h hL
  unfold wordF
  rw [h1]
  simp only [h2]
  rw [if_pos (List.any_eq_true.2 ⟨w, hm, by simp⟩)]
theorem pass_sound {f : Nat → Int} (hf : ∀ i, 0 ≤ f i ∧ f i < 256) {L : Nat} : ∀ (ws : List ByteArray) {p q : Nat}, passF f L p ws = .ok q → At f p (strsU ws) ∧ q = p + (strsU ws).length ∧ (p ≤ L → q ≤ L)
  | [], p, q, h => by
    simp only [passF, Except.ok.injEq] at h
    subst h
    exact ⟨At.nil f _, rfl, fun h => h⟩
  | w :: ws, p, q, h => by
    simp only [passF] at h
    split at h
    · cases h
    · rename_i w' q' hw
      obtain ⟨h1, h2, h3, h4⟩ := word_sound hf hw
      have e : w' = w := by simpa using h1
      subst e
      obtain ⟨g1, g2, g3⟩ := pass_sound hf ws h
      rw [strsU_cons, At.app, List.length_append]
      exact ⟨⟨h2, h3 ▸ g1⟩, by omega, fun _ => g3 h4⟩
theorem pass_complete {f : Nat → Int} {L : Nat} : ∀ (ws : List ByteArray) {p : Nat}, (∀ w ∈ ws, w.size < 18446744073709551616) → At f p (strsU ws) → p + (strsU ws).length ≤ L → passF f L p ws = .ok (p + (strsU ws).length)
  | [], p, _, _, _ => rfl
  | w :: ws, p, hw, h, hL => by
    rw [strsU_cons, At.app] at h
    rw [strsU_cons, List.length_append] at hL ⊢
    simp only [passF]
    rw [word_complete (hw w (by simp)) (List.mem_cons_self) h.1 (by omega)]
    simp only
    rw [pass_complete ws (fun x hx => hw x (by simp [hx])) h.2 (by omega), Nat.add_assoc]
end Go.Proofs.YtimiginpdkokiaaDoor
