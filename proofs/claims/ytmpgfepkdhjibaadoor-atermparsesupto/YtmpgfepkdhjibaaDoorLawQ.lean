/- My own work: two unlike texts are quoted unlike; a quoted text ends where it ends: the walk of the law. -/
import Derived.Test.YtmpgfepkdhjibaaDoorQuo
namespace Go.Proofs.YtmpgfepkdhjibaaDoor
open Go.RowKit

theorem signN_cases (c : UInt8) : (∃ x, signN c = some x) ∨ (signN c = none ∧ c ≠ 34 ∧ c ≠ 92 ∧ c ≠ 10 ∧ c ≠ 13 ∧ c ≠ 9) := by
  unfold signN
  by_cases h1 : c = 34
  · simp [h1]
  by_cases h2 : c = 92
  · simp [h2]
  by_cases h3 : c = 10
  · simp [h3]
  by_cases h4 : c = 13
  · simp [h4]
  by_cases h5 : c = 9
  · simp [h5]
  · simp [h1, h2, h3, h4, h5]
theorem meant_sign {c x : UInt8} (h : signN c = some x) : meantN x = some c := by
  unfold signN at h
  by_cases h1 : c = 34
  · rw [if_pos h1] at h; cases h; rw [h1]; rfl
  rw [if_neg h1] at h
  by_cases h2 : c = 92
  · rw [if_pos h2] at h; cases h; rw [h2]; rfl
  rw [if_neg h2] at h
  by_cases h3 : c = 10
  · rw [if_pos h3] at h; cases h; rw [h3]; rfl
  rw [if_neg h3] at h
  by_cases h4 : c = 13
  · rw [if_pos h4] at h; cases h; rw [h4]; rfl
  rw [if_neg h4] at h
  by_cases h5 : c = 9
  · rw [if_pos h5] at h; cases h; rw [h5]; rfl
  rw [if_neg h5] at h
  cases h
theorem sign_inj {c c' x : UInt8} (h : signN c = some x) (h' : signN c' = some x) : c = c' := Option.some.inj ((meant_sign h).symm.trans (meant_sign h'))
theorem escU_inj {c c' : UInt8} {r r' : List UInt8} (h : escU c ++ r = escU c' ++ r') : c = c' ∧ r = r' := by
  unfold escU at h
  rcases signN_cases c with ⟨x, hx⟩ | ⟨hx, _, h92, _⟩ <;> rcases signN_cases c' with ⟨x', hx'⟩ | ⟨hx', _, h92', _⟩ <;> rw [hx, hx'] at h
  · simp at h
    obtain ⟨rfl, rfl⟩ := h
    exact ⟨sign_inj hx hx', rfl⟩
  · simp at h
    exact absurd h.1.symm h92'
  · simp at h
    exact absurd h.1 h92
  · simpa using h
theorem escL_cons (c : UInt8) (l : List UInt8) : escL (c :: l) = escU c ++ escL l := by simp [escL]
theorem escL_inj : ∀ {l l' : List UInt8}, escL l = escL l' → l = l'
  | [], [], _ => rfl
  | [], c :: l', h => by
    rw [escL_cons] at h
    have := escU_len c
    have := congrArg List.length h
    simp only [List.length_append, escL, List.flatMap_nil, List.length_nil] at this
    omega
  | c :: l, [], h => by
    rw [escL_cons] at h
    have := escU_len c
    have := congrArg List.length h
    simp only [List.length_append, escL, List.flatMap_nil, List.length_nil] at this
    omega
  | c :: l, c' :: l', h => by
    rw [escL_cons, escL_cons] at h
    obtain ⟨rfl, h2⟩ := escU_inj h
    rw [escL_inj h2]
theorem quoteU_inj {l l' : List UInt8} (h : quoteU l = quoteU l') : l = l' := by
  unfold quoteU at h
  simp only [List.cons_append, List.cons.injEq, true_and] at h
  exact escL_inj (List.append_cancel_right h)
theorem quoteU_split (l : List UInt8) (k : Nat) (h : k < l.length) : quoteU l = (34 :: escL (l.take k)) ++ (escU l[k] ++ (escL (l.drop (k + 1)) ++ [34])) := by
  have e : l = l.take k ++ l[k] :: l.drop (k + 1) := by simp
  have e2 : escL l = escL (l.take k) ++ (escU l[k] ++ escL (l.drop (k + 1))) := by
    conv => lhs; rw [e]
    unfold escL
    rw [List.flatMap_append, List.flatMap_cons]
  unfold quoteU
  rw [e2]
  simp
theorem quoteU_first (l : List UInt8) (k : Nat) (h : k < l.length) : (quoteU l)[1 + (escL (l.take k)).length]? = some (match signN l[k] with | some _ => 92 | none => l[k]) := by
  rw [quoteU_split l k h, List.getElem?_append_right (by simp; omega)]
  have : 1 + (escL (l.take k)).length - (34 :: escL (l.take k)).length = 0 := by simp; omega
  rw [this]
  unfold escU
  cases signN l[k] <;> rfl
/-- The text between quotes, as a text. -/
def quoteS (s : ByteArray) : ByteArray := ⟨(quoteU (bl s)).toArray⟩
theorem quoteS_size (s : ByteArray) : (quoteS s).size = (quoteU (bl s)).length := by simp [quoteS, ByteArray.size]
theorem quoteS_inj {a b : ByteArray} (h : quoteS a = quoteS b) : a = b := by
  unfold quoteS at h
  simp only [ByteArray.mk.injEq] at h
  have := quoteU_inj (List.toArray_inj h)
  cases a
  cases b
  congr
  exact Array.ext' this
theorem u8_of {c : UInt8} {n : Nat} {x : UInt8} (e : (c.toNat : Int) = n) (h : x.toNat = n := by rfl) : c = x := UInt8.toNat_inj.1 (by omega)
theorem quoteS_at (s : ByteArray) (i : Nat) (h : i < (quoteS s).size) {c : UInt8} (hc : (quoteU (bl s))[i]? = some c) : (quoteS s)[i] = c := by
  have h' : i < (quoteU (bl s)).length := by rw [← quoteS_size]; exact h
  rw [List.getElem?_eq_getElem h'] at hc
  exact Option.some.inj hc
theorem quoteS_eq (a b : ByteArray) : ((quoteS a).toList == (quoteS b).toList) = (a.toList == b.toList) := by
  simp only [ByteArray.toList_eq]
  by_cases h : a = b
  · subst h
    simp
  · have h1 : ¬ a.data.toList = b.data.toList := fun e => h (by cases a; cases b; congr; exact Array.ext' e)
    have h2 : ¬ (quoteS a).data.toList = (quoteS b).data.toList := fun e => h (quoteS_inj (by
      generalize quoteS a = x at e ⊢
      generalize quoteS b = y at e ⊢
      cases x; cases y; congr; exact Array.ext' e))
    rw [beq_false_of_ne h1, beq_false_of_ne h2]
set_option maxRecDepth 20000 in
set_option maxHeartbeats 2000000 in
theorem law_quotes (a b : ByteArray) (w : World) (hT : ETab w) (ha : a.size ≤ 1048576) (hb : b.size ≤ 1048576) : Calls Tryd.prog 6 #[.string a, .string b] w fun e w' => e = .returned (.bool true) ∧ Below w.heap.size w w' := by
  have HQ : Hid (∀ (s : ByteArray) wx, ETab wx → s.size ≤ 1048576 → Calls Tryd.prog 17 #[.string s] wx fun e w' => e = .returned (.string (quoteS s)) ∧ Below wx.heap.size wx w') := fun s wx h1 h2 => quote_ok s wx h1 (by omega)
  have HT : Hid (ETab w) := hT
  clear hT
  have h1 := quoteU_len (bl a)
  have hbl := bl_len a
  rw [← quoteS_size, bl_len] at h1
  have heq := quoteS_eq a b
  have X0 : ∃ h : 0 < (quoteS a).size, (quoteS a)[0]'h = 34 := ⟨by omega, quoteS_at a 0 (by omega) rfl⟩
  have X1 : ∃ h : (quoteS a).size - 1 < (quoteS a).size, (quoteS a)[(quoteS a).size - 1]'h = 34 := ⟨by omega, quoteS_at a _ (by omega) (by
    rw [quoteS_size]
    unfold quoteU
    rw [List.getElem?_append_right (by simp)]
    simp)⟩
  have HF : Hid (∀ k (hk : k < a.size), ∃ (h : 1 + (escL ((bl a).take k)).length < (quoteS a).size), 1 + (escL ((bl a).take k)).length < (quoteS a).size - 1 ∧ ∃ c, (quoteS a)[1 + (escL ((bl a).take k)).length]'h = c ∧ c ≠ 34 ∧ c ≠ 10 ∧ (c = 92 → (escL ((bl a).take (k + 1))).length = (escL ((bl a).take k)).length + 2) ∧ (c ≠ 92 → (escL ((bl a).take (k + 1))).length = (escL ((bl a).take k)).length + 1)) := by
    intro k hk
    have hk' : k < (bl a).length := by omega
    have e1 := quoteU_split (bl a) k hk'
    have e2 := congrArg List.length e1
    have e3 := escU_len (bl a)[k]
    have e4 := escL_take (bl a) k hk'
    rw [← quoteS_size] at e2
    simp only [List.length_append, List.length_cons, List.length_nil] at e2
    have hlt : 1 + (escL ((bl a).take k)).length < (quoteS a).size - 1 := by omega
    refine ⟨by omega, hlt, _, quoteS_at a _ (by omega) (quoteU_first (bl a) k hk'), ?_⟩
    rw [e4, List.length_append]
    unfold escU
    rcases signN_cases (bl a)[k] with ⟨x, hx⟩ | ⟨hx, h34, h92, h10, _⟩ <;> simp only [hx]
    · exact ⟨by decide, by decide, fun _ => by simp, fun h => absurd rfl h⟩
    · exact ⟨h34, h10, fun h => absurd h h92, fun _ => by simp⟩
  have HEnd : Hid (1 + (escL ((bl a).take a.size)).length = (quoteS a).size - 1) := by
    show _ = _
    rw [quoteS_size, ← hbl, List.take_length]
    simp [quoteU]
    omega
  have HQa := HQ.out a w HT.out ha
  have HQb : Hid (∀ wx, ETab wx → Calls Tryd.prog 17 #[.string b] wx fun e w' => e = .returned (.string (quoteS b)) ∧ Below wx.heap.size wx w') := fun wx h => HQ.out b wx h hb
  clear HQ
  generalize quoteS a = X at heq X0 X1 HF HEnd HQa h1
  generalize quoteS b = Y at heq HQb
  obtain ⟨y0, x0⟩ := X0
  obtain ⟨y1, x1⟩ := X1
  have hN1 : (X.size : Int) - 1 = ((X.size - 1 : Nat) : Int) := by omega
  have hn1 : ¬ ((X.size : Int) < (a.size : Int) + 2) := by omega
  go_enter Tryd.func6, Tryd.ntmps6
  go_wp2_with fail
  refine Calls.mono HQa ?_
  rintro e w1 ⟨rfl, hb1⟩
  have HT1 : Hid (ETab w1) := HT.out.keep hb1
  have HB1 : Hid (Below w.heap.size w w1) := hb1
  clear hb1 HQa
  go_wp2_with fail
  refine Calls.mono (HQb.out w1 HT1.out) ?_
  rintro e w2 ⟨rfl, hb2⟩
  have HB2 : Hid (Below w.heap.size w w2) := below_next HB1.out hb2
  clear hb2 HB1 HT1 HQb
  go_wp2
  go_loopw [7] (fun iv wx => ∃ (k : Nat), k ≤ a.size ∧ iv = .int .i64 ((1 + (escL ((bl a).take k)).length : Nat) : Int) ∧ Hid (Below w.heap.size w wx)) (fun iv _ => X.size - (intOf iv).toNat)
  case atStart => exact ⟨0, Nat.zero_le _, by simp [escL], HB2⟩
  case round =>
    clear HB2
    obtain ⟨k, hk, rfl, HL⟩ := hrel
    obtain ⟨P, hP⟩ : ∃ P, P = 1 + (escL ((bl a).take k)).length := ⟨_, rfl⟩
    have HPk : Hid (P = 1 + (escL ((bl a).take k)).length) := hP
    by_cases hlt : k < a.size
    · have HF2 : ∃ (h : P < X.size), P < X.size - 1 ∧ ∃ c, X[P]'h = c ∧ c ≠ 34 ∧ c ≠ 10 ∧ (c = 92 → (escL ((bl a).take (k + 1))).length = (escL ((bl a).take k)).length + 2) ∧ (c ≠ 92 → (escL ((bl a).take (k + 1))).length = (escL ((bl a).take k)).length + 1) := by
        rw [hP]
        exact HF.out k hlt
      obtain ⟨h3, h2, c, hc, c34, c10, c92, cn92⟩ := HF2
      rw [← hP]
      clear hP
      have hlt1 : (P : Int) < (X.size : Int) - 1 := by omega
      have C92 : Hid _ := c92
      have CN92 : Hid _ := cn92
      clear c92 cn92
      have e34 : ¬ ((c.toNat : Int) = 34) := fun e => c34 (u8_of e)
      have e10 : ¬ ((c.toNat : Int) = 10) := fun e => c10 (u8_of e)
      have b34 : ((c.toNat : Int) == 34) = false := beq_false_of_ne e34
      have b10 : ((c.toNat : Int) == 10) = false := beq_false_of_ne e10
      by_cases h92 : c = 92
      · have e92 : ((c.toNat : Int) = 92) := by rw [h92]; rfl
        have hnx := C92.out h92
        clear h92
        go_wp2
        go_roundw
        case rel => exact ⟨k + 1, by omega, by rw [hnx]; have := HPk.out; go_num, HL⟩
        case measure => simp [intOf]; omega
      · have e92 : ¬ ((c.toNat : Int) = 92) := fun e => h92 (u8_of e)
        have hnx := CN92.out h92
        have b92 : ((c.toNat : Int) == 92) = false := beq_false_of_ne e92
        clear h92
        go_wp2
        go_roundw
        case rel => exact ⟨k + 1, by omega, by rw [hnx]; have := HPk.out; go_num, HL⟩
        case measure => simp [intOf]; omega
    · obtain rfl : k = a.size := by omega
      have hE := HEnd.out
      rw [← hP] at hE ⊢
      clear hP
      have hlt1 : ¬ ((P : Int) < (X.size : Int) - 1) := by omega
      have hle : (X.size : Int) - (a.size : Int) ≤ (a.size : Int) + 2 := by omega
      go_wp2
      go_ret
      exact ⟨by simp, HL.out⟩
end Go.Proofs.YtmpgfepkdhjibaaDoor
