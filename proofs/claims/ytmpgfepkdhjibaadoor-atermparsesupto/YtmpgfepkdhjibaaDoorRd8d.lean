/- My own work: what is written can be read in one way alone; steps of a reader one behind the other. -/
import Derived.Test.YtmpgfepkdhjibaaDoorRd8c
namespace Go.Proofs.YtmpgfepkdhjibaaDoor
open Go.RowKit

/-- What is written of one is never the start of what is written of another. -/
def PF {α : Type} (E : α → List UInt8) : Prop := ∀ x y r r', E x ++ r = E y ++ r' → x = y ∧ r = r'
theorem bl_inj {a b : ByteArray} (h : bl a = bl b) : a = b := by
  cases a with | mk a =>
  cases b with | mk b =>
  have : a = b := by
    apply Array.toList_inj.1
    simpa [bl] using h
  rw [this]
theorem esc_pf : ∀ (x y : List UInt8) (r r' : List UInt8), escL x ++ 34 :: r = escL y ++ 34 :: r' → x = y ∧ r = r' := by
  intro x
  induction x with
  | nil =>
    intro y r r' h
    cases y with
    | nil => simpa [escL] using h
    | cons c y =>
      exfalso
      rw [escL_cons] at h
      unfold escU at h
      rcases signN_cases c with ⟨z, hz⟩ | ⟨hz, h34, _⟩
      · rw [hz] at h
        simp [escL] at h
      · rw [hz] at h
        simp [escL] at h
        exact h34 h.1.symm
  | cons c x ih =>
    intro y r r' h
    cases y with
    | nil =>
      exfalso
      rw [escL_cons] at h
      unfold escU at h
      rcases signN_cases c with ⟨z, hz⟩ | ⟨hz, h34, _⟩
      · rw [hz] at h
        simp [escL] at h
      · rw [hz] at h
        simp [escL] at h
        exact h34 h.1
    | cons c' y =>
      rw [escL_cons, escL_cons, List.append_assoc, List.append_assoc] at h
      obtain ⟨rfl, h2⟩ := escU_inj h
      obtain ⟨rfl, h3⟩ := ih y r r' h2
      exact ⟨rfl, h3⟩
theorem strE_pf : PF strE := fun x y r r' h => by
  simp only [strE, quoteU, List.cons_append, List.cons.injEq, true_and, List.append_assoc, List.nil_append] at h
  obtain ⟨h1, h2⟩ := esc_pf _ _ _ _ h
  exact ⟨bl_inj h1, h2⟩
theorem strE_head (x : ByteArray) : ∃ t, strE x = 34 :: t := ⟨_, rfl⟩
/-- One behind the other. -/
def seqE {α β : Type} (E : α → List UInt8) (F : β → List UInt8) (x : α × β) : List UInt8 := E x.1 ++ F x.2
theorem seq_pf {α β : Type} {E : α → List UInt8} {F : β → List UInt8} (h1 : PF E) (h2 : PF F) : PF (seqE E F) := fun x y r r' h => by
  simp only [seqE, List.append_assoc] at h
  obtain ⟨e1, e2⟩ := h1 _ _ _ _ h
  obtain ⟨e3, e4⟩ := h2 _ _ _ _ e2
  exact ⟨Prod.ext e1 e3, e4⟩
/-- Signs alone. -/
def conE (X : List UInt8) (_ : Unit) : List UInt8 := X
theorem con_pf (X : List UInt8) : PF (conE X) := fun _ _ _ _ h => ⟨rfl, List.append_cancel_left h⟩
/-- How a reader's step ends. -/
def Oc {α : Type} (E : α → List UInt8) (s : ByteArray) (p : Nat) (b : Bool) (x : α) (p' : Nat) (b' : Bool) : Prop :=
  (b = true → b' = true) ∧ (b = false → (b' = false ∧ (bl s).drop p = E x ++ (bl s).drop p') ∨ (b' = true ∧ ∀ y r, (bl s).drop p ≠ E y ++ r))
theorem Oc.seq {α β : Type} {E : α → List UInt8} {F : β → List UInt8} {s : ByteArray} {p p' p'' : Nat} {b b' b'' : Bool} {x : α} {y : β} (h1 : Oc E s p b x p' b') (hp : PF E) (h2 : Oc F s p' b' y p'' b'') : Oc (seqE E F) s p b (x, y) p'' b'' := by
  refine ⟨fun h => h2.1 (h1.1 h), fun hb => ?_⟩
  rcases h1.2 hb with ⟨e1, e2⟩ | ⟨e1, e2⟩
  · rcases h2.2 e1 with ⟨e3, e4⟩ | ⟨e3, e4⟩
    · refine .inl ⟨e3, ?_⟩
      rw [e2, e4]
      simp [seqE]
    · refine .inr ⟨e3, fun z r e => ?_⟩
      rw [e2] at e
      simp only [seqE, List.append_assoc] at e
      exact e4 _ _ (hp _ _ _ _ e).2
  · exact .inr ⟨h2.1 e1, fun z r e => e2 z.1 (F z.2 ++ r) (by rw [e]; simp [seqE])⟩
theorem Oc.map {α β : Type} {E : α → List UInt8} {F : β → List UInt8} {s : ByteArray} {p p' : Nat} {b b' : Bool} {x : α} (h : Oc E s p b x p' b') (f : α → β) (k : β → α) (h1 : ∀ x, F (f x) = E x) (h2 : ∀ y, E (k y) = F y) : Oc F s p b (f x) p' b' := by
  refine ⟨h.1, fun hb => ?_⟩
  rcases h.2 hb with ⟨e1, e2⟩ | ⟨e1, e2⟩
  · exact .inl ⟨e1, by rw [h1]; exact e2⟩
  · exact .inr ⟨e1, fun y r e => e2 (k y) r (by rw [h2]; exact e)⟩
theorem pf_map {α β : Type} {E : α → List UInt8} {F : β → List UInt8} (h : PF E) (k : β → α) (hk : ∀ y z, k y = k z → y = z) (h2 : ∀ y, E (k y) = F y) : PF F := fun x y r r' e => by
  rw [← h2, ← h2] at e
  obtain ⟨e1, e2⟩ := h _ _ _ _ e
  exact ⟨hk _ _ e1, e2⟩
theorem pre_yes {p t : List UInt8} (h : preB p t = true) : t = p ++ t.drop p.length := by
  unfold preB at h
  have h' : t.take p.length = p := by simpa using h
  conv => lhs; rw [← List.take_append_drop p.length t, h']
theorem pre_no {p t : List UInt8} (h : preB p t = false) (r : List UInt8) : t ≠ p ++ r := fun e => by
  rw [e] at h
  unfold preB at h
  simp at h
/-- Signs passed by. -/
theorem passq_ok (g : Nat) (s : ByteArray) (p : Nat) (b : Bool) (x : ByteArray) (w : World) (h : Rq w g s p b) : Calls Tryd.prog 59 #[.pointer (some ⟨g, 0, none⟩), .string x] w fun r w' => (∃ v, r = .returned v) ∧ Gr g w w' ∧ ∃ p' b', Rq w' g s p' b' ∧ Oc (conE (bl x)) s p b () p' b' := by
  refine Calls.mono (pass_ok g s p _ x w h) ?_
  rintro r w' ⟨h1, h2, h3⟩
  refine ⟨h1, h3, ?_⟩
  cases b with
  | true => exact ⟨p, true, h2, fun _ => rfl, fun e => absurd e (by decide)⟩
  | false =>
    have hs : seesB s p none (bl x) = preB (bl x) ((bl s).drop p) := by simp [seesB]
    have h2' : Rd w' g s (passE s p none (bl x)).1 (passE s p none (bl x)).2 := h2
    unfold passE at h2'
    rw [hs] at h2'
    cases hq : preB (bl x) ((bl s).drop p) with
    | true =>
      rw [hq] at h2'
      refine ⟨p + (bl x).length, false, h2', fun e => absurd e (by decide), fun _ => .inl ⟨rfl, ?_⟩⟩
      have := pre_yes hq
      rw [List.drop_drop] at this
      exact this
    | false =>
      rw [hq] at h2'
      exact ⟨p, true, h2', fun _ => rfl, fun _ => .inr ⟨rfl, fun _ r => pre_no hq r⟩⟩
/-- What a reader's call tells, by its end. -/
def Reads2 {α : Type} (E : α → List UInt8) (V : World → Value → α → Prop) (g : Nat) (s : ByteArray) (p : Nat) (b : Bool) (w : World) (r : Ending) (w' : World) : Prop :=
  Gr g w w' ∧ ∃ v x p' b', r = .returned v ∧ V w' v x ∧ Rq w' g s p' b' ∧ Oc E s p b x p' b'
theorem Reads.two {α : Type} {E : α → List UInt8} {V : World → Value → α → Prop} {g : Nat} {s : ByteArray} {p : Nat} {b : Bool} {w w' : World} {r : Ending} (h : Reads E V g s p b w r w') : Reads2 E V g s p b w r w' := by
  obtain ⟨h1, v, x, e, hv, ⟨e1, p', e2, e3⟩ | ⟨p', e2, e3⟩⟩ := h
  · exact ⟨h1, v, x, p', false, e, hv, e2, fun h => absurd (e1.symm.trans h) (by decide), fun _ => .inl ⟨rfl, e3⟩⟩
  · exact ⟨h1, v, x, p', true, e, hv, e2, fun _ => rfl, fun h => .inr ⟨rfl, e3 h⟩⟩
theorem rtext2_ok (g : Nat) (s : ByteArray) (p : Nat) (b : Bool) (w : World) (h : Rq w g s p b) (hT : ETab w) (hg : 0 ≠ g) : Calls Tryd.prog 65 #[.pointer (some ⟨g, 0, none⟩)] w fun r w' => Reads2 strE (fun _ v x => v = .string x) g s p b w r w' :=
  Calls.mono (rtext_ok g s p b w h hT hg) (fun _ _ h => h.two)
/-- What lists go on with. -/
def comU {α : Type} (E : α → List UInt8) (l : List α) : List UInt8 := l.flatMap fun x => 44 :: E x
def goOn {α : Type} (E : α → List UInt8) (l y : List α) : List UInt8 := if l = [] then sepU (y.map E) else comU E y
theorem sepU_cons {α : Type} (E : α → List UInt8) (x : α) (l : List α) : sepU ((x :: l).map E) = E x ++ comU E l := by
  simp [sepU, comU, List.flatMap_map]
theorem com_rest {α : Type} {E : α → List UInt8} (hp : PF E) : ∀ (l y : List α) (rest r : List UInt8), comU E l ++ rest = comU E y ++ 93 :: r → ∃ y', y = l ++ y' ∧ rest = comU E y' ++ 93 :: r := by
  intro l
  induction l with
  | nil => intro y rest r h; exact ⟨y, rfl, by simpa [comU] using h⟩
  | cons a l ih =>
    intro y rest r h
    cases y with
    | nil => simp [comU] at h
    | cons c y =>
      simp only [comU, List.flatMap_cons, List.cons_append, List.cons.injEq, true_and, List.append_assoc] at h
      obtain ⟨rfl, h2⟩ := hp _ _ _ _ h
      obtain ⟨y', e1, e2⟩ := ih y rest r h2
      exact ⟨y', by rw [e1]; rfl, e2⟩
theorem list_rest {α : Type} {E : α → List UInt8} (hp : PF E) (hh : ∀ x, ∃ c t, E x = c :: t ∧ c ≠ 93) (l y : List α) (rest r : List UInt8) (h : sepU (l.map E) ++ rest = sepU (y.map E) ++ 93 :: r) : ∃ y', y = l ++ y' ∧ rest = goOn E l y' ++ 93 :: r := by
  cases l with
  | nil => exact ⟨y, rfl, by simpa [goOn, sepU] using h⟩
  | cons a l =>
    cases y with
    | nil =>
      obtain ⟨c, t, e, hc⟩ := hh a
      rw [sepU_cons, e] at h
      simp [sepU] at h
      exact absurd h.1 hc
    | cons c y =>
      rw [sepU_cons, sepU_cons, List.append_assoc, List.append_assoc] at h
      obtain ⟨rfl, h2⟩ := hp _ _ _ _ h
      obtain ⟨y', e1, e2⟩ := com_rest hp l y rest r h2
      exact ⟨y', by rw [e1]; rfl, by simpa [goOn] using e2⟩
def lstE {α : Type} (E : α → List UInt8) (l : List α) : List UInt8 := listU (l.map E)
theorem lst_pf {α : Type} {E : α → List UInt8} (hp : PF E) (hh : ∀ x, ∃ c t, E x = c :: t ∧ c ≠ 93) : PF (lstE E) := fun x y r r' h => by
  simp only [lstE, listU, List.cons_append, List.cons.injEq, true_and, List.append_assoc, List.nil_append] at h
  obtain ⟨y', e1, e2⟩ := list_rest hp hh x y _ _ h
  cases y' with
  | nil =>
    refine ⟨by simpa using e1.symm, ?_⟩
    unfold goOn at e2
    split at e2 <;> simpa [sepU, comU] using e2
  | cons c y' =>
    exfalso
    unfold goOn at e2
    split at e2
    · obtain ⟨d, t, e, hc⟩ := hh c
      rw [sepU_cons, e] at e2
      simp at e2
      exact hc e2.1.symm
    · simp [comU] at e2
theorem sepU_snoc {α : Type} (E : α → List UInt8) (l : List α) (x : α) : sepU ((l ++ [x]).map E) = sepU (l.map E) ++ goOn E l [x] := by
  cases l with
  | nil => simp [goOn, sepU]
  | cons a l =>
    rw [List.cons_append, sepU_cons, sepU_cons]
    simp [goOn, comU]
/-- While a list is read. -/
def Lc {α : Type} (E : α → List UInt8) (s : ByteArray) (p : Nat) (b : Bool) (l : List α) (p' : Nat) (b' : Bool) : Prop :=
  (b = true → b' = true) ∧ (b = false → (b' = false ∧ (bl s).drop p = 91 :: (sepU (l.map E) ++ (bl s).drop p')) ∨ (b' = true ∧ ∀ y r, (bl s).drop p ≠ lstE E y ++ r))
theorem Lc.start {α : Type} {E : α → List UInt8} {s : ByteArray} {p p' : Nat} {b b' : Bool} (h : Oc (conE [91]) s p b () p' b') : Lc E s p b [] p' b' := by
  refine ⟨h.1, fun hb => ?_⟩
  rcases h.2 hb with ⟨e1, e2⟩ | ⟨e1, e2⟩
  · exact .inl ⟨e1, by rw [e2]; rfl⟩
  · exact .inr ⟨e1, fun y r e => e2 () (sepU (y.map E) ++ 93 :: r) (by rw [e]; simp [lstE, listU, conE])⟩
theorem Lc.rest {α : Type} {E : α → List UInt8} (hp : PF E) (hh : ∀ x, ∃ c t, E x = c :: t ∧ c ≠ 93) {s : ByteArray} {p p' : Nat} {l : List α} (hd : (bl s).drop p = 91 :: (sepU (l.map E) ++ (bl s).drop p')) {y : List α} {r : List UInt8} (e : (bl s).drop p = lstE E y ++ r) : ∃ y', y = l ++ y' ∧ (bl s).drop p' = goOn E l y' ++ 93 :: r := by
  rw [hd] at e
  simp only [lstE, listU, List.cons_append, List.cons.injEq, true_and, List.append_assoc, List.nil_append] at e
  exact list_rest hp hh l y _ _ e
/-- The first element. -/
theorem Lc.one {α : Type} {E : α → List UInt8} (hp : PF E) (hh : ∀ x, ∃ c t, E x = c :: t ∧ c ≠ 93) {s : ByteArray} {p p' p'' : Nat} {b b'' : Bool} {x : α} (h : Lc E s p b [] p' false) (h93 : ((bl s).drop p').head? ≠ some 93) (h2 : Oc E s p' false x p'' b'') : Lc E s p b [x] p'' b'' := by
  have hb : b = false := by
    cases b with
    | false => rfl
    | true => exact absurd (h.1 rfl) (by decide)
  refine ⟨fun e => absurd (hb.symm.trans e) (by decide), fun _ => ?_⟩
  rcases h.2 hb with ⟨_, e2⟩ | ⟨e1, _⟩
  · rcases h2.2 rfl with ⟨e3, e4⟩ | ⟨e3, e4⟩
    · refine .inl ⟨e3, ?_⟩
      rw [e2, e4]
      simp [sepU]
    · refine .inr ⟨e3, fun y r e => ?_⟩
      obtain ⟨y', _, e6⟩ := Lc.rest hp hh e2 e
      cases y' with
      | nil =>
        apply h93
        rw [e6]
        rfl
      | cons c y' =>
        simp only [goOn, if_true] at e6
        rw [sepU_cons, List.append_assoc] at e6
        exact e4 _ _ e6
  · exact absurd e1 (by decide)
/-- One more, behind a comma. -/
theorem Lc.more {α : Type} {E : α → List UInt8} (hp : PF E) (hh : ∀ x, ∃ c t, E x = c :: t ∧ c ≠ 93) {s : ByteArray} {p p' p1 p'' : Nat} {b b1 b'' : Bool} {l : List α} (hl : l ≠ []) {x : α} (h : Lc E s p b l p' false) (h93 : ((bl s).drop p').head? ≠ some 93) (h1 : Oc (conE [44]) s p' false () p1 b1) (h2 : Oc E s p1 b1 x p'' b'') : Lc E s p b (l ++ [x]) p'' b'' := by
  have hb : b = false := by
    cases b with
    | false => rfl
    | true => exact absurd (h.1 rfl) (by decide)
  refine ⟨fun e => absurd (hb.symm.trans e) (by decide), fun _ => ?_⟩
  rcases h.2 hb with ⟨_, e2⟩ | ⟨e1, _⟩
  · have hs := Oc.seq h1 (con_pf _) h2
    rcases hs.2 rfl with ⟨e3, e4⟩ | ⟨e3, e4⟩
    · refine .inl ⟨e3, ?_⟩
      rw [e2, e4, sepU_snoc]
      simp [goOn, hl, comU, seqE, conE]
    · refine .inr ⟨e3, fun y r e => ?_⟩
      obtain ⟨y', _, e6⟩ := Lc.rest hp hh e2 e
      cases y' with
      | nil =>
        apply h93
        rw [e6]
        simp [goOn, hl, comU]
      | cons c y' =>
        apply e4 ((), c) (comU E y' ++ 93 :: r)
        rw [e6]
        simp [goOn, hl, comU, seqE, conE]
  · exact absurd e1 (by decide)
/-- The list's end. -/
theorem Lc.done {α : Type} {E : α → List UInt8} {s : ByteArray} {p p' p'' : Nat} {b b'' : Bool} {l : List α} (h : Lc E s p b l p' false) (h93 : ((bl s).drop p').head? = some 93) (h2 : Oc (conE [93]) s p' false () p'' b'') : Oc (lstE E) s p b l p'' b'' := by
  have hb : b = false := by
    cases b with
    | false => rfl
    | true => exact absurd (h.1 rfl) (by decide)
  refine ⟨fun e => absurd (hb.symm.trans e) (by decide), fun _ => ?_⟩
  rcases h.2 hb with ⟨_, e2⟩ | ⟨e1, _⟩
  · rcases h2.2 rfl with ⟨e3, e4⟩ | ⟨e3, e4⟩
    · refine .inl ⟨e3, ?_⟩
      rw [e2, e4]
      simp [lstE, listU, conE]
    · exfalso
      cases hd : (bl s).drop p' with
      | nil => rw [hd] at h93; cases h93
      | cons c t =>
        rw [hd] at h93
        simp at h93
        exact e4 () t (by rw [hd, h93]; rfl)
  · exact absurd e1 (by decide)
theorem Lc.bad {α : Type} {E : α → List UInt8} {s : ByteArray} {p p' p'' : Nat} {b b'' : Bool} {l : List α} (h : Lc E s p b l p' true) (h2 : Oc (conE [93]) s p' true () p'' b'') : Oc (lstE E) s p b l p'' b'' := by
  have hb : b'' = true := h2.1 rfl
  refine ⟨fun _ => hb, fun hf => ?_⟩
  rcases h.2 hf with ⟨e1, _⟩ | ⟨_, e2⟩
  · exact absurd e1 (by decide)
  · exact .inr ⟨hb, e2⟩
/-- A list is no longer than the text. -/
theorem Lc.len {α : Type} {E : α → List UInt8} (hh : ∀ x, ∃ c t, E x = c :: t ∧ c ≠ 93) {s : ByteArray} {p p' : Nat} {b : Bool} {l : List α} (h : Lc E s p b l p' false) : l.length ≤ s.size := by
  have hb : b = false := by
    cases b with
    | false => rfl
    | true => exact absurd (h.1 rfl) (by decide)
  rcases h.2 hb with ⟨_, e2⟩ | ⟨e1, _⟩
  · have h1 := congrArg List.length e2
    have h2 := bl_len s
    have h3 : ∀ l : List α, l.length ≤ (comU E l).length := by
      intro l
      induction l with
      | nil => simp
      | cons a l ih =>
        simp only [comU, List.flatMap_cons, List.length_append, List.length_cons] at ih ⊢
        omega
    have h4 : l.length ≤ (sepU (l.map E)).length := by
      cases l with
      | nil => simp
      | cons a l =>
        obtain ⟨c, t, e, _⟩ := hh a
        rw [sepU_cons, e]
        have := h3 l
        simp only [List.length_append, List.length_cons]
        omega
    simp only [List.length_drop, List.length_cons, List.length_append] at h1
    omega
  · exact absurd e1 (by decide)
/-- What is read is shorter. -/
theorem Oc.lt {α : Type} {E : α → List UInt8} (hh : ∀ x, ∃ c t, E x = c :: t ∧ c ≠ 93) {s : ByteArray} {p p' : Nat} {x : α} (h : Oc E s p false x p' false) (hp : p ≤ s.size) (hp' : p' ≤ s.size) : p < p' := by
  rcases h.2 rfl with ⟨_, e2⟩ | ⟨e1, _⟩
  · have h1 := congrArg List.length e2
    have h2 := bl_len s
    obtain ⟨c, t, e, _⟩ := hh x
    rw [e] at h1
    simp only [List.length_drop, List.length_cons, List.length_append] at h1
    omega
  · exact absurd e1 (by decide)
theorem Oc.le {α : Type} {E : α → List UInt8} {s : ByteArray} {p p' : Nat} {x : α} (h : Oc E s p false x p' false) (hp : p ≤ s.size) (hp' : p' ≤ s.size) : p ≤ p' := by
  rcases h.2 rfl with ⟨_, e2⟩ | ⟨e1, _⟩
  · have h1 := congrArg List.length e2
    have h2 := bl_len s
    simp only [List.length_drop, List.length_append] at h1
    omega
  · exact absurd e1 (by decide)
end Go.Proofs.YtmpgfepkdhjibaaDoor
