/- My own work: nodes that are read: what is read is the node's archive, and a node's archive is read as it. -/
import Derived.Test.YtimiginpdkokiaaDoorDecM
namespace Go.Proofs.YtimiginpdkokiaaDoor
open Go.RowKit

theorem ok_inj {α : Type} {x y : α} (h : (Except.ok x : Except Int α) = .ok y) : x = y := by simpa using h
theorem small_word {w : ByteArray} (h : w.size ≤ 20) : w.size < 18446744073709551616 := by omega
/-- What a node that was read is. -/
structure Read (f : Nat → Int) (L p : Nat) (n : Nd) (q : Nat) : Prop where
  at' : At f p (encN n)
  len : q = p + (encN n).length
  le : q ≤ L
  many : 72 * n.count ≤ (encN n).length
theorem data_sound {f : Nat → Int} (hf : ∀ i, 0 ≤ f i ∧ f i < 256) {L p q : Nat} {k : Int} {e : Bool} {n : Nd} (h : dataF f L p k e = .ok (n, q)) : ∃ d, n = .mk k e d [] [] ∧ At f p (strU d ++ strsU [wShut]) ∧ q = p + (strU d ++ strsU [wShut]).length ∧ q ≤ L := by
  unfold dataF at h
  split at h
  · cases h
  · rename_i s m q1 h1
    split at h
    · cases h
    · rename_i q2 h2
      have h' := ok_inj h
      simp only [Prod.mk.injEq] at h'
      obtain ⟨rfl, rfl⟩ := h'
      obtain ⟨a1, a2, a3, _⟩ := next_sound hf h1
      obtain ⟨b1, b2, b3⟩ := pass_sound hf _ h2
      refine ⟨_, rfl, At.app.2 ⟨a1, a2 ▸ b1⟩, ?_, b3 a3⟩
      rw [List.length_append]
      omega
theorem strsU_two (a b : ByteArray) : strsU [a, b] = strU a ++ strU b := by rw [strsU_cons, strsU_one]
theorem strsU_three (a b c : ByteArray) : strsU [a, b, c] = strU a ++ (strU b ++ strU c) := by rw [strsU_cons, strsU_two]
theorem file_sound {f : Nat → Int} (hf : ∀ i, 0 ≤ f i ∧ f i < 256) {L p q : Nat} {n : Nd} (h : fileF f L p = .ok (n, q)) : ∃ e d, n = .mk 1 e d [] [] ∧ At f p ((if e then strsU [wExec, wNone] else []) ++ (strsU [wData, d] ++ strsU [wShut])) ∧ q = p + ((if e then strsU [wExec, wNone] else []) ++ (strsU [wData, d] ++ strsU [wShut])).length ∧ q ≤ L := by
  unfold fileF at h
  split at h
  · cases h
  · rename_i w q1 h1
    obtain ⟨a1, a2, a3, a4⟩ := word_sound hf h1
    split at h
    · rename_i he
      subst he
      split at h
      · cases h
      · rename_i q2 h2
        obtain ⟨b1, b2, b3⟩ := pass_sound hf _ h2
        obtain ⟨d, rfl, d1, d2, d3⟩ := data_sound hf h
        refine ⟨true, d, rfl, ?_, ?_, d3⟩
        · rw [if_pos rfl, strsU_two, strsU_two]
          rw [strsU_two] at b1 b2
          simp only [List.append_assoc] at d1 ⊢
          rw [At.app] at b1
          refine At.app.2 ⟨a2, At.app.2 ⟨a3 ▸ b1.1, At.app.2 ⟨a3 ▸ b1.2, ?_⟩⟩⟩
          rw [List.length_append] at b2
          rw [show p + (strU wExec).length + (strU wNone).length + (strU wData).length = q2 by omega]
          exact d1
        · rw [if_pos rfl, strsU_two, strsU_two]
          rw [strsU_two] at b2
          simp only [List.length_append] at b2 d2 ⊢
          omega
    · rename_i he
      have hw : w = wData := by
        simp only [List.mem_cons, List.not_mem_nil, or_false] at a1
        rcases a1 with h | h
        · exact absurd h he
        · exact h
      subst hw
      obtain ⟨d, rfl, d1, d2, d3⟩ := data_sound hf h
      refine ⟨false, d, rfl, ?_, ?_, d3⟩
      · simp only [Bool.false_eq_true, if_false, List.nil_append]
        rw [strsU_two, List.append_assoc]
        exact At.app.2 ⟨a2, a3 ▸ d1⟩
      · simp only [Bool.false_eq_true, if_false, List.nil_append]
        rw [strsU_two]
        simp only [List.length_append] at d2 ⊢
        omega
theorem link_sound {f : Nat → Int} (hf : ∀ i, 0 ≤ f i ∧ f i < 256) {L p q : Nat} {n : Nd} (h : linkF f L p = .ok (n, q)) : ∃ d, n = .mk 3 false d [] [] ∧ At f p (strsU [wTarget, d] ++ strsU [wShut]) ∧ q = p + (strsU [wTarget, d] ++ strsU [wShut]).length ∧ q ≤ L := by
  unfold linkF at h
  split at h
  · cases h
  · rename_i q1 h1
    obtain ⟨a1, a2, a3⟩ := pass_sound hf _ h1
    obtain ⟨d, rfl, d1, d2, d3⟩ := data_sound hf h
    rw [strsU_one] at a1 a2
    refine ⟨d, rfl, ?_, ?_, d3⟩
    · rw [strsU_two, List.append_assoc]
      exact At.app.2 ⟨a1, a2 ▸ d1⟩
    · rw [strsU_two]
      simp only [List.length_append] at d2 ⊢
      omega
theorem entry_sound {f : Nat → Int} (hf : ∀ i, 0 ≤ f i ∧ f i < 256) {L : Nat} {rec : Nat → Except Int (Nd × Nat)} (hr : ∀ p n q, rec p = .ok (n, q) → Read f L p n q) {p q : Nat} {nm : ByteArray} {kd : Nd} (h : entryF rec f L p = .ok (nm, kd, q)) :
    At f p (strsU [wOpen, wName, nm, wNode] ++ (encN kd ++ strsU [wShut])) ∧ q = p + (strsU [wOpen, wName, nm, wNode] ++ (encN kd ++ strsU [wShut])).length ∧ q ≤ L ∧ 72 * kd.count ≤ (encN kd).length := by
  unfold entryF at h
  split at h
  · cases h
  · rename_i q1 h1
    split at h
    · cases h
    · rename_i s m q2 h2
      split at h
      · cases h
      · rename_i q3 h3
        split at h
        · cases h
        · rename_i kd' q4 h4
          split at h
          · cases h
          · rename_i q5 h5
            have h' := ok_inj h
            simp only [Prod.mk.injEq] at h'
            obtain ⟨rfl, rfl, rfl⟩ := h'
            obtain ⟨a1, a2, _⟩ := pass_sound hf _ h1
            obtain ⟨b1, b2, b3, _⟩ := next_sound hf h2
            obtain ⟨c1, c2, _⟩ := pass_sound hf _ h3
            have r := hr _ _ _ h4
            obtain ⟨e1, e2, e3⟩ := pass_sound hf _ h5
            have r1 := r.at'
            have r2 := r.len
            have r3 := r.le
            rw [strsU_two] at a1 a2
            rw [strsU_one] at c1 c2 e1 e2
            have hx : strsU [wOpen, wName, textF f s m, wNode] = strU wOpen ++ (strU wName ++ (strU (textF f s m) ++ strU wNode)) := by rw [strsU_cons, strsU_three]
            rw [At.app] at a1
            rw [hx, strsU_one]
            simp only [List.length_append] at a2 ⊢
            simp only [List.append_assoc]
            refine ⟨At.app.2 ⟨a1.1, At.app.2 ⟨a1.2, At.app.2 ⟨?_, At.app.2 ⟨?_, At.app.2 ⟨?_, ?_⟩⟩⟩⟩⟩, by omega, e3 r3, r.many⟩
            · rw [show p + (strU wOpen).length + (strU wName).length = q1 by omega]; exact b1
            · rw [show p + (strU wOpen).length + (strU wName).length + (strU (textF f s m)).length = q2 by omega]; exact c1
            · rw [show p + (strU wOpen).length + (strU wName).length + (strU (textF f s m)).length + (strU wNode).length = q3 by omega]; exact r1
            · rw [show p + (strU wOpen).length + (strU wName).length + (strU (textF f s m)).length + (strU wNode).length + (encN kd').length = q4 by omega]; exact e1
theorem encL_snoc : ∀ (ks : List Nd) (ns : List ByteArray) (k : Nd) (n : ByteArray), ks.length = ns.length → encL (ks ++ [k]) (ns ++ [n]) = encL ks ns ++ (strsU [wEntry, wOpen, wName, n, wNode] ++ (encN k ++ strsU [wShut]))
  | [], [], k, n, _ => by
    show encL [k] [n] = encL [] [] ++ _
    rw [encL_nil, List.nil_append]
    conv => lhs; unfold encL
    rw [encL_nil, List.append_nil]
    rfl
  | a :: ks, b :: ns, k, n, h => by
    have ih := encL_snoc ks ns k n (by simpa using h)
    show encL (a :: (ks ++ [k])) (b :: (ns ++ [n])) = encL (a :: ks) (b :: ns) ++ _
    conv => lhs; unfold encL
    conv => rhs; unfold encL
    simp only [List.headD_cons, List.tail_cons, List.append_assoc]
    rw [ih]
theorem countL_snoc : ∀ (ks : List Nd) (k : Nd), Nd.countL (ks ++ [k]) = Nd.countL ks + k.count
  | [], k => by simp only [List.nil_append, Nd.countL]; omega
  | a :: ks, k => by
    have := countL_snoc ks k
    simp only [List.cons_append, Nd.countL]
    omega
theorem dir_sound {f : Nat → Int} (hf : ∀ i, 0 ≤ f i ∧ f i < 256) {L : Nat} {rec : Nat → Except Int (Nd × Nat)} (hr : ∀ p n q, rec p = .ok (n, q) → Read f L p n q) : ∀ (fuel : Nat) {p q : Nat} {ns : List ByteArray} {ks : List Nd} {n : Nd} (p0 : Nat), dirF rec f L fuel p ns ks = .ok (n, q) → ks.length = ns.length → At f p0 (encL ks ns) → p = p0 + (encL ks ns).length → 72 * Nd.countL ks ≤ (encL ks ns).length →
    ∃ ns' ks', n = .mk 2 false ⟨#[]⟩ ns' ks' ∧ ks'.length = ns'.length ∧ At f p0 (encL ks' ns' ++ strsU [wShut]) ∧ q = p0 + (encL ks' ns' ++ strsU [wShut]).length ∧ q ≤ L ∧ 72 * Nd.countL ks' ≤ (encL ks' ns').length
  | 0, _, _, _, _, _, _, h, _, _, _, _ => by unfold dirF at h; cases h
  | fuel + 1, p, q, ns, ks, n, p0, h, hl, hat, hp, hc => by
    unfold dirF at h
    split at h
    · cases h
    · rename_i w q1 h1
      obtain ⟨a1, a2, a3, a4⟩ := word_sound hf h1
      split at h
      · rename_i hw
        have h' := ok_inj h
        simp only [Prod.mk.injEq] at h'
        obtain ⟨rfl, rfl⟩ := h'
        subst hw
        refine ⟨ns, ks, rfl, hl, ?_, ?_, a4, hc⟩
        · rw [strsU_one]
          exact At.app.2 ⟨hat, hp ▸ a2⟩
        · rw [strsU_one, List.length_append]
          omega
      · rename_i hw
        have he : w = wEntry := by
          simp only [List.mem_cons, List.not_mem_nil, or_false] at a1
          rcases a1 with h | h
          · exact h
          · exact absurd h hw
        subst he
        split at h
        · cases h
        · rename_i nm kd q2 h2
          obtain ⟨b1, b2, b3, b4⟩ := entry_sound hf hr h2
          have hx : strsU [wEntry, wOpen, wName, nm, wNode] ++ (encN kd ++ strsU [wShut]) = strU wEntry ++ (strsU [wOpen, wName, nm, wNode] ++ (encN kd ++ strsU [wShut])) := by rw [strsU_cons, List.append_assoc]
          have hlen : (encL (ks ++ [kd]) (ns ++ [nm])).length = (encL ks ns).length + ((strU wEntry).length + (strsU [wOpen, wName, nm, wNode] ++ (encN kd ++ strsU [wShut])).length) := by rw [encL_snoc ks ns kd nm hl, hx]; simp only [List.length_append]
          refine dir_sound hf hr fuel p0 h (by simp [hl]) ?_ (by rw [hlen]; omega) ?_
          · rw [encL_snoc ks ns kd nm hl, hx]
            exact At.app.2 ⟨hat, At.app.2 ⟨hp ▸ a2, by rw [← hp, ← a3]; exact b1⟩⟩
          · rw [countL_snoc, hlen]
            simp only [List.length_append]
            omega
theorem node_sound {f : Nat → Int} (hf : ∀ i, 0 ≤ f i ∧ f i < 256) {L : Nat} : ∀ (k p : Nat) (n : Nd) (q : Nat), nodeF f L k p = .ok (n, q) → Read f L p n q
  | 0, p, n, q, h => by
    unfold nodeF at h
    split at h <;> cases h
  | k + 1, p, n, q, h => by
    unfold nodeF at h
    split at h
    · cases h
    · rename_i q1 h1
      split at h
      · cases h
      · rename_i q2 h2
        split at h
        · cases h
        · rename_i w q3 h3
          obtain ⟨a1, a2, _⟩ := pass_sound hf _ h1
          obtain ⟨b1, b2, _⟩ := pass_sound hf _ h2
          obtain ⟨c1, c2, c3, c4⟩ := word_sound hf h3
          rw [strsU_one] at a1 a2 b1 b2
          have hh : At f p (strsU [wOpen, wType]) := by rw [strsU_two]; exact At.app.2 ⟨a1, a2 ▸ b1⟩
          have hq2 : q2 = p + (strsU [wOpen, wType]).length := by rw [strsU_two, List.length_append]; omega
          have e32 : (strsU [wOpen, wType]).length = 32 := rfl
          have e16 : (strsU [wShut]).length = 16 := rfl
          split at h
          · rename_i hw
            subst hw
            obtain ⟨e, d, rfl, d1, d2, d3⟩ := file_sound hf h
            have hx : encN (.mk 1 e d [] []) = strsU [wOpen, wType] ++ (strU wFile ++ ((if e then strsU [wExec, wNone] else []) ++ (strsU [wData, d] ++ strsU [wShut]))) := by rw [encN_file, strsU_one wFile]; simp only [List.append_assoc]
            have e5 : (strsU [wData, d]).length = 16 + (strU d).length := by rw [strsU_cons, List.length_append, strsU_one]; rfl
            have e6 : (strU wFile).length = 16 := rfl
            have e7 := strU_length d
            refine ⟨?_, ?_, d3, ?_⟩
            · rw [hx]
              exact At.app.2 ⟨hh, At.app.2 ⟨hq2 ▸ c2, by rw [← hq2, ← c3]; exact d1⟩⟩
            · rw [hx]
              simp only [List.length_append] at d2 ⊢
              omega
            · rw [hx]
              simp only [List.length_append, Nd.count, Nd.countL]
              omega
          · split at h
            · rename_i _ hw
              subst hw
              obtain ⟨d, rfl, d1, d2, d3⟩ := link_sound hf h
              have hx : encN (.mk 3 false d [] []) = strsU [wOpen, wType] ++ (strU wLink ++ (strsU [wTarget, d] ++ strsU [wShut])) := by rw [encN_link, strsU_cons wLink, List.append_assoc]
              have e5 : (strsU [wTarget, d]).length = 16 + (strU d).length := by rw [strsU_cons, List.length_append, strsU_one]; rfl
              have e6 : (strU wLink).length = 16 := rfl
              have e7 := strU_length d
              refine ⟨?_, ?_, d3, ?_⟩
              · rw [hx]
                exact At.app.2 ⟨hh, At.app.2 ⟨hq2 ▸ c2, by rw [← hq2, ← c3]; exact d1⟩⟩
              · rw [hx]
                simp only [List.length_append] at d2 ⊢
                omega
              · rw [hx]
                simp only [List.length_append, Nd.count, Nd.countL]
                omega
            · rename_i g1 g2
              have hw : w = wDir := by
                simp only [List.mem_cons, List.not_mem_nil, or_false] at c1
                rcases c1 with h | h | h
                · exact absurd h g1
                · exact absurd h g2
                · exact h
              subst hw
              obtain ⟨ns', ks', rfl, l1, d1, d2, d3, d4⟩ := dir_sound hf (node_sound hf k) (L + 1) q3 h rfl (by rw [encL_nil]; exact At.nil f _) (by rw [encL_nil]; rfl) (by rw [encL_nil]; simp [Nd.countL])
              have hx : encN (.mk 2 false ⟨#[]⟩ ns' ks') = strsU [wOpen, wType] ++ (strU wDir ++ (encL ks' ns' ++ strsU [wShut])) := by rw [encN_dir, strsU_one wDir]; simp only [List.append_assoc]
              have e6 : (strU wDir).length = 24 := rfl
              refine ⟨?_, ?_, d3, ?_⟩
              · rw [hx]
                exact At.app.2 ⟨hh, At.app.2 ⟨hq2 ▸ c2, by rw [← hq2, ← c3]; exact d1⟩⟩
              · rw [hx]
                simp only [List.length_append] at d2 ⊢
                omega
              · rw [hx]
                simp only [List.length_append, Nd.count]
                omega
theorem data_complete {f : Nat → Int} {L p : Nat} (k : Int) (e : Bool) {d : ByteArray} (hd : d.size ≤ 31744) (h : At f p (strU d ++ strsU [wShut])) (hL : p + (strU d ++ strsU [wShut]).length ≤ L) : dataF f L p k e = .ok (.mk k e d [] [], p + (strU d ++ strsU [wShut]).length) := by
  rw [At.app] at h
  rw [List.length_append] at hL ⊢
  obtain ⟨h1, h2⟩ := next_complete (L := L) (by omega) h.1 (by omega)
  have h3 := pass_complete (L := L) [wShut] (fun w hw => by simp only [List.mem_cons, List.not_mem_nil, or_false] at hw; subst hw; decide) h.2 (by omega)
  unfold dataF
  rw [h1]
  simp only [h2, h3]
  rw [Nat.add_assoc]
theorem Nd.heightL_mem : ∀ (ks : List Nd) (k : Nd), k ∈ ks → k.height ≤ Nd.heightL ks
  | a :: ks, k, h => by
    simp only [Nd.heightL]
    rcases List.mem_cons.1 h with rfl | h
    · omega
    · have := Nd.heightL_mem ks k h
      omega
theorem encL_many : ∀ (ks : List Nd) (ns : List ByteArray), ks.length ≤ (encL ks ns).length
  | [], _ => by simp
  | k :: ks, ns => by
    have := encL_many ks ns.tail
    have e2 : (strsU [wShut]).length = 16 := rfl
    conv => rhs; unfold encL
    simp only [List.length_cons, List.length_append]
    omega
theorem dir_complete {f : Nat → Int} {L : Nat} {rec : Nat → Except Int (Nd × Nat)} : ∀ (ks : List Nd) (ns : List ByteArray) (fuel p : Nat) (ns0 : List ByteArray) (ks0 : List Nd), ks.length = ns.length → ks.length < fuel → (∀ s ∈ ns, s.size ≤ 60) → (∀ kd ∈ ks, ∀ p, At f p (encN kd) → p + (encN kd).length ≤ L → rec p = .ok (kd, p + (encN kd).length)) →
    At f p (encL ks ns ++ strsU [wShut]) → p + (encL ks ns ++ strsU [wShut]).length ≤ L → dirF rec f L fuel p ns0 ks0 = .ok (.mk 2 false ⟨#[]⟩ (ns0 ++ ns) (ks0 ++ ks), p + (encL ks ns ++ strsU [wShut]).length)
  | _, _, 0, _, _, _, _, hfu, _, _, _, _ => absurd hfu (by omega)
  | [], [], fuel + 1, p, ns0, ks0, _, _, _, _, h, hL => by
    rw [encL_nil, List.nil_append, strsU_one] at h hL ⊢
    unfold dirF
    rw [word_complete (small_word (by decide)) (by simp) h hL]
    simp only [if_true, List.append_nil]
  | k :: ks, nm :: ns, fuel + 1, p, ns0, ks0, hl, hfu, hn, hr, h, hL => by
    have hx : encL (k :: ks) (nm :: ns) ++ strsU [wShut] = strU wEntry ++ (strsU [wOpen, wName] ++ (strU nm ++ (strsU [wNode] ++ (encN k ++ (strsU [wShut] ++ (encL ks ns ++ strsU [wShut])))))) := by
      conv => lhs; unfold encL
      simp only [List.headD_cons, List.tail_cons]
      rw [strsU_cons wEntry, show strsU [wOpen, wName, nm, wNode] = strsU [wOpen, wName] ++ (strU nm ++ strsU [wNode]) by rw [strsU_cons, strsU_cons, strsU_cons, strsU_two, List.append_assoc]]
      simp only [List.append_assoc]
    rw [hx] at h hL ⊢
    simp only [At.app] at h
    simp only [List.length_append] at hL ⊢
    obtain ⟨a1, a2, a3, a4, a5, a6, a7⟩ := h
    have hnm := hn nm (by simp)
    have b1 := word_complete (L := L) (ws := [wEntry, wShut]) (small_word (by decide)) (by simp) a1 (by omega)
    have b2 := pass_complete (L := L) [wOpen, wName] (fun w hw => by simp only [List.mem_cons, List.not_mem_nil, or_false] at hw; rcases hw with rfl | rfl <;> decide) a2 (by omega)
    obtain ⟨b3, b4⟩ := next_complete (L := L) (by omega) a3 (by omega)
    have b5 := pass_complete (L := L) [wNode] (fun w hw => by simp only [List.mem_cons, List.not_mem_nil, or_false] at hw; subst hw; decide) a4 (by omega)
    have b6 := hr k (by simp) _ a5 (by omega)
    have b7 := pass_complete (L := L) [wShut] (fun w hw => by simp only [List.mem_cons, List.not_mem_nil, or_false] at hw; subst hw; decide) a6 (by omega)
    have hen : entryF rec f L (p + (strU wEntry).length) = .ok (nm, k, p + (strU wEntry).length + (strsU [wOpen, wName]).length + (strU nm).length + (strsU [wNode]).length + (encN k).length + (strsU [wShut]).length) := by
      unfold entryF
      simp only [b2, b3, b4, b5, b6, b7]
    have ih := dir_complete ks ns fuel _ (ns0 ++ [nm]) (ks0 ++ [k]) (by simpa using hl) (by simp at hfu; omega) (fun s hs => hn s (by simp [hs])) (fun kd hk => hr kd (by simp [hk])) (At.app.2 a7) (by rw [List.length_append]; omega)
    unfold dirF
    simp only [b1]
    rw [if_neg (by decide)]
    simp only [hen]
    rw [ih]
    simp only [List.append_assoc, List.singleton_append, List.length_append]
    congr 2
    omega
theorem node_complete {f : Nat → Int} {L : Nat} : ∀ (k : Nat) (n : Nd) (p : Nat), eachE n = 0 → n.height ≤ k → At f p (encN n) → p + (encN n).length ≤ L → nodeF f L k p = .ok (n, p + (encN n).length)
  | 0, .mk _ _ _ _ ks, p, _, hh, _, _ => by simp only [Nd.height] at hh; omega
  | k + 1, .mk kk e d ns ks, p, h0, hh, hat, hL => by
    have hal := each_alone h0
    have hd : d.size ≤ 31744 := alone_size hal
    have hsplit : ∀ X : List UInt8, At f p (strsU [wOpen, wType] ++ X) → p + (strsU [wOpen, wType] ++ X).length ≤ L → passF f L p [wOpen] = .ok (p + (strU wOpen).length) ∧ passF f L (p + (strU wOpen).length) [wType] = .ok (p + (strU wOpen).length + (strU wType).length) ∧ At f (p + (strU wOpen).length + (strU wType).length) X := fun X h hl => by
      rw [strsU_two, List.append_assoc, At.app, At.app] at h
      rw [strsU_two, List.append_assoc, List.length_append, List.length_append] at hl
      refine ⟨?_, ?_, h.2.2⟩
      · have := pass_complete (L := L) [wOpen] (p := p) (fun w hw => by simp only [List.mem_cons, List.not_mem_nil, or_false] at hw; subst hw; decide) (by rw [strsU_one]; exact h.1) (by rw [strsU_one]; omega)
        rw [strsU_one] at this
        exact this
      · have := pass_complete (L := L) [wType] (p := p + (strU wOpen).length) (fun w hw => by simp only [List.mem_cons, List.not_mem_nil, or_false] at hw; subst hw; decide) (by rw [strsU_one]; exact h.2.1) (by rw [strsU_one]; omega)
        rw [strsU_one] at this
        exact this
    rcases kind_cases (alone_kind hal) with ⟨rfl, rfl, rfl⟩ | ⟨rfl, rfl, rfl, rfl⟩ | ⟨rfl, rfl, hln, hd0⟩
    · have hx : encN (.mk 1 e d [] []) = strsU [wOpen, wType] ++ (strU wFile ++ ((if e then strsU [wExec, wNone] else []) ++ (strU wData ++ (strU d ++ strsU [wShut])))) := by rw [encN_file, strsU_one wFile, strsU_two wData]; simp only [List.append_assoc]
      rw [hx] at hat hL ⊢
      obtain ⟨s1, s2, s3⟩ := hsplit _ hat hL
      simp only [strsU_two wOpen, List.length_append] at hL ⊢
      rw [At.app] at s3
      have b1 := word_complete (L := L) (ws := [wFile, wLink, wDir]) (small_word (by decide)) (by simp) s3.1 (by omega)
      unfold nodeF
      simp only [s1, s2, b1, if_true]
      cases e with
      | true =>
        simp only [if_true] at s3 hL ⊢
        have s4 := s3.2
        rw [strsU_two, List.append_assoc] at s4
        rw [strsU_two, List.length_append] at hL ⊢
        rw [At.app, At.app, At.app] at s4
        have c1 := word_complete (L := L) (ws := [wExec, wData]) (small_word (by decide)) (by simp) s4.1 (by omega)
        have c2 := pass_complete (L := L) [wNone, wData] (p := p + (strU wOpen).length + (strU wType).length + (strU wFile).length + (strU wExec).length) (fun w hw => by simp only [List.mem_cons, List.not_mem_nil, or_false] at hw; rcases hw with rfl | rfl <;> decide) (by rw [strsU_two]; exact At.app.2 ⟨s4.2.1, s4.2.2.1⟩) (by rw [strsU_two, List.length_append]; omega)
        rw [strsU_two, List.length_append] at c2
        have c3 := data_complete (L := L) 1 true hd s4.2.2.2 (by rw [List.length_append]; omega)
        unfold fileF
        simp only [c1, if_true, c2]
        rw [show p + (strU wOpen).length + (strU wType).length + (strU wFile).length + (strU wExec).length + ((strU wNone).length + (strU wData).length) = p + (strU wOpen).length + (strU wType).length + (strU wFile).length + (strU wExec).length + (strU wNone).length + (strU wData).length by omega, c3]
        simp only [List.length_append]
        congr 2
        omega
      | false =>
        simp only [Bool.false_eq_true, if_false, List.nil_append, List.length_nil] at s3 hL ⊢
        have s4 := s3.2
        rw [At.app] at s4
        have c1 := word_complete (L := L) (ws := [wExec, wData]) (small_word (by decide)) (by simp) s4.1 (by omega)
        have c3 := data_complete (L := L) 1 false hd s4.2 (by rw [List.length_append]; omega)
        unfold fileF
        simp only [c1]
        rw [if_neg (by decide), c3]
        simp only [List.length_append]
        congr 2
        omega
    · have hx : encN (.mk 3 false d [] []) = strsU [wOpen, wType] ++ (strU wLink ++ (strU wTarget ++ (strU d ++ strsU [wShut]))) := by rw [encN_link, strsU_three wLink]; simp only [List.append_assoc]
      rw [hx] at hat hL ⊢
      obtain ⟨s1, s2, s3⟩ := hsplit _ hat hL
      simp only [strsU_two wOpen, List.length_append] at hL ⊢
      rw [At.app, At.app] at s3
      have b1 := word_complete (L := L) (ws := [wFile, wLink, wDir]) (small_word (by decide)) (by simp) s3.1 (by omega)
      have c2 := pass_complete (L := L) [wTarget] (p := p + (strU wOpen).length + (strU wType).length + (strU wLink).length) (fun w hw => by simp only [List.mem_cons, List.not_mem_nil, or_false] at hw; subst hw; decide) (by rw [strsU_one]; exact s3.2.1) (by rw [strsU_one]; omega)
      rw [strsU_one] at c2
      have c3 := data_complete (L := L) 3 false hd s3.2.2 (by rw [List.length_append]; omega)
      unfold nodeF
      simp only [s1, s2, b1]
      rw [if_neg (by decide), if_pos trivial]
      unfold linkF
      simp only [c2]
      rw [c3]
      simp only [List.length_append]
      congr 2
      omega
    · have hd' : d = ⟨#[]⟩ := by
        apply ByteArray.ext
        exact Array.eq_empty_of_size_eq_zero hd0
      subst hd'
      have hx : encN (.mk 2 false ⟨#[]⟩ ns ks) = strsU [wOpen, wType] ++ (strU wDir ++ (encL ks ns ++ strsU [wShut])) := by rw [encN_dir, strsU_one wDir]; simp only [List.append_assoc]
      rw [hx] at hat hL ⊢
      obtain ⟨s1, s2, s3⟩ := hsplit _ hat hL
      rw [strsU_two wOpen] at hL ⊢
      rw [At.app] at s3
      rw [List.length_append, List.length_append, List.length_append] at hL ⊢
      have b1 := word_complete (L := L) (ws := [wFile, wLink, wDir]) (small_word (by decide)) (by simp) s3.1 (by omega)
      have hnm : ∀ s ∈ ns, s.size ≤ 60 := fun s hs => by
        obtain ⟨i, hi, rfl⟩ := List.getElem_of_mem hs
        exact (names_size (alone_names hal) i hi).2
      have hh' : Nd.heightL ks ≤ k := by simp only [Nd.height] at hh; omega
      have hlen : ks.length ≤ (encL ks ns).length := encL_many ks ns
      have hkid : ∀ kd ∈ ks, ∀ p, At f p (encN kd) → p + (encN kd).length ≤ L → nodeF f L k p = .ok (kd, p + (encN kd).length) := fun kd hk p h1 h2 => by
        obtain ⟨i, hi, rfl⟩ := List.getElem_of_mem hk
        exact node_complete k _ p (each_kid h0 i hi) (by have := Nd.heightL_mem ks _ hk; omega) h1 h2
      have c := dir_complete ks ns (L + 1) _ [] [] hln.symm (by rw [List.length_append] at hL; omega) hnm hkid s3.2 (by omega)
      unfold nodeF
      simp only [s1, s2, b1]
      rw [if_neg (by decide), if_neg (by decide), c]
      simp only [List.nil_append]
      congr 2
      omega
end Go.Proofs.YtimiginpdkokiaaDoor
