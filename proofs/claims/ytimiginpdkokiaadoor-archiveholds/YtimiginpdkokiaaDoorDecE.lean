/- My own work: whole archives: what is read is the node's archive, and back; errors are told by numbers that are not 0. -/
import Derived.Test.YtimiginpdkokiaaDoorDecN
namespace Go.Proofs.YtimiginpdkokiaaDoor
open Go.RowKit

theorem next_err {f : Nat → Int} {L p : Nat} {e : Int} (h : nextF f L p = .error e) : e ≠ 0 := by
  unfold nextF at h
  split at h
  · simp only [Except.error.injEq] at h; omega
  · split at h
    · simp only [Except.error.injEq] at h; omega
    · split at h
      · simp only [Except.error.injEq] at h; omega
      · split at h
        · cases h
        · simp only [Except.error.injEq] at h; omega
theorem word_err {f : Nat → Int} {L p : Nat} {ws : List ByteArray} {e : Int} (h : wordF f L p ws = .error e) : e ≠ 0 := by
  unfold wordF at h
  split at h
  · rename_i e' he
    simp only [Except.error.injEq] at h
    subst h
    exact next_err he
  · split at h
    · cases h
    · simp only [Except.error.injEq] at h; omega
theorem pass_err {f : Nat → Int} {L : Nat} {e : Int} : ∀ (ws : List ByteArray) {p : Nat}, passF f L p ws = .error e → e ≠ 0
  | [], p, h => by simp [passF] at h
  | w :: ws, p, h => by
    simp only [passF] at h
    split at h
    · rename_i e' he
      simp only [Except.error.injEq] at h
      subst h
      exact word_err he
    · exact pass_err ws h
theorem data_err {f : Nat → Int} {L p : Nat} {k : Int} {x : Bool} {e : Int} (h : dataF f L p k x = .error e) : e ≠ 0 := by
  unfold dataF at h
  split at h
  · rename_i e' he
    simp only [Except.error.injEq] at h
    subst h
    exact next_err he
  · split at h
    · rename_i e' he
      simp only [Except.error.injEq] at h
      subst h
      exact pass_err _ he
    · cases h
theorem file_err {f : Nat → Int} {L p : Nat} {e : Int} (h : fileF f L p = .error e) : e ≠ 0 := by
  unfold fileF at h
  split at h
  · rename_i e' he
    simp only [Except.error.injEq] at h
    subst h
    exact word_err he
  · split at h
    · split at h
      · rename_i e' he
        simp only [Except.error.injEq] at h
        subst h
        exact pass_err _ he
      · exact data_err h
    · exact data_err h
theorem link_err {f : Nat → Int} {L p : Nat} {e : Int} (h : linkF f L p = .error e) : e ≠ 0 := by
  unfold linkF at h
  split at h
  · rename_i e' he
    simp only [Except.error.injEq] at h
    subst h
    exact pass_err _ he
  · exact data_err h
theorem entry_err {rec : Nat → Except Int (Nd × Nat)} (hr : ∀ p e, rec p = .error e → e ≠ 0) {f : Nat → Int} {L p : Nat} {e : Int} (h : entryF rec f L p = .error e) : e ≠ 0 := by
  unfold entryF at h
  split at h
  · rename_i e' he
    simp only [Except.error.injEq] at h
    subst h
    exact pass_err _ he
  · split at h
    · rename_i e' he
      simp only [Except.error.injEq] at h
      subst h
      exact next_err he
    · split at h
      · rename_i e' he
        simp only [Except.error.injEq] at h
        subst h
        exact pass_err _ he
      · split at h
        · rename_i e' he
          simp only [Except.error.injEq] at h
          subst h
          exact hr _ _ he
        · split at h
          · rename_i e' he
            simp only [Except.error.injEq] at h
            subst h
            exact pass_err _ he
          · cases h
theorem dir_err {rec : Nat → Except Int (Nd × Nat)} (hr : ∀ p e, rec p = .error e → e ≠ 0) {f : Nat → Int} {L : Nat} {e : Int} : ∀ (fuel : Nat) {p : Nat} {ns : List ByteArray} {ks : List Nd}, dirF rec f L fuel p ns ks = .error e → e ≠ 0
  | 0, p, ns, ks, h => by
    unfold dirF at h
    simp only [Except.error.injEq] at h
    omega
  | fuel + 1, p, ns, ks, h => by
    unfold dirF at h
    split at h
    · rename_i e' he
      simp only [Except.error.injEq] at h
      subst h
      exact word_err he
    · split at h
      · cases h
      · split at h
        · rename_i e' he
          simp only [Except.error.injEq] at h
          subst h
          exact entry_err hr he
        · exact dir_err hr fuel h
theorem node_err {f : Nat → Int} {L : Nat} : ∀ (k p : Nat) (e : Int), nodeF f L k p = .error e → e ≠ 0
  | 0, p, e, h => by
    unfold nodeF at h
    split at h
    · rename_i e' he
      simp only [Except.error.injEq] at h
      subst h
      exact pass_err _ he
    · simp only [Except.error.injEq] at h
      omega
  | k + 1, p, e, h => by
    unfold nodeF at h
    split at h
    · rename_i e' he
      simp only [Except.error.injEq] at h
      subst h
      exact pass_err _ he
    · split at h
      · rename_i e' he
        simp only [Except.error.injEq] at h
        subst h
        exact pass_err _ he
      · split at h
        · rename_i e' he
          simp only [Except.error.injEq] at h
          subst h
          exact word_err he
        · split at h
          · exact file_err h
          · split at h
            · exact link_err h
            · exact dir_err (node_err k) _ h
theorem arch_err {f : Nat → Int} {L : Nat} {e : Int} (h : archF f L = .error e) : e ≠ 0 := by
  unfold archF at h
  split at h
  · rename_i e' he
    simp only [Except.error.injEq] at h
    subst h
    exact pass_err _ he
  · split at h
    · rename_i e' he
      simp only [Except.error.injEq] at h
      subst h
      exact node_err _ _ _ he
    · split at h
      · simp only [Except.error.injEq] at h
        omega
      · cases h
theorem arch_sound {f : Nat → Int} (hf : ∀ i, 0 ≤ f i ∧ f i < 256) {L : Nat} {n : Nd} (h : archF f L = .ok n) : At f 0 (encA n) ∧ L = (encA n).length ∧ 72 * n.count ≤ L := by
  unfold archF at h
  split at h
  · cases h
  · rename_i q h1
    split at h
    · cases h
    · rename_i n' q2 h2
      split at h
      · cases h
      · rename_i hq
        have h' := ok_inj h
        subst h'
        obtain ⟨a1, a2, _⟩ := pass_sound hf _ h1
        have r := node_sound hf _ _ _ _ h2
        have r2 := r.len
        have r3 := r.le
        have r4 := r.many
        unfold encA
        rw [List.length_append]
        exact ⟨At.app.2 ⟨a1, by rw [← a2]; exact r.at'⟩, by omega, by omega⟩
theorem arch_complete {f : Nat → Int} {L : Nat} {n : Nd} (h0 : rightE n = 0) (hat : At f 0 (encA n)) (hL : L = (encA n).length) : archF f L = .ok n := by
  unfold encA at hat hL
  rw [At.app] at hat
  rw [List.length_append] at hL
  have h1 := pass_complete (L := L) [wFirst] (p := 0) (fun w hw => by simp only [List.mem_cons, List.not_mem_nil, or_false] at hw; subst hw; decide) hat.1 (by omega)
  have h2 := node_complete (L := L) 32 n _ (rightE_each h0) (rightE_cen h0).1 hat.2 (by omega)
  unfold archF
  rw [h1]
  simp only [h2]
  rw [if_neg (by omega)]
/-- Bytes as a function of their places. -/
def fU (X : List UInt8) (i : Nat) : Int := ((X[i]?).getD 0).toNat
theorem fU_bd (X : List UInt8) (i : Nat) : 0 ≤ fU X i ∧ fU X i < 256 := by
  unfold fU
  have := ((X[i]?).getD 0).toNat_lt
  omega
theorem fU_at (X : List UInt8) : At (fU X) 0 X := fun i hi => by
  unfold fU
  rw [Nat.zero_add, List.getElem?_eq_getElem hi]
  rfl
theorem at_list {X Y : List UInt8} (h : At (fU X) 0 Y) (hl : X.length = Y.length) : X = Y := by
  apply List.ext_getElem hl
  intro i h1 h2
  have := h i h2
  have h3 := fU_at X i h1
  rw [this] at h3
  exact UInt8.toNat_inj.1 (by omega)
/-- Nodes that may be have unlike archives. -/
theorem encA_inj {n o : Nd} (hn : rightE n = 0) (ho : rightE o = 0) (h : encA n = encA o) : n = o := by
  have h1 := arch_complete hn (fU_at (encA n)) rfl
  have h2 := arch_complete ho (fU_at (encA o)) rfl
  rw [h] at h1
  rw [h1] at h2
  exact ok_inj h2
theorem dec_sound {X : List UInt8} {n : Nd} (h : decF (fU X) X.length = .ok n) : X = encA n ∧ rightE n = 0 := by
  unfold decF at h
  split at h
  · cases h
  · split at h
    · cases h
    · rename_i n' h1
      split at h
      · rename_i hr
        have h' := ok_inj h
        subst h'
        obtain ⟨a1, a2, _⟩ := arch_sound (fU_bd X) h1
        exact ⟨at_list a1 a2, hr⟩
      · cases h
theorem dec_complete {n : Nd} (h0 : rightE n = 0) (hl : (encA n).length ≤ 1048576) : decF (fU (encA n)) (encA n).length = .ok n := by
  unfold decF
  rw [if_neg (by omega), arch_complete h0 (fU_at _) rfl]
  simp only
  rw [if_pos h0]
end Go.Proofs.YtimiginpdkokiaaDoor
