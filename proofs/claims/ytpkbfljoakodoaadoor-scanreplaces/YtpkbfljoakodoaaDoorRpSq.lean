/- My own work: a node that may be has as many names as nodes, everywhere. -/
import Derived.Test.YtpkbfljoakodoaaDoorXD
import Derived.Test.YtpkbfljoakodoaaDoorCensus
namespace Go.Proofs.YtpkbfljoakodoaaDoor

theorem alone_sq {k : Int} {e : Bool} {d : ByteArray} {ns : List ByteArray} {ks : List Nd} (h : aloneE (.mk k e d ns ks) = 0) : ns.length = ks.length ∧ d.size < 4294967281 := by
  unfold aloneE at h
  split at h
  · simp at h
  rename_i hk
  split at h
  · simp at h
  rename_i hb
  clear h
  constructor
  · have h : kindB (.mk k e d ns ks) = true := by simpa using hk
    show (Nd.mk k e d ns ks).names.length = (Nd.mk k e d ns ks).kids.length
    generalize Nd.mk k e d ns ks = n at h
    unfold kindB at h
    repeat' split at h
    all_goals first
      | (simp only [Bool.and_eq_true, decide_eq_true_eq] at h; omega)
      | (simp at h; done)
  · have hb2 : ¬ ((if k = 3 then 1024 else 31744 : Int) < ((d.size + entN ns : Nat) : Int)) := fun h => hb (decide_eq_true h)
    split at hb2 <;> omega
mutual
theorem each_sq : ∀ (n : Nd), eachE n = 0 → sqN n
  | .mk k e d ns ks, h => by
    unfold eachE at h
    split at h
    · rename_i h1
      exact absurd h h1
    rename_i h1
    have h2 := alone_sq (Classical.not_not.1 h1)
    simp only [sqN]
    exact ⟨h2.1, h2.2, each_sqL ks h⟩
theorem each_sqL : ∀ (ks : List Nd), eachL ks = 0 → sqNL ks
  | [], _ => by simp [sqNL]
  | k :: ks, h => by
    unfold eachL at h
    split at h
    · rename_i h1
      exact absurd h h1
    rename_i h1
    simp only [sqNL]
    exact ⟨each_sq k (Classical.not_not.1 h1), each_sqL ks h⟩
end
/-- What is right is so. -/
theorem right_sq (n : Nd) (h : rightE n = 0) : sqN n := by
  unfold rightE at h
  split at h
  · simp at h
  exact each_sq n h
end Go.Proofs.YtpkbfljoakodoaaDoor
