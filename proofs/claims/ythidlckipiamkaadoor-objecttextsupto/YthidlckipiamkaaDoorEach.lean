/- The walks of rightAlone, rightEach, census and Right: what is wrong with a node. -/
import Derived.Test.YthidlckipiamkaaDoorAlone
namespace Go.Proofs.YthidlckipiamkaaDoor
open Go.RowKit

/-- Too many bytes, or entries? -/
def bigB (n : Nd) : Bool := decide ((if n.kind = 3 then 1024 else 31744 : Int) < ((n.data.size + entN n.names : Nat) : Int))
/-- What is wrong with a node by itself. -/
def aloneE (n : Nd) : Int := if kindB n = false then 12 else if bigB n = true then 3 else if n.kind = 3 ∧ n.data.size = 0 then 2 else if namesB n.names = false then 17 else 0
/-- Where a node's kind is right its names are few, or as many as its nodes. -/
theorem kindB_names {n : Nd} (h : kindB n = true) : n.names.length ≤ n.kids.length := by
  unfold kindB at h
  split at h
  · simp only [Bool.and_eq_true, decide_eq_true_eq] at h
    omega
  · split at h
    · simp only [Bool.and_eq_true, decide_eq_true_eq] at h
      omega
    · split at h
      · simp only [Bool.and_eq_true, decide_eq_true_eq] at h
        omega
      · cases h
/-- So few nodes that no sum of theirs runs over. -/
theorem sizes_bd {w : World} {n : Nd} {C : Array Value} (h : NodeAt w n C) (hc : n.count ≤ 16000) (hk : kindB n = true) : n.data.size + entN n.names ≤ 4611686018427387904 := by
  have h1 := kindB_names hk
  cases h with
  | @mk k e dt ns ks da dc na nc ka kb koff kc Cs hk hdt hn hks each =>
  have h2 := entN_bd ns big hn.each
  have h3 := hdt.len
  have h4 := Nd.countL_len ks
  simp only [Nd.count] at hc
  simp only [Nd.names, Nd.kids] at h1
  simp only [Nd.data, Nd.names]
  have h5 : ns.length * (big + 3) ≤ 16000 * (big + 3) := Nat.mul_le_mul_right _ (by omega)
  unfold big at *
  omega
theorem Row.range {w : World} {g : Nat} {C : Array Value} {t : TypeId} (h : Row w g C t) : w.rangeAt g 0 C.toList := fun j v hj => by
  rw [Nat.zero_add, h.cell j, ← Array.getElem?_toList]
  exact hj

end Go.Proofs.YthidlckipiamkaaDoor
