/- The walk of one: what is wrong with a node and with those in it, on the document's side. -/
import Derived.Test.YthidlckipiamkaaDoorCensus
import Derived.Deep.DeepCutAuto
namespace Go.Proofs.YthidlckipiamkaaDoor
open Go.RowKit

theorem eachE_eq (k : Int) (e : Bool) (d : ByteArray) (ns : List ByteArray) (ks : List Nd) : eachE (.mk k e d ns ks) = if kindB (.mk k e d ns ks) = false then 12 else if (if k = 3 then 1024 else 31744 : Int) < ((d.size + entN ns : Nat) : Int) then 3 else if k = 3 ∧ d.size = 0 then 2 else if namesB ns = false then 17 else eachL ks := by
  have hb : bigB (.mk k e d ns ks) = decide ((if k = 3 then 1024 else 31744 : Int) < ((d.size + entN ns : Nat) : Int)) := rfl
  have ha : aloneE (.mk k e d ns ks) = if kindB (.mk k e d ns ks) = false then 12 else if (if k = 3 then 1024 else 31744 : Int) < ((d.size + entN ns : Nat) : Int) then 3 else if k = 3 ∧ d.size = 0 then 2 else if namesB ns = false then 17 else 0 := by
    unfold aloneE
    rw [hb]
    simp only [Nd.kind, Nd.data, Nd.names, decide_eq_true_eq]
    exact ite_congr rfl (fun _ => rfl) (fun _ => ite_congr rfl (fun _ => rfl) (fun _ => rfl))
  unfold eachE
  rw [ha]
  generalize kindB (.mk k e d ns ks) = kB
  generalize namesB ns = nB
  generalize d.size + entN ns = z
  by_cases h1 : kB = false
  · rw [if_pos h1, if_pos h1]
    rfl
  rw [if_neg h1, if_neg h1]
  by_cases h2 : (if k = 3 then 1024 else 31744 : Int) < (z : Int)
  · rw [if_pos h2, if_pos h2]
    rfl
  rw [if_neg h2, if_neg h2]
  by_cases h3 : k = 3 ∧ d.size = 0
  · rw [if_pos h3, if_pos h3]
    rfl
  rw [if_neg h3, if_neg h3]
  by_cases h4 : nB = false
  · rw [if_pos h4, if_pos h4]
    rfl
  rw [if_neg h4, if_neg h4]
  rfl

end Go.Proofs.YthidlckipiamkaaDoor
