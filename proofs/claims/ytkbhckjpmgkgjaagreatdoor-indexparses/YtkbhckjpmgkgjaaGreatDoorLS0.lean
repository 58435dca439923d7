/- My own work: versions that came in; sets that are asked for versions. -/
import Derived.Test.YtkbhckjpmgkgjaaGreatDoorLA
namespace Go.Proofs.YtkbhckjpmgkgjaaGreatDoor
open Go.RowKit

/-- Versions in memory. -/
structure VsIn (W : World) (a : Option Addr) (L : List Ver) (c : Nat) : Prop where
  ex : ∃ g off, (0 < L.length → a = some ⟨g, off, none⟩ ∧ g < W.heap.size) ∧ ∀ i (h : i < L.length), W.rangeAt g (off + i * 6) (encV1 L[i])
  le : L.length ≤ c
theorem has_and {A B : List Cut} (hA : SetOk A) (hB : SetOk B) (v : Ver) : hasV (andS A B) v = (hasV A v && hasV B v) := by
  unfold hasV
  rw [and_inn hA hB]
  cases mayV v <;> simp
theorem has_or {A B : List Cut} (hA : SetOk A) (hB : SetOk B) (v : Ver) : hasV (orS A B) v = (hasV A v || hasV B v) := by
  unfold hasV
  rw [or_inn hA hB]
  cases mayV v <;> simp
theorem in_allV {v : Ver} : inn false allC ⟨1, v⟩ = true := by
  rw [inn_two, decide_eq_true (lt_le (beg_lt 1 v (Or.inl rfl))), decide_eq_false (fun h => lt_irr fin (lt_le_trans (le_lt h (lt_fin 1 v (Or.inl rfl))) (le_rfl _)))]
  rfl
theorem has_not {A : List Cut} (hA : SetOk A) (v : Ver) : hasV (notS A) v = (!hasV A v && mayV v) := by
  unfold hasV
  rw [not_inn hA, in_allV]
  cases mayV v <;> simp
/-- What holds while the law goes on. -/
structure Ss (w : World) (A B : List Cut) (x y b a n : Value) (wx : World) : Prop where
  x : Gd wx x A 578
  y : Gd wx y B 578
  b : Gd wx b (andS A B) 1156
  a : Gd wx a (orS A B) 1156
  n : Gd wx n (notS A) 580
  t : Pw wx
  old : Below w.heap.size w wx
theorem Ss.next {w : World} {A B : List Cut} {x y b a n : Value} {wx w' : World} (h : Ss w A B x y b a n wx) (hb : Below wx.heap.size wx w') : Ss w A B x y b a n w' :=
  ⟨h.x.next hb, h.y.next hb, h.b.next hb, h.a.next hb, h.n.next hb, h.t.keep hb h.t.lt, h.old.trans (hb.mono h.old.size)⟩
theorem Gd.has {w : World} {p : Value} {A : List Cut} {n : Nat} (h : Gd w p A n) (hn : n ≤ 9000) (hT : Pw w) (v : Ver) (r : Bool) (hr : hasV A v = r) : Calls Tryz.prog 100 #[p, verV v] w fun e w' => e = .returned (.bool r) ∧ Below w.heap.size w w' := by
  rw [← hr]
  exact has_ok v h.g.at' (Nat.le_refl _) h.g.ok.ok (by have := h.l; omega) hT
end Go.Proofs.YtkbhckjpmgkgjaaGreatDoor
