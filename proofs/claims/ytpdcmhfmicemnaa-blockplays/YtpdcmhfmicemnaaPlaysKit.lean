/- What BlockPlays' walk wants besides: names; each disk stays where the other changes. -/
import Derived.Test.YtpdcmhfmicemnaaSame
namespace Go.Proofs.Ytpdcmhfmicemnaa
open Go.RowKit

theorem names_ok (w : World) : Calls Try.prog 9 #[] w fun e w' => e = .returned (.bool true) ∧ w' = w := by
  go_enter Try.func9, Try.ntmps9
  go_wp2
  go_ret
  exact ⟨rfl, rfl⟩
theorem DiskAt.base {w : World} {base base' g g1 c1 g2 c2 : Nat} {ev : Value} {D : Dk} (h : DiskAt w base g g1 c1 g2 c2 ev D) (hb : base' ≤ base) : DiskAt w base' g g1 c1 g2 c2 ev D :=
  ⟨h.row, ownsRow_base h.first hb, ownsRow_base h.now hb, ownsRow_base h.evs hb, Nat.le_trans hb h.ge, h.ne, h.ok⟩
theorem RefAt.base {w : World} {base base' g : Nat} {fv lv : Value} {R : Rk} (h : RefAt w base g fv lv R) (hb : base' ≤ base) : RefAt w base' g fv lv R :=
  ⟨h.row, ownsRow_base h.first hb, ownsRow_base h.evs hb, Nat.le_trans hb h.ge⟩
/-- The document's disk stays where the program's changes. -/
theorem RefAt.chg {w w' : World} {base gr : Nat} {fv lv : Value} {R : Rk} {b0 g g1 c1 g2 c2 : Nat} {ev : Value} {D : Dk} (h : RefAt w base gr fv lv R) (hD : DiskAt w b0 g g1 c1 g2 c2 ev D) (hc : Chg g g2 ev w w') : RefAt w' base gr fv lv R :=
  h.keep fun k hk => by
    have key : ∀ C t, Row w k C t → t = 60 ∨ t = 9 ∨ t = 67 → w'.heap[k]? = w.heap[k]? := fun C t hr ht =>
      (hr.chg hD hc (by rcases ht with h | h | h <;> subst h <;> decide) (by rcases ht with h | h | h <;> subst h <;> decide) (fun e => by rcases ht with h | h | h <;> subst h <;> cases e)).trans hr.symm
    rcases hk with rfl | hk | hk
    · exact key _ _ h.row (.inl rfl)
    · obtain ⟨_, _, cur, hr⟩ := ownsRow_lt h.first k hk
      exact key _ _ hr (.inr (.inl rfl))
    · obtain ⟨_, _, cur, hr⟩ := ownsRow_lt h.evs k hk
      exact key _ _ hr (.inr (.inr rfl))
/-- Rows of another kind stay where the document's disk changes. -/
theorem Row.chgR {w w' : World} {base gr k : Nat} {fv lv : Value} {R : Rk} {C : Array Value} {t : TypeId} (h : Row w k C t) (hR : RefAt w base gr fv lv R) (hc : ChgR gr lv w w') (h60 : t ≠ 60) (h67 : t ≠ 67) : w'.heap[k]? = w.heap[k]? :=
  hc.block k h.lt (row_ne h hR.row h60) (fun e => by
    obtain ⟨_, _, cur, hr⟩ := ownsRow_lt hR.evs k e
    exact row_ne h hr h67 rfl)
theorem DiskAt.chgR {w w' : World} {base gr : Nat} {fv lv : Value} {R : Rk} {b0 g g1 c1 g2 c2 : Nat} {ev : Value} {D : Dk} (h : DiskAt w b0 g g1 c1 g2 c2 ev D) (hR : RefAt w base gr fv lv R) (hc : ChgR gr lv w w') : DiskAt w' b0 g g1 c1 g2 c2 ev D :=
  h.keepT fun k C t hr ht => hr.chgR hR hc (by rcases ht with h | h | h <;> subst h <;> decide) (by rcases ht with h | h | h <;> subst h <;> decide)
theorem ChgR.to_below {g base : Nat} {v : Value} {w w' : World} (h : ChgR g v w w') (h1 : base ≤ g) (h3 : ∀ k, v.ownBlock = some k → base ≤ k) (hB : base ≤ w.heap.size) : Below base w w' :=
  ⟨h.os, h.tape, h.output, h.size, fun k hk => h.block k (by omega) (by omega) (fun e => by have := h3 k e; omega)⟩
theorem RefAt.to_below {w w' : World} {base gr : Nat} {fv lv : Value} {R : Rk} (h : RefAt w base gr fv lv R) (hc : ChgR gr lv w w') (hB : base ≤ w.heap.size) : Below base w w' :=
  hc.to_below h.ge (fun k hk => (ownsRow_lt h.evs k hk).2.1) hB
/-- New disks are twins. -/
theorem twin_new (s : Nat) : Twin (freshD s fun _ => 0) ⟨List.replicate s zText, []⟩ :=
  ⟨by simp [freshD], fun k hk => by
    have hk' : k < s := hk
    simp [List.getD, hk']
    rfl, rfl, rfl⟩
theorem hist_fresh (s : Nat) (f : Nat → Int) : Hist (freshD s f) f := ⟨rfl, rfl⟩
end Go.Proofs.Ytpdcmhfmicemnaa
