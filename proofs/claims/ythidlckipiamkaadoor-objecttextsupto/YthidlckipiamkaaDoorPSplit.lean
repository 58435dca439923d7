/- My own work: thirty-two signs; the walks of areSigns, Split, Base, and of the document's own Split. -/
import Derived.Test.YthidlckipiamkaaDoorPLib
import Derived.Test.YthidlckipiamkaaDoorXG
namespace Go.Proofs.YthidlckipiamkaaDoor.S2
open Go.RowKit Math

/-- Is a byte a sign? -/
def isSg (c : UInt8) : Bool := (List.range 32).any fun k => decide (sg k = (c.toNat : Int))
def signsB (l : List UInt8) : Bool := l.all isSg
theorem isSg_yes {c : UInt8} {v : Nat} (hv : v < 32) (h : sg v = (c.toNat : Int)) : isSg c = true := by
  unfold isSg
  rw [List.any_eq_true]
  exact ⟨v, List.mem_range.2 hv, decide_eq_true h⟩
theorem isSg_no {c : UInt8} (h : ∀ k, k < 32 → sg k ≠ (c.toNat : Int)) : isSg c = false := by
  unfold isSg
  rw [List.any_eq_false]
  intro k hk
  simpa using h k (List.mem_range.1 hk)
theorem bl_inj {a b : ByteArray} (h : bl a = bl b) : a = b := ByteArray.ext (Array.toList_inj.1 h)
/-- What Decode tells of thirty-two bytes. -/
def signE (s : ByteArray) : Int := if signsB (bl s) then 0 else 10
theorem signs32 (s : ByteArray) : (∃ vs : Nat → Nat, signsB (bl s) = true ∧ (∀ k, vs k < 32) ∧ ∀ k, (hk : k < s.size) → sg (vs k) = (s[k].toNat : Int)) ∨
    (∃ (vs : Nat → Nat) (m : Nat), signsB (bl s) = false ∧ (∀ k, vs k < 32) ∧ ∃ hm : m < s.size, (∀ k, (hk : k < s.size) → k < m → sg (vs k) = (s[k].toNat : Int)) ∧ ∀ k, k < 32 → sg k ≠ (s[m].toNat : Int)) := by
  rcases first_bad (fun k => ∃ v, v < 32 ∧ ∀ hk : k < s.size, sg v = (s[k].toNat : Int)) s.size with hall | ⟨m, hm, hbefore, hbad⟩
  · obtain ⟨vs, h32, hvs⟩ := choose_signs s s.size hall
    refine .inl ⟨vs, ?_, h32, fun k hk => hvs k hk hk⟩
    unfold signsB
    rw [List.all_eq_true]
    intro x hx
    obtain ⟨j, hj, rfl⟩ := List.getElem_of_mem hx
    have hj' : j < s.size := by rw [← bl_len s]; exact hj
    exact isSg_yes (h32 j) (hvs j hj' hj')
  · obtain ⟨vs, h32, hvs⟩ := choose_signs s m hbefore
    have hno : ∀ k, k < 32 → sg k ≠ (s[m].toNat : Int) := fun k hk e => hbad ⟨k, hk, fun _ => e⟩
    refine .inr ⟨vs, m, ?_, h32, hm, hvs, hno⟩
    unfold signsB
    rw [List.all_eq_false]
    have hm' : m < (bl s).length := by rw [bl_len]; exact hm
    refine ⟨(bl s)[m], List.getElem_mem hm', ?_⟩
    have e : isSg s[m] = false := isSg_no hno
    show ¬ isSg s[m] = true
    rw [e]
    decide
theorem decode32 (s : ByteArray) (hs : s.size = 32) (w : World) (hT : Tab w) : Calls Tryd.prog 32 #[.string s] w fun e w' => (∃ v, e = .returned (.tuple #[v, .int .i64 (signE s)])) ∧ Below w.heap.size w w' := by
  rcases signs32 s with ⟨vs, hB, h32, hvs⟩ | ⟨vs, m, hB, h32, hm, hvs, hno⟩
  · have he : signE s = 0 := by unfold signE; rw [hB]; rfl
    refine (decode_any s vs w hT (by omega) hvs h32).mono ?_
    rintro e w' ⟨q, l, hq, hl, hb, h⟩
    obtain rfl : l = 0 := by omega
    rcases h with ⟨_, _, v, he', _⟩ | ⟨hno, _⟩
    · exact ⟨⟨v, by rw [he']; rw [he]⟩, hb⟩
    · exact absurd ⟨by omega, rfl⟩ hno
  · have he : signE s = 10 := by unfold signE; rw [hB]; rfl
    refine (decode_bad s vs m w hT (by omega) hm (fun k hk hkm => ⟨h32 k, hvs k hk hkm⟩) hno).mono ?_
    rintro e w' ⟨rfl, hb⟩
    exact ⟨⟨_, by rw [he]⟩, hb⟩
theorem refDecode32 (s : ByteArray) (hs : s.size = 32) (w : World) : Calls Tryd.prog 36 #[.string s] w fun e w' => (∃ v, e = .returned (.tuple #[v, .int .i64 (signE s)])) ∧ Below w.heap.size w w' := by
  rcases signs32 s with ⟨vs, hB, h32, hvs⟩ | ⟨vs, m, hB, h32, hm, hvs, hno⟩
  · have he : signE s = 0 := by unfold signE; rw [hB]; rfl
    obtain ⟨h, hh⟩ : ∃ h, h = bitAt 5 (fun i => (vs i : Int)) := ⟨_, rfl⟩
    obtain ⟨f, hf⟩ : ∃ f : Nat → Int, ∀ j, f j = if j < 20 then val h (8 * j) 8 else 0 := ⟨fun j => if j < 20 then val h (8 * j) 8 else 0, fun _ => rfl⟩
    have hsame := same_iff s vs hvs h32 h hh 20 0 32 (by omega) (by omega) f hf (by omega) (by omega)
    have hs1 := hsame.2 ⟨by omega, rfl⟩
    refine (refDecode_core s vs s.size 20 w (by omega) (Nat.le_refl _) (by omega) (by omega) (fun k hk _ => hvs k hk) h32 (fun hc => absurd hc (by omega)) h hh f hf 32 (by omega) (by omega)).mono ?_
    rintro e w' ⟨hb', h1 | ⟨_, _, he', hrow⟩ | ⟨_, hne, _⟩⟩
    · exact absurd h1.1 (by omega)
    · exact ⟨⟨_, by rw [he', he]⟩, hb'⟩
    · rw [hs1] at hne; cases hne
  · have he : signE s = 10 := by unfold signE; rw [hB]; rfl
    obtain ⟨h, hh⟩ : ∃ h, h = bitAt 5 (fun i => (vs i : Int)) := ⟨_, rfl⟩
    obtain ⟨f, hf⟩ : ∃ f : Nat → Int, ∀ j, f j = if j < 20 then val h (8 * j) 8 else 0 := ⟨fun j => if j < 20 then val h (8 * j) 8 else 0, fun _ => rfl⟩
    refine (refDecode_core s vs m 20 w (by omega) (Nat.le_of_lt hm) (by omega) (by omega) hvs h32 (fun _ => hno) h hh f hf 32 (by omega) (by omega)).mono ?_
    rintro e w' ⟨hb', ⟨_, he'⟩ | ⟨h1, _⟩ | ⟨h1, _⟩⟩
    · exact ⟨⟨_, by rw [he', he]⟩, hb'⟩
    · omega
    · omega
set_option maxRecDepth 20000 in
theorem areSigns_ok (s : ByteArray) (hs : s.size = 32) (w : World) (hT : Tab w) : Calls Tryd.prog 53 #[.string s] w fun e w' => e = .returned (.bool (signsB (bl s))) ∧ Below w.heap.size w w' := by
  have hD := decode32 s hs w hT
  cases hB : signsB (bl s) with
  | true =>
    have he : signE s = 0 := by unfold signE; rw [hB]; rfl
    rw [he] at hD
    go_enter Tryd.func53, Tryd.ntmps53
    go_wp2_with fail
    refine hD.mono ?_
    rintro e w1 ⟨⟨v, rfl⟩, hb⟩
    go_wp2
    go_ret
    exact ⟨rfl, hb⟩
  | false =>
    have he : signE s = 10 := by unfold signE; rw [hB]; rfl
    rw [he] at hD
    go_enter Tryd.func53, Tryd.ntmps53
    go_wp2_with fail
    refine hD.mono ?_
    rintro e w1 ⟨⟨v, rfl⟩, hb⟩
    go_wp2
    go_ret
    exact ⟨rfl, hb⟩
end Go.Proofs.YthidlckipiamkaaDoor.S2
