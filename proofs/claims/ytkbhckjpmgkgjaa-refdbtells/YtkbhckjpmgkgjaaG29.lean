/- My own work: the document's has and find. -/
import Derived.Test.YtkbhckjpmgkgjaaG28
namespace Go.Proofs.Ytkbhckjpmgkgjaa
open Go.RowKit

set_option maxRecDepth 20000 in
set_option maxHeartbeats 4000000 in
/-- The document's has: is a text in a list? -/
theorem refHas_ok (L : List ByteArray) (a : Option Addr) (c : Nat) (x : ByteArray) (w : World) (h : StrsAt w a L c) : Calls Try.prog 36 #[.slice a L.length c, .string x] w fun e w' => e = .returned (.bool (decide (x ∈ L))) ∧ w' = w := by
  obtain ⟨b, off, ha, hc⟩ := h.ex
  have hle := h.le
  have hL := h.len
  unfold big at hL
  have HA : Hid _ := ha
  have HC : Hid _ := hc
  obtain ⟨n, hN⟩ : ∃ n, n = L.length := ⟨_, rfl⟩
  have HN : Hid _ := hN
  obtain ⟨R, hR⟩ : ∃ R, R = decide (x ∈ L) := ⟨_, rfl⟩
  have HR : Hid _ := hR
  rw [← hN] at hL hle ⊢
  rw [← hR]
  clear h ha hc hN hR
  go_enter Try.func36, Try.ntmps36
  go_wp2
  go_loopw [5] (fun iv wr => ∃ i : Nat, iv = .int .i64 i ∧ i ≤ n ∧ wr = w ∧ ∀ t (h : t < L.length), t < i → L[t] ≠ x) (fun iv _ => n - (intOf iv).toNat)
  case atStart => exact ⟨0, rfl, Nat.zero_le _, rfl, fun t _ ht => absurd ht (Nat.not_lt_zero _)⟩
  case round =>
    obtain ⟨i, rfl, hi, rfl, hall⟩ := hrel
    have HAl : Hid _ := hall
    clear hall
    by_cases hlt : i < n
    · have hlt' : (i : Int) < (n : Int) := by omega
      have hil : i < L.length := by have := HN.out; omega
      obtain rfl := HA.out (by omega)
      have hcell := HC.out i hil
      obtain ⟨y, hy⟩ : ∃ y, y = L[i] := ⟨_, rfl⟩
      rw [← hy] at hcell
      have HY : Hid _ := hy
      clear hy
      by_cases hyx : y = x
      · subst hyx
        go_wp2
        go_ret
        refine ⟨?_, rfl⟩
        rw [HR.out, decide_eq_true (by rw [HY.out]; exact List.getElem_mem _)]
        rfl
      · have hyx' : (y.toList == x.toList) = false := by
          rw [beq_eq_false_iff_ne]
          intro e
          rw [ByteArray.toList_eq, ByteArray.toList_eq] at e
          exact hyx (gb_inj e)
        go_wp2
        go_roundw
        case rel => exact ⟨i + 1, by go_num, by omega, trivial, fun t ht hti => by
          by_cases e : t = i
          · subst e
            rw [← HY.out]
            exact hyx
          · exact HAl.out t ht (by omega)⟩
        case measure => simp [intOf]; omega
    · have hlt' : ¬ (i : Int) < (n : Int) := by omega
      go_wp2
      go_ret
      refine ⟨?_, rfl⟩
      rw [HR.out, decide_eq_false]
      · rfl
      · intro hm
        obtain ⟨t, ht, h1⟩ := List.getElem_of_mem hm
        exact HAl.out t ht (by have := HN.out; omega) h1
/-- What find tells. -/
def FindP (L : List Inf) (p : ByteArray) (z : Int) : Prop := (z = -1 ∧ p ∉ L.map (·.path)) ∨ ∃ k, ∃ h : k < L.length, z = (k : Int) ∧ L[k].path = p ∧ ∀ t (ht : t < k), (L[t]'(by omega)).path ≠ p
theorem FindP.no {L : List Inf} {p : ByteArray} {z : Int} (h : FindP L p z) (hp : p ∉ L.map (·.path)) : z = -1 := by
  rcases h with h | ⟨k, hk, _, h2, _⟩
  · exact h.1
  · exact absurd (List.mem_map.2 ⟨_, List.getElem_mem hk, h2⟩) hp
theorem FindP.yes {L : List Inf} {p : ByteArray} {z : Int} (h : FindP L p z) (hp : p ∈ L.map (·.path)) : ∃ k, ∃ h : k < L.length, z = (k : Int) ∧ L[k].path = p ∧ ∀ t (ht : t < k), (L[t]'(by omega)).path ≠ p := by
  rcases h with h | h
  · exact absurd hp h.2
  · exact h
set_option maxRecDepth 20000 in
set_option maxHeartbeats 4000000 in
/-- The document's find. -/
theorem refFind_ok (L : List Inf) (a : Option Addr) (c : Nat) (x : ByteArray) (w : World) (h : LsAt w a L c) (hL : L.length ≤ 140737488355328) : Calls Try.prog 27 #[.slice a L.length c, .string x] w fun e w' => (∃ z : Int, e = .returned (.int .i64 z) ∧ FindP L x z) ∧ w' = w := by
  obtain ⟨b, off, ha, hc⟩ := h.ex
  have hle := h.le
  have HA : Hid _ := ha
  have HC : Hid _ := hc
  obtain ⟨n, hN⟩ : ∃ n, n = L.length := ⟨_, rfl⟩
  have HN : Hid _ := hN
  rw [← hN] at hL hle ⊢
  clear h ha hc hN
  go_enter Try.func27, Try.ntmps27
  go_wp2
  go_loopw [5] (fun iv wr => ∃ i : Nat, iv = .int .i64 i ∧ i ≤ n ∧ wr = w ∧ ∀ t (h : t < L.length), t < i → L[t].path ≠ x) (fun iv _ => n - (intOf iv).toNat)
  case atStart => exact ⟨0, rfl, Nat.zero_le _, rfl, fun t _ ht => absurd ht (Nat.not_lt_zero _)⟩
  case round =>
    obtain ⟨i, rfl, hi, rfl, hall⟩ := hrel
    have HAl : Hid _ := hall
    clear hall
    by_cases hlt : i < n
    · have hlt' : (i : Int) < (n : Int) := by omega
      have hil : i < L.length := by have := HN.out; omega
      obtain rfl := HA.out (by omega)
      obtain ⟨ra, rc, hrg, hif⟩ := HC.out i hil
      have hcell : wr.cell? ⟨b, off + i * 4, none⟩ = some (.string L[i].path) := hrg 0 _ rfl
      obtain ⟨y, hy⟩ : ∃ y, y = L[i].path := ⟨_, rfl⟩
      rw [← hy] at hcell
      have HY : Hid _ := hy
      clear hy hrg hif
      by_cases hyx : y = x
      · subst hyx
        have HF : Hid (FindP L y (i : Int)) := .inr ⟨i, hil, rfl, HY.out.symm, fun t ht => HAl.out t (by omega) ht⟩
        go_wp2
        go_ret
        exact ⟨⟨_, rfl, HF.out⟩, rfl⟩
      · have hyx' : (y.toList == x.toList) = false := by
          rw [beq_eq_false_iff_ne]
          intro e
          rw [ByteArray.toList_eq, ByteArray.toList_eq] at e
          exact hyx (gb_inj e)
        go_wp2
        go_roundw
        case rel => exact ⟨i + 1, by go_num, by omega, trivial, fun t ht hti => by
          by_cases e : t = i
          · subst e
            rw [← HY.out]
            exact hyx
          · exact HAl.out t ht (by omega)⟩
        case measure => simp [intOf]; omega
    · have hlt' : ¬ (i : Int) < (n : Int) := by omega
      have HF : Hid (FindP L x (-1)) := .inl ⟨rfl, fun hm => by
        obtain ⟨y, hy, h1⟩ := List.mem_map.1 hm
        obtain ⟨t, ht, rfl⟩ := List.getElem_of_mem hy
        exact HAl.out t ht (by have := HN.out; omega) h1⟩
      go_wp2
      go_ret
      exact ⟨⟨_, rfl, HF.out⟩, rfl⟩
end Go.Proofs.Ytkbhckjpmgkgjaa
