/- My own work: what the laws of refdb call themselves: few, has, same. -/
import Derived.Test.YtkbhckjpmgkgjaaG13
namespace Go.Proofs.Ytkbhckjpmgkgjaa
open Go.RowKit

theorem below_drewN {B : Nat} {a w : World} (h : Below B a w) (n : Nat) : Below B a (w.drewN n) := ⟨h.os, h.tape, h.output, h.size, h.block⟩
def FewPost (L : List Inf) (w : World) (e : Ending) (w' : World) : Prop := w' = w ∧ ∃ b : Bool, e = .returned (.bool b) ∧ (b = true → L.length < 400 ∧ ∀ i ∈ L, i.refs.length < 400)
set_option maxRecDepth 20000 in
set_option maxHeartbeats 4000000 in
/-- few: whether there are few; where it tells so, there are. -/
theorem few_ok (L : List Inf) (a : Option Addr) (c : Nat) (w : World) (h : LsAt w a L c) (hL : L.length ≤ 140737488355328) : Calls Try.prog 4 #[.slice a L.length c] w (FewPost L w) := by
  obtain ⟨b, off, ha, hc⟩ := h.ex
  have hle := h.le
  have HA : Hid _ := ha
  have HC : Hid _ := hc
  obtain ⟨n, hN⟩ : ∃ n, n = L.length := ⟨_, rfl⟩
  have HN : Hid _ := hN
  rw [← hN] at hL hle ⊢
  clear h ha hc hN
  go_enter Try.func4, Try.ntmps4
  go_wp2
  go_loopw [3, 4] (fun sv iv wr => ∃ i s : Nat, iv = .int .i64 i ∧ sv = .int .i64 s ∧ i ≤ n ∧ wr = w ∧ s ≤ 281474976710656 ∧ (s < 400 → n < 400 ∧ ∀ t (h : t < L.length), t < i → L[t].refs.length < 400)) (fun _ iv _ => n - (intOf iv).toNat)
  case atStart => exact ⟨0, n, rfl, rfl, Nat.zero_le _, rfl, by omega, fun h => ⟨h, fun t _ ht => absurd ht (Nat.not_lt_zero _)⟩⟩
  case round =>
    obtain ⟨i, s, rfl, rfl, hi, rfl, hs, hall⟩ := hrel
    have HAl : Hid _ := hall
    clear hall
    by_cases hlt : i < n
    · have hlt' : (i : Int) < (n : Int) := by omega
      by_cases h4 : s < 400
      · have h4' : (s : Int) < 400 := by omega
        have hil : i < L.length := by have := HN.out; omega
        obtain rfl := HA.out (by omega)
        obtain ⟨ra, rc, hrg, hif⟩ := HC.out i hil
        have q3 : wr.cell? ⟨b, off + i * 4 + 3, none⟩ = some (.slice ra L[i].refs.length rc) := hrg 3 _ rfl
        obtain ⟨m, hm⟩ : ∃ m, m = L[i].refs.length := ⟨_, rfl⟩
        rw [← hm] at q3
        have hmb := hif.refs.len
        rw [← hm] at hmb
        unfold big at hmb
        have HM : Hid _ := hm
        clear hm hrg hif
        go_wp2
        go_roundw
        case rel => exact ⟨i + 1, s + m, by go_num, by go_num, by omega, trivial, by omega, fun h5 => ⟨(HAl.out (by omega)).1, fun t ht hti => by
          by_cases e : t = i
          · subst e
            rw [← HM.out]
            omega
          · exact (HAl.out (by omega)).2 t ht (by omega)⟩⟩
        case measure => simp [intOf]; omega
      · have h4' : ¬ (s : Int) < 400 := by omega
        go_wp2
        go_ret
        exact ⟨rfl, false, rfl, fun h => by cases h⟩
    · have hlt' : ¬ (i : Int) < (n : Int) := by omega
      by_cases h4 : s < 400
      · have h4' : (s : Int) < 400 := by omega
        have h5 := HAl.out h4
        go_wp2
        go_ret
        refine ⟨rfl, true, rfl, fun _ => ⟨by rw [← HN.out]; exact h5.1, fun x hx => ?_⟩⟩
        obtain ⟨t, ht, rfl⟩ := List.getElem_of_mem hx
        exact h5.2 t ht (by have := HN.out; omega)
      · have h4' : ¬ (s : Int) < 400 := by omega
        go_wp2
        go_ret
        exact ⟨rfl, false, rfl, fun h => by cases h⟩
set_option maxRecDepth 20000 in
set_option maxHeartbeats 4000000 in
/-- same: two lists that are alike. -/
theorem same_ok (a1 a2 : Option Addr) (l : List ByteArray) (c1 c2 : Nat) (w : World) (h1 : StrsAt w a1 l c1) (h2 : StrsAt w a2 l c2) : Calls Try.prog 15 #[.slice a1 l.length c1, .slice a2 l.length c2] w fun e w' => e = .returned (.bool true) ∧ Below w.heap.size w w' := by
  obtain ⟨b1, o1, ha1, hc1⟩ := h1.ex
  obtain ⟨b2, o2, ha2, hc2⟩ := h2.ex
  have hl1 := h1.le
  have hl2 := h2.le
  have hm := h1.len
  unfold big at hm
  have HA1 : Hid _ := ha1
  have HA2 : Hid _ := ha2
  have HC1 : Hid (∀ wx, Below w.heap.size w wx → ∀ i (h : i < l.length), wx.cell? ⟨b1, o1 + i, none⟩ = some (.string l[i])) := fun wx hx i h => (World.cell?_of_block (w := w) (hx.block b1 (World.block_lt_of_cell? _ _ (hc1 i h)))).trans (hc1 i h)
  have HC2 : Hid (∀ wx, Below w.heap.size w wx → ∀ i (h : i < l.length), wx.cell? ⟨b2, o2 + i, none⟩ = some (.string l[i])) := fun wx hx i h => (World.cell?_of_block (w := w) (hx.block b2 (World.block_lt_of_cell? _ _ (hc2 i h)))).trans (hc2 i h)
  obtain ⟨L1, hL1⟩ : ∃ L, L = l.length := ⟨_, rfl⟩
  rw [← hL1]
  rw [← hL1] at hl1 hl2 hm
  have HL1 : Hid _ := hL1
  clear ha1 ha2 hc1 hc2 hL1 h1 h2
  go_enter Try.func15, Try.ntmps15
  go_wp2
  go_loopw [5] (fun i wr => ∃ n : Nat, i = .int .i64 n ∧ n ≤ L1 ∧ Below w.heap.size w wr) (fun i _ => L1 - (intOf i).toNat)
  case atStart => exact ⟨0, rfl, Nat.zero_le _, Below.refl _ _⟩
  case round =>
    obtain ⟨n, rfl, hn, hB⟩ := hrel
    have HB : Hid _ := hB
    clear hB
    by_cases hlt : n < L1
    · have g1 : n < l.length := by have := HL1.out; omega
      obtain rfl := HA1.out (by omega)
      obtain rfl := HA2.out (by omega)
      obtain ⟨x, hx⟩ : ∃ x, x = l[n] := ⟨_, rfl⟩
      have k1 := HC1.out wr.drew (HB.out.trans ((Below.refl _ _).drew.mono HB.out.size)) n g1
      have k2 := HC2.out wr.drew (HB.out.trans ((Below.refl _ _).drew.mono HB.out.size)) n g1
      rw [← hx] at k1 k2
      have k1' : wr.cell? ⟨b1, o1 + n, none⟩ = some (.string x) := k1
      have k2' : wr.cell? ⟨b2, o2 + n, none⟩ = some (.string x) := k2
      have hlt' : (n : Int) < (L1 : Int) := by omega
      clear hx
      go_wp2_with fail
      go_quiet (fail)
      obtain ⟨w4, hw4⟩ : ∃ u, u = wr.drewN nq := ⟨_, rfl⟩
      rw [← hw4]
      have HB4 : Hid (Below w.heap.size w w4) := by
        rw [hw4]
        exact below_drewN HB.out nq
      clear hw4 k1 k2 k1' k2'
      go_wp2
      go_roundw
      case rel => exact ⟨n + 1, by go_num, by omega, HB4.out⟩
      case measure => simp [intOf]; omega
    · have hlt' : ¬ (n : Int) < (L1 : Int) := by omega
      go_wp2
      go_ret
      exact ⟨rfl, HB.out⟩
end Go.Proofs.Ytkbhckjpmgkgjaa
