/- My own work: which infos may be, by the document's own words. -/
import Derived.Test.YthidlckipiamkaaDoorOT2
namespace Go.Proofs.YthidlckipiamkaaDoor
open Go.RowKit
open S2 (bl bl_len bl_inj splitB splitV Tab NTab arr)

theorem risR_len {ns : List ByteArray} (h : ∀ j, 0 < j → j < ns.length → leT (ns.getD j ⟨#[]⟩) (ns.getD (j - 1) ⟨#[]⟩) = false) : risR ns = decide (ns.length ≤ 1024) := by
  by_cases hl : ns.length ≤ 1024
  · rw [decide_eq_true hl]
    refine risR_yes fun j hj => ?_
    unfold risAt
    rw [decide_eq_false (by omega)]
    by_cases h0 : j = 0
    · rw [decide_eq_true h0]; rfl
    · rw [h j (by omega) hj]; simp
  · rw [decide_eq_false hl]
    exact risR_no (j := 1024) (by omega) rfl
set_option maxRecDepth 20000 in
set_option maxHeartbeats 4000000 in
theorem rrises_ok (a : Option Addr) (ns : List ByteArray) (c : Nat) (w : World) (h : StrsAt w a ns c) :
    Calls Tryd.prog 26 #[.slice a ns.length c] w fun r w' => r = .returned (.bool (risR ns)) ∧ Below w.heap.size w w' := by
  obtain ⟨b, o, hat, hcell⟩ := h.ex
  have hm := h.le
  have hc := h.cap
  unfold maxLen at hc
  have HCe : Hid (∀ wx, Below w.heap.size w wx → ∀ i (hi : i < ns.length), wx.cell? ⟨b, o + i, none⟩ = some (.string (ns.getD i ⟨#[]⟩))) := fun wx hb i hi => by
    have e : ns.getD i ⟨#[]⟩ = ns[i] := by simp [List.getD, hi]
    rw [e]
    exact (World.cell?_of_block (w := w) (hb.block b (World.block_lt_of_cell? w _ (hcell i hi)))).trans (hcell i hi)
  obtain ⟨m, hmm⟩ : ∃ m, m = ns.length := ⟨_, rfl⟩
  have HM : Hid _ := hmm
  rw [← hmm] at hat hm ⊢
  clear hcell h hmm
  go_enter Tryd.func26, Tryd.ntmps26
  go_wp2
  go_loopw [3] (fun iv wx => ∃ i : Nat, iv = .int .i64 i ∧ 0 < i ∧ i ≤ m + 1 ∧ Hid (Below w.heap.size w wx) ∧ Hid (∀ j, 0 < j → j < i → j < ns.length → leT (ns.getD j ⟨#[]⟩) (ns.getD (j - 1) ⟨#[]⟩) = false)) (fun iv _ => m + 1 - (intOf iv).toNat)
  case atStart => exact ⟨1, rfl, by omega, by omega, Below.refl _ _, fun j h1 h2 _ => absurd h2 (by omega)⟩
  case round =>
    obtain ⟨i, rfl, hi0, hi, HB, HZ⟩ := hrel
    by_cases hlt : i < m
    · have hlt' : (i : Int) < (m : Int) := by omega
      obtain rfl := hat (by omega)
      have hin : i < ns.length := by rw [← HM.out]; exact hlt
      obtain ⟨k, hk0⟩ : ∃ k, k = i - 1 := ⟨_, rfl⟩
      have hk : (i : Int) - 1 = (k : Int) := by omega
      have hlk : k < ns.length := by omega
      have hlk' : (k : Int) < (m : Int) := by omega
      have hwk : IntKind.i64.wrap (k : Int) = k := by rw [IntKind.wrap_i64]; omega
      have c1 := HCe.out wr HB.out i hin
      have c2 := HCe.out wr HB.out k hlk
      have HNo : Hid (leT (ns.getD i ⟨#[]⟩) (ns.getD k ⟨#[]⟩) = true → risR ns = false) := fun h => risR_no hin (by
        unfold risAt
        rw [← hk0, h, decide_eq_false (show ¬ i = 0 by omega)]
        simp)
      have HYe : Hid (leT (ns.getD i ⟨#[]⟩) (ns.getD k ⟨#[]⟩) = false → ∀ j, 0 < j → j < i + 1 → j < ns.length → leT (ns.getD j ⟨#[]⟩) (ns.getD (j - 1) ⟨#[]⟩) = false) := fun h j h1 h2 h3 => by
        rcases Nat.lt_succ_iff_lt_or_eq.1 h2 with h4 | h4
        · exact HZ.out j h1 h4 h3
        · rw [h4, ← hk0]; exact h
      obtain ⟨x, hx⟩ : ∃ x, x = ns.getD i ⟨#[]⟩ := ⟨_, rfl⟩
      obtain ⟨y, hy⟩ : ∃ y, y = ns.getD k ⟨#[]⟩ := ⟨_, rfl⟩
      rw [← hx, ← hy] at HNo HYe
      rw [← hx] at c1
      rw [← hy] at c2
      clear hx hy hk0
      cases hl : leT x y with
      | true =>
        have HE : Hid _ := HNo.out hl
        unfold leT at hl
        go_wp2
        go_quiet (fail)
        go_wp2
        go_ret
        exact ⟨by rw [HE.out]; rfl, below_drewN HB.out _⟩
      | false =>
        have HY : Hid _ := HYe.out hl
        unfold leT at hl
        go_wp2
        go_quiet (fail)
        go_wp2
        go_roundw
        case rel => exact ⟨i + 1, by go_num, by omega, by omega, below_drewN HB.out _, HY.out⟩
        case measure => simp [intOf]; omega
    · have hlt' : ¬ (i : Int) < (m : Int) := by omega
      have HE : Hid (risR ns = decide (m ≤ 1024)) := by
        show _ = _
        rw [HM.out]
        exact risR_len fun j h1 h2 => HZ.out j h1 (by have := HM.out; omega) h2
      go_wp2
      go_ret
      exact ⟨by rw [HE.out]; simp; omega, HB.out⟩
end Go.Proofs.YthidlckipiamkaaDoor
