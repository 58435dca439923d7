/- My own work: the walks of bytes.ReplaceAll and of has. -/
import Derived.Test.YtpkbfljoakodoaaDoorBRepW
import Derived.Test.YtpkbfljoakodoaaDoorRIn
namespace Go.Proofs.YtpkbfljoakodoaaDoor
open Go.RowKit
open S2 (bl bl_len bl_inj)

set_option maxRecDepth 20000 in
set_option maxHeartbeats 2000000 in
/-- bytes.ReplaceAll: all instances of thirty-two bytes by others, in new memory. -/
theorem breplaceAll_ok (v1 v2 v3 : Value) (l old new : List UInt8) (w : World) (h1 : BsAt w v1 l) (h2 : BsAt w v2 old) (h3 : BsAt w v3 new) (ho : old.length = 32) (hn : new.length = 32) (hl : l.length < 4294967281) (hm : MxTab w) :
    Calls Tryd.prog 51 #[v1, v2, v3] w (BrPost w (rpl old new l)) := by
  have hbr := breplace_ok v1 v2 v3 l old new w h1 h2 h3 ho hn hl hm
  go_enter Tryd.func51, Tryd.ntmps51
  go_wp2_with (go_at_call 67; refine hbr.mono ?_; rintro e w1 hp; have HP : Hid (BrPost w (rpl old new l) e w1) := hp; obtain ⟨a, b, off, c, rfl, _⟩ := hp; clear hbr)
  go_ret
  exact HP.out
/-- What has tells. -/
def HasPost (l : List ByteArray) (s : ByteArray) (w : World) (e : Ending) (w' : World) : Prop := ∃ x : Bool, e = .returned (.bool x) ∧ (x = true ↔ s ∈ l) ∧ w' = w
set_option maxRecDepth 20000 in
set_option maxHeartbeats 2000000 in
/-- has: is a text among texts? -/
theorem has_ok (v : Value) (l : List ByteArray) (s : ByteArray) (w : World) (h : TsAt w v l) : Calls Tryd.prog 20 #[v, .string s] w (HasPost l s w) := by
  obtain ⟨a, b, off, c, rfl, ha, hc, hn, hle, hcp⟩ := h.ex
  unfold maxLen at hcp
  obtain ⟨L, hL⟩ : ∃ L, l.length = L := ⟨_, rfl⟩
  have HL : Hid _ := hL
  have HA : Hid _ := ha
  have HC : Hid _ := hc
  rw [hL] at hle ⊢
  clear ha hc hn h hL
  go_enter Tryd.func20, Tryd.ntmps20
  go_wp2
  go_loopw [5] (fun iv wr => ∃ i : Nat, iv = .int .i64 i ∧ i ≤ L ∧ Hid (s ∉ l.take i) ∧ wr = w) (fun iv _ => L - (intOf iv).toNat)
  case atStart => exact ⟨0, rfl, Nat.zero_le _, by show ¬ _; simp, rfl⟩
  case round =>
    obtain ⟨i, rfl, hi, HI, hw⟩ := hrel
    have HW : Hid _ := hw
    have hw' := hw.symm
    by_cases hlt : i < L
    · have g1 : i < l.length := by rw [HL.out]; exact hlt
      obtain rfl := HA.out (by omega)
      have ct := HC.out i g1
      rw [hw'] at ct
      obtain ⟨t, ht⟩ : ∃ t, t = l[i] := ⟨_, rfl⟩
      rw [← ht] at ct
      have HT : Hid _ := ht
      have hlt' : (i : Int) < (L : Int) := by omega
      clear ht hw hw'
      by_cases he : t = s
      · subst he
        go_wp2
        go_ret
        exact ⟨true, rfl, ⟨fun _ => by rw [HT.out]; exact List.getElem_mem _, fun _ => rfl⟩, HW.out⟩
      · have h2 : (t.toList == s.toList) = false := by
          have : t.toList ≠ s.toList := fun e => he (by
            rw [ByteArray.toList_eq, ByteArray.toList_eq] at e
            exact bl_inj e)
          simpa using this
        have h3 : decide (t = s) = false := decide_eq_false he
        go_wp2
        go_roundw
        case rel =>
          refine ⟨i + 1, by go_num, by omega, ?_, HW.out⟩
          show ¬ _
          rw [List.take_succ_eq_append_getElem g1, List.mem_append, ← HT.out]
          rintro (h | h)
          · exact HI.out h
          · exact he (List.mem_singleton.1 h).symm
        case measure => simp [intOf]; omega
    · have hie : i = L := by omega
      subst hie
      clear hw hw'
      have HN : Hid (s ∉ l) := by
        have h1 := HI.out
        rw [List.take_of_length_le (by rw [HL.out]; exact Nat.le_refl _)] at h1
        exact h1
      go_wp2
      go_ret
      exact ⟨false, rfl, ⟨fun h => by (cases h), fun h => absurd h HN.out⟩, HW.out⟩
end Go.Proofs.YtpkbfljoakodoaaDoor
