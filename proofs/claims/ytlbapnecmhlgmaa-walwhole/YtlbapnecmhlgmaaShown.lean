/- The walk of shown: all sectors outside the journal, as one text. -/
import Derived.Test.YtlbapnecmhlgmaaOpen
namespace Go.Proofs.Ytlbapnecmhlgmaa
open Go.RowKit

def shN (B : Nat → Int) : Nat → ByteArray
  | 0 => ⟨#[]⟩
  | n + 1 => shN B n ++ S B (4 + n)
theorem sStr_size (f : Nat → Int) : (sStr f).size = 256 := by
  unfold sStr
  rw [strOfNums_size]
  simp
theorem shN_size (B : Nat → Int) (n : Nat) : (shN B n).size = 256 * n := by
  induction n with
  | zero => rfl
  | succ n ih =>
    show (shN B n ++ S B (4 + n)).size = _
    rw [ByteArray.size_append, ih, show (S B (4 + n)).size = 256 from sStr_size _]
    omega
set_option maxRecDepth 20000 in
set_option maxHeartbeats 2000000 in
theorem shown_ok {w : World} {base g1 c1 g2 c2 gd : Nat} {ev : Value} {D : Dk} (hD : DiskAt w base gd g1 c1 g2 c2 ev D) (h12 : D.s = 12) :
    Calls Try.prog 25 #[.pointer (some ⟨gd, 0, none⟩)] w fun e w' => e = .returned (.string (shN D.B 8)) ∧ Below w.heap.size w w' := by
  have HD : Hid _ := hD
  clear hD
  go_enter Try.func25, Try.ntmps25
  go_wp2
  go_loopw [3, 4] (fun sv iv wx => ∃ n : Nat, n ≤ 8 ∧ iv = .int .i64 ((4 : Int) + n) ∧ sv = .string (shN D.B n) ∧ Hid (Below w.heap.size w wx)) (fun _ iv _ => 12 - (intOf iv).toNat)
  case atStart => exact ⟨0, by omega, by go_num, rfl, Below.refl _ _⟩
  case round =>
    obtain ⟨n, hn, rfl, rfl, hB⟩ := hrel
    by_cases hlt : n < 8
    · have hDr := HD.out.below hB.out (Nat.le_refl _)
      have HR := read_ok hDr (4 + n) (by omega)
      rw [show ((4 + n : Nat) : Int) = 4 + (n : Int) by omega] at HR
      have hcv : (convert 40 9 (.slice (some ⟨wr.heap.size, 0, none⟩) 256 256)).run Try.prog (wr.alloc (.cells (byts (fun i => D.B ((4 + n) * 256 + i)) 256).toArray 5)) = .ok (.string (S D.B (4 + n))) (wr.alloc (.cells (byts (fun i => D.B ((4 + n) * 256 + i)) 256).toArray 5)) := conv256 _ wr.heap.size 0 256 _ (fun i hi => by
        rw [Nat.zero_add, (Row.new wr _ 5).cell i]
        simpa using byts_at (fun i => D.B ((4 + n) * 256 + i)) 256 i hi)
      have hadd := fun w => run_string_add_sum (P := Try.prog) (w := w) (shN D.B n) (S D.B (4 + n)) (by rw [shN_size, show (S D.B (4 + n)).size = 256 from sStr_size _]; omega)
      have hnx : Hid (shN D.B (n + 1) = shN D.B n ++ S D.B (4 + n)) := (rfl : _ = _)
      generalize (byts (fun i => D.B ((4 + n) * 256 + i)) 256).toArray = C at *
      generalize shN D.B n = T at *
      generalize S D.B (4 + n) = T2 at *
      have HHR : Hid _ := HR
      have hB2 : Hid (Below w.heap.size w (wr.alloc (.cells C 5))) := hB.out.alloc hB.out.size _
      have hlI : (4 : Int) + n < 12 := by omega
      clear HR hDr
      go_wp2_with fail
      refine Calls.mono HHR.out ?_
      rintro e w' ⟨rfl, hw'⟩
      subst w'
      go_wp2
      go_roundw
      case rel => exact ⟨n + 1, by omega, by go_num, by rw [show shN D.B (n + 1) = _ from hnx.out], hB2⟩
      case measure => simp [intOf]; omega
    · have hn8 : n = 8 := by omega
      subst hn8
      go_wp2
      go_ret
      exact ⟨rfl, hB.out⟩
end Go.Proofs.Ytlbapnecmhlgmaa
