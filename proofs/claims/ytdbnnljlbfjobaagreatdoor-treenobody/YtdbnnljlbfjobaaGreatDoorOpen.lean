/- The walk of Open where no header stands. -/
import Derived.Test.YtdbnnljlbfjobaaGreatDoorCommit
namespace Go.Proofs.YtdbnnljlbfjobaaGreatDoor
open Go.RowKit

def s8 (f : Nat → Int) : ByteArray := strOfNums ((List.range 8).map f)
theorem conv8 (w : World) (b cap : Nat) (f : Nat → Int) (h : ∀ i, i < 8 → w.cell? ⟨b, i, none⟩ = some (.int .u8 (f i))) : (convert 31 9 (.slice (some ⟨b, 0, none⟩) 8 cap)).run Tryz.prog w = .ok (.string (s8 f)) w := by
  refine run_convert_bytes_arg (P := Tryz.prog) w 31 5 Tryz.underlying31 Tryz.underlying5 b 0 8 cap ((List.range 8).map f) (by simp) (fun i hi => ?_) 9 Tryz.underlying9
  rw [Nat.zero_add, h i hi]
  simp [List.getD, hi]
/-- Bytes that do not begin with the mark. -/
def unmarked (f : Nat → Int) : Prop := ((s8 f).toList == [115, 116, 105, 108, 108, 119, 97, 108]) = false
theorem unmarked_zero (f : Nat → Int) (h : ∀ i, i < 8 → f i = 0) : unmarked f := by
  unfold unmarked s8
  rw [show (List.range 8).map f = [0, 0, 0, 0, 0, 0, 0, 0] by simp [List.range, List.range.loop, h]]
  kernel_rfl

set_option maxRecDepth 20000 in
theorem look_no (j : Value) (b c : Nat) (f : Nat → Int) (w : World) (hc : 256 ≤ c) (hc2 : c ≤ maxLen) (hcell : ∀ i, i < 256 → w.cell? ⟨b, i, none⟩ = some (.int .u8 (f i))) (hne : unmarked f) :
    Calls Tryz.prog 108 #[j, .slice (some ⟨b, 0, none⟩) 256 c] w fun e w' => e = .returned (.tuple #[.slice none 0 0, .bool false]) ∧ w' = w := by
  unfold maxLen at hc2
  have hcv := fun cap => conv8 w b cap f (fun i hi => hcell i (by omega))
  unfold unmarked at hne
  obtain ⟨S, hS⟩ : ∃ S, s8 f = S := ⟨_, rfl⟩
  simp only [hS] at hcv hne
  clear hcell hS
  go_enter Tryz.func108, Tryz.ntmps108
  go_wp2
  go_step3
  go_wp2
  (try rw [Exit.noGoto_ret])
  go_ret2
  exact ⟨rfl, rfl⟩

set_option maxRecDepth 20000 in
set_option maxHeartbeats 2000000 in
theorem open_new {w : World} {base g1 c1 g2 c2 gd : Nat} {ev : Value} {D : Dk} (hD : DiskAt w base gd g1 c1 g2 c2 ev D) (at' sec : Nat) (h2 : 2 ≤ sec) (h31 : sec ≤ 31) (hfit : at' + sec ≤ D.s) (hne : unmarked (secF D.B at')) :
    Calls Tryz.prog 66 #[.pointer (some ⟨gd, 0, none⟩), .int .i64 at', .int .i64 sec] w fun e w' => ∃ gj gm, e = .returned (.tuple #[.pointer (some ⟨gj, 0, none⟩), .int .i64 0]) ∧ JAt w' w.heap.size gj gm gd ⟨at', sec, []⟩ ∧ Below w.heap.size w w' := by
  have hlo := hD.ok.lo
  have hhi := hD.ok.hi
  have H1 := sectors_yes gd g2 D.s c2 w hD.cell1 hlo hhi
  have hbM : Below w.heap.size w (w.alloc (.map #[] 0)) := (Below.refl _ _).alloc (Nat.le_refl _) _
  have hbJ : Below w.heap.size w ((w.alloc (.map #[] 0)).alloc (.cells #[.pointer (some ⟨gd, 0, none⟩), .int .i64 at', .int .i64 sec, .map (some w.heap.size)] 132)) := hbM.alloc hbM.size _
  have hJ : JAt ((w.alloc (.map #[] 0)).alloc (.cells #[.pointer (some ⟨gd, 0, none⟩), .int .i64 at', .int .i64 sec, .map (some w.heap.size)] 132)) w.heap.size (w.heap.size + 1) w.heap.size gd ⟨at', sec, []⟩ := by
    refine ⟨?_, (MapAt.made w).below ((Below.refl _ _).alloc (Nat.le_refl _) _), by omega, Nat.le_refl _⟩
    have h := Row.new (w.alloc (.map #[] 0)) #[.pointer (some ⟨gd, 0, none⟩), .int .i64 at', .int .i64 sec, .map (some w.heap.size)] 132
    rw [World.size_alloc] at h
    exact h
  have hDJ := hD.below hbJ (Nat.le_refl _)
  have HR := read_ok hDJ at' (by omega)
  have hW2 : ∀ W : World, Row (W.alloc (.cells (byts (fun i => D.B (at' * 256 + i)) 256).toArray 5)) W.heap.size (byts (fun i => D.B (at' * 256 + i)) 256).toArray 5 := fun W => Row.new W _ 5
  have HL := fun W : World => look_no (.pointer (some ⟨w.heap.size + 1, 0, none⟩)) W.heap.size 256 (secF D.B at') (W.alloc (.cells (byts (fun i => D.B (at' * 256 + i)) 256).toArray 5)) (Nat.le_refl _) (by decide) (fun i hi => by
    rw [(hW2 W).cell i]
    show _ = some (Value.int .u8 (D.B (at' * 256 + i)))
    simpa using byts_at (fun i => D.B (at' * 256 + i)) 256 i hi) hne
  generalize (byts (fun i => D.B (at' * 256 + i)) 256).toArray = C at *
  have HHR : Hid _ := HR
  have HHL : Hid _ := HL
  have HJ : Hid _ := hJ
  have HB : Hid _ := hbJ
  have hmm : ∀ w : World, (Instr.makeMap 130 none).run Tryz.prog w = .ok (.map (some w.heap.size)) (w.alloc (.map #[] 0)) := fun _ => rfl
  have h1 : ¬ (D.s : Int) = 0 := by omega
  have h3 : ¬ (sec : Int) < 2 := by omega
  have h4 : ¬ (31 : Int) < sec := by omega
  have h5 : ¬ ((D.s : Int) - sec < at') := by omega
  clear hD hDJ HR HL hJ hbJ hbM hW2 hne
  go_enter Tryz.func66, Tryz.ntmps66
  go_wp2_with fail
  refine H1.mono ?_
  rintro e w' ⟨rfl, hw'⟩
  subst w'
  go_wp2_with fail
  refine H1.mono ?_
  rintro e w' ⟨rfl, hw'⟩
  subst w'
  clear H1
  go_wp2_with fail
  refine Calls.mono HHR.out ?_
  rintro e w' ⟨rfl, hw'⟩
  subst w'
  generalize (w.alloc (.map #[] 0)).alloc (.cells #[.pointer (some ⟨gd, 0, none⟩), .int .i64 at', .int .i64 sec, .map (some w.heap.size)] 132) = wJ at *
  go_wp2_with fail
  refine Calls.mono (HHL.out wJ) ?_
  rintro e w' ⟨rfl, hw'⟩
  subst w'
  have hJ2 : Hid (JAt (wJ.alloc (.cells C 5)) w.heap.size (w.heap.size + 1) w.heap.size gd ⟨at', sec, []⟩) := HJ.out.below ((Below.refl _ _).alloc (Nat.le_refl _) _)
  have hB2 : Hid (Below w.heap.size w (wJ.alloc (.cells C 5))) := HB.out.alloc HB.out.size _
  clear HHR HHL HJ HB
  go_wp2
  go_ret2
  exact ⟨_, _, rfl, hJ2.out, hB2.out⟩
end Go.Proofs.YtdbnnljlbfjobaaGreatDoor
