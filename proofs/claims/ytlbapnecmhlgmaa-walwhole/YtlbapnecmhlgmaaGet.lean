/- The walks of Get and Put. -/
import Derived.Test.YtlbapnecmhlgmaaDo
namespace Go.Proofs.Ytlbapnecmhlgmaa
open Go.RowKit

theorem i83 (f : Nat → Int) : (Try.prog.info? 83).map (·.size) = some (byts f 256).toArray.size := by
  rw [show (byts f 256).toArray.size = 256 by simp [byts_len]]
  exact info63
theorem z83s (f : Nat → Int) : Try.zeroCells83.size = (byts f 256).toArray.size := by
  rw [show (byts f 256).toArray.size = 256 by simp [byts_len], zc83]
  simp [byts_len]
theorem one83 (f : Nat → Int) : (byts f 256).toArray.all (·.oneCell') = true := all_oneCell_toArray (byts_one f 256)
/-- The bytes of a sector as the transaction has it. -/
def seen (J : Jn) (D : Dk) (n : Nat) : Nat → Int := (lookL J.L n).getD (secF D.B n)

section
variable {w : World} {base g1 c1 g2 c2 gd : Nat} {ev : Value} {D : Dk} {jb gj gm : Nat} {J : Jn}

theorem get_bad (hD : DiskAt w base gd g1 c1 g2 c2 ev D) (hJ : JAt w jb gj gm gd J) (n : Int) (hn : ¬ (0 ≤ n ∧ n < D.s)) :
    Calls Try.prog 23 #[.pointer (some ⟨gj, 0, none⟩), .int .i64 n] w fun e w' => e = .returned (.tuple #[.slice none 0 0, .int .i64 2]) ∧ w' = w := by
  have H1 := jmade_yes hD hJ
  have H2 := jhas_any hD hJ n
  rw [show decide (0 ≤ n ∧ n < (D.s : Int)) = false by simpa using hn] at H2
  clear hD hJ
  go_enter Try.func23, Try.ntmps23
  go_wp2_with fail
  refine H1.mono ?_
  rintro e w' ⟨rfl, hw'⟩
  subst w'
  go_wp2_with fail
  refine H2.mono ?_
  rintro e w' ⟨rfl, hw'⟩
  subst w'
  go_wp2
  go_ret2
  exact ⟨rfl, rfl⟩
set_option maxRecDepth 20000 in
set_option maxHeartbeats 2000000 in
theorem get_ok (hD : DiskAt w base gd g1 c1 g2 c2 ev D) (hJ : JAt w jb gj gm gd J) (n : Nat) (hn : n < D.s) :
    Calls Try.prog 23 #[.pointer (some ⟨gj, 0, none⟩), .int .i64 n] w fun e w' => ∃ q t, e = .returned (.tuple #[.slice (some ⟨q, 0, none⟩) 256 256, .int .i64 0]) ∧ w.heap.size ≤ q ∧ Row w' q (byts (seen J D n) 256).toArray t ∧ Below w.heap.size w w' := by
  have H1 := jmade_yes hD hJ
  have H2 := jhas_any hD hJ n
  rw [show decide (0 ≤ (n : Int) ∧ (n : Int) < (D.s : Int)) = true by simp; omega] at H2
  have c3 := (hJ.row.cell 3).trans (rfl : _ = some (Value.map (some gm)))
  have hnd := hJ.map.nodup
  rcases hJ.map.lookup n true with ⟨j, p, hj, hp, hrun⟩ | ⟨hno, hrun⟩
  · have hk : p.k = n := by omega
    have hse : seen J D n = p.f := by
      unfold seen
      rw [← hk, lookL_some hnd hj]
      rfl
    rw [hse]
    simp only [if_true, entV] at hrun
    have hi := i83 p.f
    have hz := z83s p.f
    have ho := one83 p.f
    generalize (byts p.f 256).toArray = C at *
    clear hD hJ hj hnd hse
    go_enter Try.func23, Try.ntmps23
    go_wp2_with fail
    refine H1.mono ?_
    rintro e w' ⟨rfl, hw'⟩
    subst w'
    go_wp2_with fail
    refine H2.mono ?_
    rintro e w' ⟨rfl, hw'⟩
    subst w'
    clear H1 H2
    go_wp2_with (first
      | refine wpList_store_new rfl 83 _ _ rfl w _ C 83 rfl w.heap.size rfl rfl rfl hi hz ho ?_)
    go_ret2
    exact ⟨w.heap.size, 83, rfl, Nat.le_refl _, Row.new w C 83, (Below.refl _ _).alloc (Nat.le_refl _) _⟩
  · have hse : seen J D n = secF D.B n := by
      unfold seen
      rw [lookL_none (fun p hp e => hno p hp (by omega))]
      rfl
    rw [hse]
    simp only [if_true, entV] at hrun
    have hi := i83 (fun _ => 0)
    have hz := z83s (fun _ => 0)
    have ho := one83 (fun _ => 0)
    generalize (byts (fun _ => 0) 256).toArray = C at *
    have hbA : Below w.heap.size w (w.alloc (.cells C 83)) := (Below.refl _ _).alloc (Nat.le_refl _) _
    have HR := read_ok (hD.below hbA (Nat.le_refl _)) n hn
    have c0 := ((hJ.below hbA).row.cell 0).trans (rfl : _ = some (Value.pointer (some ⟨gd, 0, none⟩)))
    have HHR : Hid _ := HR
    clear hD hJ hnd hse hno HR
    go_enter Try.func23, Try.ntmps23
    go_wp2_with fail
    refine H1.mono ?_
    rintro e w' ⟨rfl, hw'⟩
    subst w'
    go_wp2_with fail
    refine H2.mono ?_
    rintro e w' ⟨rfl, hw'⟩
    subst w'
    clear H1 H2
    go_wp2_with (first
      | refine wpList_store_new rfl 83 _ _ rfl w _ C 83 rfl w.heap.size rfl rfl rfl hi hz ho ?_)
    refine Calls.mono HHR.out ?_
    rintro e w' ⟨rfl, hw'⟩
    subst w'
    clear c3 c0 hrun HHR
    have hR := Row.new (w.alloc (.cells C 83)) (byts (secF D.B n) 256).toArray 5
    have hsq : w.heap.size ≤ (w.alloc (.cells C 83)).heap.size := by simp
    have hB2 := hbA.alloc hsq (.cells (byts (secF D.B n) 256).toArray 5)
    have HR2 : Hid _ := hR
    have HB2 : Hid _ := hB2
    clear hR hB2 hbA
    go_wp2
    go_ret2
    exact ⟨w.heap.size + 1, 5, rfl, by omega, by have h := HR2.out; rwa [World.size_alloc] at h, HB2.out⟩
end
end Go.Proofs.Ytlbapnecmhlgmaa
