/- My own work: slices.SortFunc at versions, the greatest first. -/
import Derived.Test.YtecbagiionhpjaaDoorVQ
import Derived.Test.YtecbagiionhpjaaDoorShV
import Derived.Test.YtecbagiionhpjaaDoorShW
namespace Go.Proofs.YtecbagiionhpjaaDoor
open Go.RowKit Go.Shelf Go.Lib Go.Sort

abbrev encV (v : Ver) : List Value := [.int .i64 v.n0, .int .i64 v.n1, .int .i64 v.n2, .int .i64 v.n3, .int .i64 v.cnt, .string v.tag]
instance : Inhabited Ver := ⟨zeroV⟩
/-- The greatest first. -/
def downV (a b : Ver) : Int := cmpV b a
theorem ltDown (x y : Ver) : ltOf downV x y = decide (cmpV y x < 0) := rfl
theorem swoV : SWO (ltOf downV) where
  irrefl x := by rw [ltDown, (cmpV_zero x x).2 rfl]; rfl
  trans x y z h1 h2 := by
    rw [ltDown, decide_eq_true_eq] at *
    have h3 := preV.tr z y x (by omega) (by omega)
    by_cases e : cmpV z x = 0
    · have e1 := (cmpV_zero z x).1 e
      subst e1
      have := preV.anti y z
      omega
    · omega
  ntrans x y z h1 h2 := by
    rw [ltDown, decide_eq_false_iff_not] at *
    have a1 := preV.anti y x
    have a2 := preV.anti z y
    have a3 := preV.anti z x
    have := preV.tr x y z (by omega) (by omega)
    omega
set_option maxRecDepth 20000 in
set_option maxHeartbeats 2000000 in
theorem closure_ok (a b : Ver) (W : World) : Calls Tryd.prog 31 #[.agg (verC a), .agg (verC b)] W fun e w' => e = .returned (.int .i64 (downV a b)) ∧ ∃ q os, w' = grow (W.drewN q) os := by
  have hA : Row (twoW W a b) W.heap.size (verC a) 24 := (Row.new W (verC a) 24).alloc _
  have hB : Row (twoW W a b) (W.heap.size + 1) (verC b) 24 := by
    have h := Row.new (W.alloc (.cells (verC a) 24)) (verC b) 24
    rw [World.size_alloc] at h
    exact h
  have HG : Hid (∃ q os, twoW (twoW W a b) b a = grow (W.drewN q) os) := ⟨0, _, by unfold twoW; rw [alloc_eq_grow, alloc_eq_grow, alloc_eq_grow, alloc_eq_grow, grow_grow, grow_grow, grow_grow]; rfl⟩
  obtain ⟨w2, hw2⟩ : ∃ x, x = twoW W a b := ⟨_, rfl⟩
  have hw2' := hw2.symm
  rw [← hw2] at hA hB HG
  have hc := compare_ok b a w2
  unfold downV
  generalize cmpV b a = c at *
  clear hw2
  go_enter Tryd.func31, Tryd.ntmps31
  go_wp2_with (first | (go_at_call 11; refine hc.mono ?_; rintro e w9 ⟨rfl, hw9⟩; rw [hw9]; clear hw9) | refine wpList_load_row rfl 24 _ rfl W.heap.size rfl 24 (verC a) (0, 0) _ hA Tryd.underlying24 rfl infoVs ?_ | refine wpList_load_row rfl 24 _ rfl (W.heap.size + 1) rfl 24 (verC b) (0, 0) _ hB Tryd.underlying24 rfl infoVs ?_)
  go_ret
  exact ⟨rfl, HG.out⟩
theorem cmpLaysV (blk off size : Nat) (w : World) : CmpLays Tryd.prog 31 #[] encV 6 downV blk off size w :=
  fun _ _ _ _ x y => closure_ok x y _
theorem sortV_ok (blk cap : Nat) (d : Array Ver) (w : World) (hH : HoldsK encV 6 w blk 0 d) (hblk : blk < w.heap.size) (hsz : d.size < 4611686018427387904) :
    Calls Tryd.prog 30 #[.slice (some ⟨blk, 0, none⟩) d.size cap, .func (.func 31) #[] #[]] w fun e w' => e = .returned (.tuple #[]) ∧ ∃ d' n os, PermIn 0 d.size d d' ∧ SortedIn (ltOf downV) 0 d.size d' ∧ w' = sortWorldK encV 6 w blk 0 n d' os :=
  AnyQ.slices_SortFunc Tryd.laysSf6 6 Tryd.isAgg24 Tryd.sizeOf24 encV (fun _ => rfl) (fun x u hu => by
    simp only [encV, List.mem_cons, List.not_mem_nil, or_false] at hu
    rcases hu with rfl | rfl | rfl | rfl | rfl | rfl <;> rfl) downV swoV 31 #[] blk 0 cap d w (enters_of Tryd.func31 (by kernel_rfl) rfl) (cmpLaysV blk 0 d.size w) hH hblk hsz
end Go.Proofs.YtecbagiionhpjaaDoor
