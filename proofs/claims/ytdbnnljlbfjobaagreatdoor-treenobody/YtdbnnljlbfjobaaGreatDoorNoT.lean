/- My own work: trees that no call made. -/
import Derived.Test.YtdbnnljlbfjobaaGreatDoorNone
import Derived.Test.YtdbnnljlbfjobaaGreatDoorNd
import Derived.Test.YtdbnnljlbfjobaaGreatDoorRCell
namespace Go.Proofs.YtdbnnljlbfjobaaGreatDoor
open Go.RowKit

/-- No tree: nil, or three pointers that are nil. -/
def NoTree (w : World) (t : Value) : Prop := t = .pointer none ∨ ∃ g, t = .pointer (some ⟨g, 0, none⟩) ∧ Row w g #[.pointer none, .pointer none, .pointer none] 50
theorem NoTree.below {w w' : World} {t : Value} (h : NoTree w t) (hb : Below w.heap.size w w') : NoTree w' t := h.imp id fun ⟨g, e, r⟩ => ⟨g, e, r.below hb r.lt⟩
/-- The zero Node's cells. -/
abbrev node0 : Array Value := #[.int .i64 0, .bool false, .slice none 0 0, .slice none 0 0, .slice none 0 0]

theorem tmade_no (t : Value) (w : World) (h : NoTree w t) : Calls Tryz.prog 31 #[t] w fun e w' => e = .returned (.bool false) ∧ w' = w := by
  rcases h with rfl | ⟨g, rfl, hR⟩
  · go_enter Tryz.func31, Tryz.ntmps31
    go_wp2
    go_ret
    exact ⟨rfl, rfl⟩
  · have hc : w.cell? ⟨g, 2, none⟩ = some (.pointer none) := (hR.cell 2).trans rfl
    clear hR
    go_enter Tryz.func31, Tryz.ntmps31
    go_wp2
    go_ret
    exact ⟨rfl, rfl⟩

theorem tremove_no (t p : Value) (w : World) (h : NoTree w t) : Calls Tryz.prog 22 #[t, p] w fun e w' => e = .returned (.int .i64 1) ∧ w' = w := by
  have H := tmade_no t w h
  clear h
  go_enter Tryz.func22, Tryz.ntmps22
  go_wp2_with fail
  refine H.mono ?_
  rintro e w' ⟨rfl, rfl⟩
  go_wp2
  go_ret
  exact ⟨rfl, rfl⟩

theorem trename_no (t p q : Value) (w : World) (h : NoTree w t) : Calls Tryz.prog 23 #[t, p, q] w fun e w' => e = .returned (.int .i64 1) ∧ w' = w := by
  have H := tmade_no t w h
  clear h
  go_enter Tryz.func23, Tryz.ntmps23
  go_wp2_with fail
  refine H.mono ?_
  rintro e w' ⟨rfl, rfl⟩
  go_wp2
  go_ret
  exact ⟨rfl, rfl⟩

theorem tcommit_no (t  : Value) (w : World) (h : NoTree w t) : Calls Tryz.prog 13 #[t] w fun e w' => e = .returned (.int .i64 1) ∧ w' = w := by
  have H := tmade_no t w h
  clear h
  go_enter Tryz.func13, Tryz.ntmps13
  go_wp2_with fail
  refine H.mono ?_
  rintro e w' ⟨rfl, rfl⟩
  go_wp2
  go_ret
  exact ⟨rfl, rfl⟩

theorem tabort_no (t  : Value) (w : World) (h : NoTree w t) : Calls Tryz.prog 14 #[t] w fun e w' => e = .returned (.int .i64 1) ∧ w' = w := by
  have H := tmade_no t w h
  clear h
  go_enter Tryz.func14, Tryz.ntmps14
  go_wp2_with fail
  refine H.mono ?_
  rintro e w' ⟨rfl, rfl⟩
  go_wp2
  go_ret
  exact ⟨rfl, rfl⟩

theorem troom_no (t  : Value) (w : World) (h : NoTree w t) : Calls Tryz.prog 17 #[t] w fun e w' => e = .returned (.tuple #[.int .i64 0, .int .i64 0]) ∧ w' = w := by
  have H := tmade_no t w h
  clear h
  go_enter Tryz.func17, Tryz.ntmps17
  go_wp2_with fail
  refine H.mono ?_
  rintro e w' ⟨rfl, rfl⟩
  go_wp2
  go_ret2
  exact ⟨rfl, rfl⟩

theorem tget_no (t p : Value) (w : World) (h : NoTree w t) : Calls Tryz.prog 19 #[t, p] w fun e w' => e = .returned (.tuple #[.agg node0, .int .i64 1]) ∧ Below w.heap.size w w' := by
  have hb : Below w.heap.size w (w.alloc (.cells node0 35)) := (Below.refl _ _).alloc (Nat.le_refl _) _
  have H := tmade_no t _ (h.below hb)
  have HB : Hid _ := hb
  clear h hb
  go_enter Tryz.func19, Tryz.ntmps19
  go_wp2_with fail
  refine H.mono ?_
  rintro e w' ⟨rfl, rfl⟩
  go_wp2
  refine bodyPost_ret (results_cell_row2 rfl _ _ w.heap.size 35 _ (0, 0) _ rfl (Row.new w node0 35) Tryz.underlying35 rfl infoN) rfl ⟨rfl, HB.out⟩

theorem tput_no (t p : Value) (C : Array Value) (w : World) (hC : C = #[.int .i64 1, .bool false, .slice none 0 0, .slice none 0 0, .slice none 0 0]) (h : NoTree w t) : Calls Tryz.prog 21 #[t, p, .agg C] w fun e w' => e = .returned (.int .i64 1) ∧ Below w.heap.size w w' := by
  have hb : Below w.heap.size w (w.alloc (.cells C 35)) := (Below.refl _ _).alloc (Nat.le_refl _) _
  have H := tmade_no t _ (h.below hb)
  have HB : Hid _ := hb
  clear h hb
  subst hC
  go_enter Tryz.func21, Tryz.ntmps21
  go_wp2_with fail
  refine H.mono ?_
  rintro e w' ⟨rfl, rfl⟩
  go_wp2
  go_ret
  exact ⟨rfl, HB.out⟩

end Go.Proofs.YtdbnnljlbfjobaaGreatDoor
