/- My own work: trees that no call made. -/
import Derived.Test.YtppgidmeeaodkaaGreatDoorNone
import Derived.Test.YtppgidmeeaodkaaGreatDoorNd
import Derived.Test.YtppgidmeeaodkaaGreatDoorRCell
namespace Go.Proofs.YtppgidmeeaodkaaGreatDoor
open Go.RowKit

/-- No tree: nil, or three pointers that are nil. -/
def NoTree (w : World) (t : Value) : Prop := t = .pointer none ∨ ∃ g, t = .pointer (some ⟨g, 0, none⟩) ∧ Row w g #[.pointer none, .pointer none, .pointer none] 72
theorem NoTree.below {w w' : World} {t : Value} (h : NoTree w t) (hb : Below w.heap.size w w') : NoTree w' t := h.imp id fun ⟨g, e, r⟩ => ⟨g, e, r.below hb r.lt⟩
/-- The zero Node's cells. -/
abbrev node0 : Array Value := #[.int .i64 0, .bool false, .slice none 0 0, .slice none 0 0, .slice none 0 0]

theorem tmade_no (t : Value) (w : World) (h : NoTree w t) : Calls Tryz.prog 57 #[t] w fun e w' => e = .returned (.bool false) ∧ w' = w := by
  rcases h with rfl | ⟨g, rfl, hR⟩
  · go_enter Tryz.func57, Tryz.ntmps57
    go_wp2
    go_ret
    exact ⟨rfl, rfl⟩
  · have hc : w.cell? ⟨g, 2, none⟩ = some (.pointer none) := (hR.cell 2).trans rfl
    clear hR
    go_enter Tryz.func57, Tryz.ntmps57
    go_wp2
    go_ret
    exact ⟨rfl, rfl⟩

theorem tremove_no (t p : Value) (w : World) (h : NoTree w t) : Calls Tryz.prog 32 #[t, p] w fun e w' => e = .returned (.int .i64 1) ∧ w' = w := by
  have H := tmade_no t w h
  clear h
  go_enter Tryz.func32, Tryz.ntmps32
  go_wp2_with fail
  refine H.mono ?_
  rintro e w' ⟨rfl, rfl⟩
  go_wp2
  go_ret
  exact ⟨rfl, rfl⟩

theorem tcommit_no (t  : Value) (w : World) (h : NoTree w t) : Calls Tryz.prog 20 #[t] w fun e w' => e = .returned (.int .i64 1) ∧ w' = w := by
  have H := tmade_no t w h
  clear h
  go_enter Tryz.func20, Tryz.ntmps20
  go_wp2_with fail
  refine H.mono ?_
  rintro e w' ⟨rfl, rfl⟩
  go_wp2
  go_ret
  exact ⟨rfl, rfl⟩

theorem tget_no (t p : Value) (w : World) (h : NoTree w t) : Calls Tryz.prog 22 #[t, p] w fun e w' => e = .returned (.tuple #[.agg node0, .int .i64 1]) ∧ Below w.heap.size w w' := by
  have hb : Below w.heap.size w (w.alloc (.cells node0 40)) := (Below.refl _ _).alloc (Nat.le_refl _) _
  have H := tmade_no t _ (h.below hb)
  have HB : Hid _ := hb
  clear h hb
  go_enter Tryz.func22, Tryz.ntmps22
  go_wp2_with fail
  refine H.mono ?_
  rintro e w' ⟨rfl, rfl⟩
  go_wp2
  refine bodyPost_ret (results_cell_row2 rfl _ _ w.heap.size 40 _ (0, 0) _ rfl (Row.new w node0 40) Tryz.underlying40 rfl infoN) rfl ⟨rfl, HB.out⟩

theorem tput_no (t p : Value) (C : Array Value) (w : World) (hC : C = #[.int .i64 1, .bool false, .slice none 0 0, .slice none 0 0, .slice none 0 0]) (h : NoTree w t) : Calls Tryz.prog 33 #[t, p, .agg C] w fun e w' => e = .returned (.int .i64 1) ∧ Below w.heap.size w w' := by
  have hb : Below w.heap.size w (w.alloc (.cells C 40)) := (Below.refl _ _).alloc (Nat.le_refl _) _
  have H := tmade_no t _ (h.below hb)
  have HB : Hid _ := hb
  clear h hb
  subst hC
  go_enter Tryz.func33, Tryz.ntmps33
  go_wp2_with fail
  refine H.mono ?_
  rintro e w' ⟨rfl, rfl⟩
  go_wp2
  go_ret
  exact ⟨rfl, HB.out⟩

end Go.Proofs.YtppgidmeeaodkaaGreatDoor
