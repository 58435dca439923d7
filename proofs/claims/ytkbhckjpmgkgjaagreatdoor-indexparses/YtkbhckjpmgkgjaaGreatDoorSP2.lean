/- My own work: piece, All, compare. -/
import Derived.Test.YtkbhckjpmgkgjaaGreatDoorSP1
namespace Go.Proofs.YtkbhckjpmgkgjaaGreatDoor
open Go.RowKit

theorem none_set (w : World) : SetAt (w.alloc (.cells #[.bool true, .slice none 0 0] 213)) (.pointer (some ⟨w.heap.size, 0, none⟩)) [] (w.heap.size + 1) :=
  ⟨w.heap.size, .slice none 0 0, rfl, Nat.lt_succ_self _, Row.new w _ _, ⟨none, 0, 0, 0, rfl, fun h => absurd h (by simp), Nat.le_refl _, fun _ => rfl, fun i hi => absurd hi (by simp)⟩⟩
/-- A new set lies behind all that was, and nothing of that has changed. -/
def NewSet (L : List Cut) (w : World) (e : Ending) (w' : World) : Prop := ∃ p, e = .returned p ∧ SetAt w' p L w'.heap.size ∧ Below w.heap.size w w'
theorem none_ok' (w : World) : Calls Tryz.prog 147 #[] w (NewSet [] w) :=
  (none_call w).mono fun _ _ ⟨h1, h2⟩ => ⟨_, h1, by rw [h2]; exact (none_set w).mono (by simp), by rw [h2]; exact (Below.refl _ _).alloc (Nat.le_refl _) _⟩
abbrev twoC (w : World) (a b : Cut) : World := (w.alloc (.cells (cutC a) 216)).alloc (.cells (cutC b) 216)
abbrev encV1 (v : Ver) : List Value := [.int .i64 v.n0, .int .i64 v.n1, .int .i64 v.n2, .int .i64 v.n3, .int .i64 v.cnt, .string v.tag]
abbrev pieceC (a b : Cut) : Array Value := (encC a ++ encC b).toArray
set_option maxHeartbeats 800000 in
theorem piece_call (a b : Cut) (w : World) : Calls Tryz.prog 143 #[cutV a, cutV b] w fun e w' => e = .returned (.pointer (some ⟨w.heap.size + 3, 0, none⟩)) ∧ w' = ((twoC w a b).alloc (.cells (pieceC a b) 216)).alloc (.cells #[.bool true, .slice (some ⟨w.heap.size + 2, 0, none⟩) 2 2] 213) := by
  have hA : Row (twoC w a b) w.heap.size (cutC a) 216 := (Row.new w (cutC a) 216).alloc _
  have hB : Row (twoC w a b) (w.heap.size + 1) (cutC b) 216 := by
    have h := Row.new (w.alloc (.cells (cutC a) 216)) (cutC b) 216
    rw [World.size_alloc] at h
    exact h
  have hz : (twoC w a b).heap.size = w.heap.size + 2 := by simp
  obtain ⟨w2, hw2⟩ : ∃ x, x = twoC w a b := ⟨_, rfl⟩
  have hw2' := hw2.symm
  rw [← hw2] at hA hB hz ⊢
  clear hw2
  go_enter Tryz.func143, Tryz.ntmps143
  go_wp2_with (first | refine wpList_load_row rfl 216 _ rfl w.heap.size rfl 216 (cutC a) (0, 0) _ hA Tryz.underlying216 rfl infoC ?_ | refine wpList_load_row rfl 216 _ rfl (w.heap.size + 1) rfl 216 (cutC b) (0, 0) _ hB Tryz.underlying216 rfl infoC ?_)
  go_ret
  exact ⟨rfl, rfl⟩
theorem piece_new (a b : Cut) (w : World) : Calls Tryz.prog 143 #[cutV a, cutV b] w (NewSet [a, b] w) := by
  refine (piece_call a b w).mono fun e w' ⟨h1, h2⟩ => ⟨_, h1, ?_, ?_⟩
  · have hr := Row.new (twoC w a b) (pieceC a b) 216
    have hz : (twoC w a b).heap.size = w.heap.size + 2 := by simp
    have hz3 : ((twoC w a b).alloc (.cells (pieceC a b) 216)).heap.size = w.heap.size + 3 := by simp
    have hr2 := hr.alloc (.cells #[.bool true, .slice (some ⟨w.heap.size + 2, 0, none⟩) 2 2] 213)
    have hs := Row.new ((twoC w a b).alloc (.cells (pieceC a b) 216)) #[.bool true, .slice (some ⟨w.heap.size + 2, 0, none⟩) 2 2] 213
    rw [hz3] at hs
    rw [hz] at hr2
    rw [← h2] at hr2 hs
    refine ⟨w.heap.size + 3, _, rfl, hs.lt, hs, ⟨some ⟨w.heap.size + 2, 0, none⟩, w.heap.size + 2, 0, 2, rfl, fun _ => ⟨rfl, hr2.lt⟩, Nat.le_refl _, (fun h => by cases h), fun i hi j u hj => ?_⟩⟩
    rw [hr2.cell]
    have hj7 : j < 7 := (List.getElem?_eq_some_iff.1 hj).1
    match i, hi with
    | 0, _ => rw [Nat.zero_mul, Nat.zero_add, List.getElem?_toArray, List.getElem?_append_left (by simpa using hj7)]; exact hj
    | 1, _ => rw [Nat.one_mul, Nat.zero_add, List.getElem?_toArray, List.getElem?_append_right (by simp), show 7 + j - (encC a).length = j by simp]; exact hj
  · rw [h2]
    exact ((((Below.refl _ _).alloc (Nat.le_refl _) _).alloc (by simp) _).alloc (by simp; omega) _).alloc (by simp; omega) _
set_option maxHeartbeats 800000 in
theorem all_new (w : World) : Calls Tryz.prog 141 #[] w (NewSet allC w) := by
  have h := piece_new beg fin w
  go_enter Tryz.func141, Tryz.ntmps141
  go_wp2_with fail
  refine h.mono ?_
  rintro e w1 ⟨p, rfl, h1, h2⟩
  clear h
  go_wp2
  go_ret
  exact ⟨p, rfl, h1, h2⟩
theorem beqI {a b : Int} (h : ¬ a = b) : (a == b) = false := by simpa using h
set_option maxRecDepth 20000 in
set_option maxHeartbeats 2000000 in
theorem compareC (a b : Cut) (w : World) : Calls Tryz.prog 131 #[cutV a, cutV b] w fun e w' => e = .returned (.int .i64 (cmpC a b)) ∧ Below w.heap.size w w' := by
  have hA : Row (twoC w a b) w.heap.size (cutC a) 216 := (Row.new w (cutC a) 216).alloc _
  have hB : Row (twoC w a b) (w.heap.size + 1) (cutC b) 216 := by
    have h := Row.new (w.alloc (.cells (cutC a) 216)) (cutC b) 216
    rw [World.size_alloc] at h
    exact h
  have HB2 : Hid (Below w.heap.size w (twoC w a b)) := ((Below.refl _ _).alloc (Nat.le_refl _) _).alloc (by simp) _
  obtain ⟨w2, hw2⟩ : ∃ x, x = twoC w a b := ⟨_, rfl⟩
  have hw2' := hw2.symm
  rw [← hw2] at hA hB HB2
  clear hw2
  have a0 : w2.cell? ⟨w.heap.size, 0, none⟩ = some (.int .i64 a.side) := (hA.cell 0).trans rfl
  have b0 : w2.cell? ⟨w.heap.size + 1, 0, none⟩ = some (.int .i64 b.side) := (hB.cell 0).trans rfl
  have ra : w2.rangeAt w.heap.size 1 (encV1 a.v) := fun j u hj => by
    rw [hA.cell, Nat.add_comm]
    show (encC a).toArray[j + 1]? = _
    rw [List.getElem?_toArray, List.getElem?_cons_succ]
    exact hj
  have rb : w2.rangeAt (w.heap.size + 1) 1 (encV1 b.v) := fun j u hj => by
    rw [hB.cell, Nat.add_comm]
    show (encC b).toArray[j + 1]? = _
    rw [List.getElem?_toArray, List.getElem?_cons_succ]
    exact hj
  have hcm := compare_any a.v b.v w2
  by_cases e : a = b
  · have HR : Hid (cmpC a b = 0) := by show _ = _; unfold cmpC; rw [if_pos e]
    have hd : decide (a = b) = true := decide_eq_true e
    clear e ra rb hcm
    go_enter Tryz.func131, Tryz.ntmps131
    go_wp2_with (first | refine wpList_load_row rfl 216 _ rfl w.heap.size rfl 216 (cutC a) (0, 0) _ hA Tryz.underlying216 rfl infoC ?_ | refine wpList_load_row rfl 216 _ rfl (w.heap.size + 1) rfl 216 (cutC b) (0, 0) _ hB Tryz.underlying216 rfl infoC ?_ | (refine wp_eqc a b rfl _ _ rfl rfl rfl ?_; rw [hd]))
    go_ret
    exact ⟨by rw [HR.out]; rfl, HB2.out⟩
  · have hd : decide (a = b) = false := decide_eq_false e
    by_cases h1 : a.side = 0 ∨ b.side = 3
    · have HR : Hid (cmpC a b = -1) := by show _ = _; unfold cmpC; rw [if_neg e, if_pos h1]
      clear e ra rb hcm
      by_cases k1 : a.side = 0
      · rw [k1] at a0
        clear h1 k1
        go_enter Tryz.func131, Tryz.ntmps131
        go_wp2_with (first | refine wpList_load_row rfl 216 _ rfl w.heap.size rfl 216 (cutC a) (0, 0) _ hA Tryz.underlying216 rfl infoC ?_ | refine wpList_load_row rfl 216 _ rfl (w.heap.size + 1) rfl 216 (cutC b) (0, 0) _ hB Tryz.underlying216 rfl infoC ?_ | (refine wp_eqc a b rfl _ _ rfl rfl rfl ?_; rw [hd]))
        go_ret
        exact ⟨by rw [HR.out]; rfl, HB2.out⟩
      · have k2 : b.side = 3 := h1.resolve_left k1
        rw [k2] at b0
        have k1' := beqI k1
        clear h1 k2
        go_enter Tryz.func131, Tryz.ntmps131
        go_wp2_with (first | refine wpList_load_row rfl 216 _ rfl w.heap.size rfl 216 (cutC a) (0, 0) _ hA Tryz.underlying216 rfl infoC ?_ | refine wpList_load_row rfl 216 _ rfl (w.heap.size + 1) rfl 216 (cutC b) (0, 0) _ hB Tryz.underlying216 rfl infoC ?_ | (refine wp_eqc a b rfl _ _ rfl rfl rfl ?_; rw [hd]))
        go_ret
        exact ⟨by rw [HR.out]; rfl, HB2.out⟩
    · have k1 : ¬ a.side = 0 := fun h => h1 (Or.inl h)
      have k2 : ¬ b.side = 3 := fun h => h1 (Or.inr h)
      have k1' := beqI k1
      have k2' := beqI k2
      by_cases h2 : a.side = 3 ∨ b.side = 0
      · have HR : Hid (cmpC a b = 1) := by show _ = _; unfold cmpC; rw [if_neg e, if_neg h1, if_pos h2]
        clear e ra rb hcm h1
        by_cases k3 : a.side = 3
        · rw [k3] at a0
          clear h2 k3
          go_enter Tryz.func131, Tryz.ntmps131
          go_wp2_with (first | refine wpList_load_row rfl 216 _ rfl w.heap.size rfl 216 (cutC a) (0, 0) _ hA Tryz.underlying216 rfl infoC ?_ | refine wpList_load_row rfl 216 _ rfl (w.heap.size + 1) rfl 216 (cutC b) (0, 0) _ hB Tryz.underlying216 rfl infoC ?_ | (refine wp_eqc a b rfl _ _ rfl rfl rfl ?_; rw [hd]))
          go_ret
          exact ⟨by rw [HR.out]; rfl, HB2.out⟩
        · have k4 : b.side = 0 := h2.resolve_left k3
          rw [k4] at b0
          have k3' := beqI k3
          clear h2 k4 k2 k2'
          go_enter Tryz.func131, Tryz.ntmps131
          go_wp2_with (first | refine wpList_load_row rfl 216 _ rfl w.heap.size rfl 216 (cutC a) (0, 0) _ hA Tryz.underlying216 rfl infoC ?_ | refine wpList_load_row rfl 216 _ rfl (w.heap.size + 1) rfl 216 (cutC b) (0, 0) _ hB Tryz.underlying216 rfl infoC ?_ | (refine wp_eqc a b rfl _ _ rfl rfl rfl ?_; rw [hd]))
          go_ret
          exact ⟨by rw [HR.out]; rfl, HB2.out⟩
      · have k3 : ¬ a.side = 3 := fun h => h2 (Or.inl h)
        have k4 : ¬ b.side = 0 := fun h => h2 (Or.inr h)
        have k3' := beqI k3
        have k4' := beqI k4
        by_cases h3 : a.v = b.v
        · have hdv : decide (a.v = b.v) = true := decide_eq_true h3
          clear hcm
          by_cases h4 : a.side = 1
          · have HR : Hid (cmpC a b = -1) := by show _ = _; unfold cmpC; rw [if_neg e, if_neg h1, if_neg h2, if_neg (fun h => h h3), if_pos h4]
            clear e h1 h2 h3
            rw [h4] at a0
            clear k1 k1' k3 k3' h4
            go_enter Tryz.func131, Tryz.ntmps131
            go_wp2_with (first | refine wpList_load_row rfl 216 _ rfl w.heap.size rfl 216 (cutC a) (0, 0) _ hA Tryz.underlying216 rfl infoC ?_ | refine wpList_load_row rfl 216 _ rfl (w.heap.size + 1) rfl 216 (cutC b) (0, 0) _ hB Tryz.underlying216 rfl infoC ?_ | (refine wp_eqc a b rfl _ _ rfl rfl rfl ?_; rw [hd]) | refine wpList_load_mid rfl 112 _ rfl w.heap.size 1 rfl _ _ ra Tryz.underlying112 rfl infoVs ?_ | refine wpList_load_mid rfl 112 _ rfl (w.heap.size + 1) 1 rfl _ _ rb Tryz.underlying112 rfl infoVs ?_ | (refine wp_neqK a.v b.v rfl _ _ rfl rfl rfl ?_; rw [hdv, Bool.not_true]))
            go_ret
            exact ⟨by rw [HR.out]; rfl, HB2.out⟩
          · have HR : Hid (cmpC a b = 1) := by show _ = _; unfold cmpC; rw [if_neg e, if_neg h1, if_neg h2, if_neg (fun h => h h3), if_neg h4]
            have h4' := beqI h4
            clear e h1 h2 h3
            go_enter Tryz.func131, Tryz.ntmps131
            go_wp2_with (first | refine wpList_load_row rfl 216 _ rfl w.heap.size rfl 216 (cutC a) (0, 0) _ hA Tryz.underlying216 rfl infoC ?_ | refine wpList_load_row rfl 216 _ rfl (w.heap.size + 1) rfl 216 (cutC b) (0, 0) _ hB Tryz.underlying216 rfl infoC ?_ | (refine wp_eqc a b rfl _ _ rfl rfl rfl ?_; rw [hd]) | refine wpList_load_mid rfl 112 _ rfl w.heap.size 1 rfl _ _ ra Tryz.underlying112 rfl infoVs ?_ | refine wpList_load_mid rfl 112 _ rfl (w.heap.size + 1) 1 rfl _ _ rb Tryz.underlying112 rfl infoVs ?_ | (refine wp_neqK a.v b.v rfl _ _ rfl rfl rfl ?_; rw [hdv, Bool.not_true]))
            go_ret
            exact ⟨by rw [HR.out]; rfl, HB2.out⟩
        · have hdv : decide (a.v = b.v) = false := decide_eq_false h3
          have HR : Hid (cmpC a b = cmpV a.v b.v) := by show _ = _; unfold cmpC; rw [if_neg e, if_neg h1, if_neg h2, if_pos h3]
          generalize cmpV a.v b.v = c at hcm HR
          clear e h1 h2 h3
          go_enter Tryz.func131, Tryz.ntmps131
          go_wp2_with (first | refine wpList_load_row rfl 216 _ rfl w.heap.size rfl 216 (cutC a) (0, 0) _ hA Tryz.underlying216 rfl infoC ?_ | refine wpList_load_row rfl 216 _ rfl (w.heap.size + 1) rfl 216 (cutC b) (0, 0) _ hB Tryz.underlying216 rfl infoC ?_ | (refine wp_eqc a b rfl _ _ rfl rfl rfl ?_; rw [hd]) | refine wpList_load_mid rfl 112 _ rfl w.heap.size 1 rfl _ _ ra Tryz.underlying112 rfl infoVs ?_ | refine wpList_load_mid rfl 112 _ rfl (w.heap.size + 1) 1 rfl _ _ rb Tryz.underlying112 rfl infoVs ?_ | (refine wp_neqK a.v b.v rfl _ _ rfl rfl rfl ?_; rw [hdv, Bool.not_false]) | (go_at_call 61; refine hcm.mono ?_; rintro e w9 ⟨rfl, hb9⟩))
          go_ret
          exact ⟨by rw [HR.out]; rfl, HB2.out.trans (hb9.mono HB2.out.size)⟩
end Go.Proofs.YtkbhckjpmgkgjaaGreatDoor
