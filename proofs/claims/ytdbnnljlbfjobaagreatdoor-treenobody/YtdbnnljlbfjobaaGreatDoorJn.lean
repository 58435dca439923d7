/- A journal in memory, and the calls that only look at it. -/
import Derived.Test.YtdbnnljlbfjobaaGreatDoorMap2
import Derived.Test.YtdbnnljlbfjobaaGreatDoorTexts
namespace Go.Proofs.YtdbnnljlbfjobaaGreatDoor
open Go.RowKit

/-- A journal: where its sectors lie, how many they are, what is put. -/
structure Jn where
  at' : Nat
  sec : Nat
  L : List Pt
/-- It lies in memory: its block, its map. -/
structure JAt (w : World) (base gj gm gd : Nat) (J : Jn) : Prop where
  row : Row w gj #[.pointer (some ⟨gd, 0, none⟩), .int .i64 J.at', .int .i64 J.sec, .map (some gm)] 132
  map : MapAt w gm J.L
  geJ : base ≤ gj
  geM : base ≤ gm
theorem JAt.keep {w w' : World} {base gj gm gd : Nat} {J : Jn} (h : JAt w base gj gm gd J) (h1 : w'.heap[gj]? = w.heap[gj]?) (h2 : w'.heap[gm]? = w.heap[gm]?) : JAt w' base gj gm gd J :=
  ⟨h1.trans h.row, h.map.keep h2, h.geJ, h.geM⟩
theorem JAt.below {w w' : World} {base gj gm gd : Nat} {J : Jn} (h : JAt w base gj gm gd J) (hb : Below w.heap.size w w') : JAt w' base gj gm gd J :=
  h.keep (hb.block _ h.row.lt) (hb.block _ h.map.lt)
/-- A journal that may be, over so many sectors. -/
structure Jn.ok (J : Jn) (s : Nat) : Prop where
  lo : 2 ≤ J.sec
  hi : J.sec ≤ 31
  fits : J.at' + J.sec ≤ s
  few : J.L.length ≤ J.sec - 1
  puts : ∀ p ∈ J.L, p.k < s ∧ (p.k < J.at' ∨ J.at' + J.sec ≤ p.k) ∧ ∀ i, 0 ≤ p.f i ∧ p.f i < 256

/-- The journal stays where the disk changes. -/
theorem JAt.chg {w w' : World} {b0 g g1 c1 g2 c2 : Nat} {ev : Value} {D : Dk} {base gj gm gd : Nat} {J : Jn} (h : JAt w base gj gm gd J) (hD : DiskAt w b0 g g1 c1 g2 c2 ev D) (hc : Chg g g2 ev w w') : JAt w' base gj gm gd J := by
  refine h.keep ((h.row.chg hD hc (by decide) (by decide) (fun e => absurd e (by decide))).trans h.row.symm) (hc.block gm h.map.lt (h.map.row_ne hD.row) ?_ ?_)
  · obtain ⟨_, _, _, _, cur, hr, _⟩ := ownsRow_slice hD.now
    exact h.map.row_ne hr
  · intro e
    obtain ⟨_, _, cur, hr⟩ := ownsRow_lt hD.evs gm e
    exact h.map.row_ne hr rfl
/-- The disk stays where the journal's map changes. -/
theorem DiskAt.one {w w' : World} {b0 g g1 c1 g2 c2 : Nat} {ev : Value} {D : Dk} {gm : Nat} {L : List Pt} (hD : DiskAt w b0 g g1 c1 g2 c2 ev D) (h : MapAt w gm L) (hc : One gm w w') : DiskAt w' b0 g g1 c1 g2 c2 ev D := by
  refine hD.keep fun k hk => hc.block k ?_
  rcases hk with rfl | rfl | rfl | hk
  · exact (h.row_ne hD.row).symm
  · obtain ⟨_, _, _, _, cur, hr, _⟩ := ownsRow_slice hD.first
    exact (h.row_ne hr).symm
  · obtain ⟨_, _, _, _, cur, hr, _⟩ := ownsRow_slice hD.now
    exact (h.row_ne hr).symm
  · obtain ⟨_, _, cur, hr⟩ := ownsRow_lt hD.evs k hk
    exact (h.row_ne hr).symm

section
variable {w : World} {b0 g g1 c1 g2 c2 : Nat} {ev : Value} {D : Dk} {base gj gm gd : Nat} {J : Jn}

theorem jmade_yes (hD : DiskAt w b0 gd g1 c1 g2 c2 ev D) (h : JAt w base gj gm gd J) : Calls Tryz.prog 84 #[.pointer (some ⟨gj, 0, none⟩)] w fun e w' => e = .returned (.bool true) ∧ w' = w := by
  have H := sectors_yes gd g2 D.s c2 w hD.cell1 hD.ok.lo hD.ok.hi
  have hlo := hD.ok.lo
  have c0 := (h.row.cell 0).trans (rfl : _ = some (Value.pointer (some ⟨gd, 0, none⟩)))
  have h0 : 0 < D.s := by omega
  clear hD h
  go_enter Tryz.func84, Tryz.ntmps84
  go_wp2_with fail
  refine H.mono ?_
  rintro e w' ⟨rfl, rfl⟩
  go_wp2
  go_ret
  exact ⟨rfl, rfl⟩
theorem jhas_any (hD : DiskAt w b0 gd g1 c1 g2 c2 ev D) (h : JAt w base gj gm gd J) (n : Int) : Calls Tryz.prog 85 #[.pointer (some ⟨gj, 0, none⟩), .int .i64 n] w fun e w' => e = .returned (.bool (decide (0 ≤ n ∧ n < D.s))) ∧ w' = w := by
  have H := sectors_yes gd g2 D.s c2 w hD.cell1 hD.ok.lo hD.ok.hi
  have c0 := (h.row.cell 0).trans (rfl : _ = some (Value.pointer (some ⟨gd, 0, none⟩)))
  clear hD h
  by_cases hn : 0 ≤ n
  · have hd : decide (0 ≤ n ∧ n < D.s) = decide (n < D.s) := by simp [hn]
    rw [hd]
    clear hd
    go_enter Tryz.func85, Tryz.ntmps85
    go_wp2_with fail
    refine H.mono ?_
    rintro e w' ⟨rfl, rfl⟩
    go_wp2
    go_ret
    exact ⟨rfl, rfl⟩
  · have hd : decide (0 ≤ n ∧ n < D.s) = false := by simp; omega
    rw [hd]
    clear hd H
    go_enter Tryz.func85, Tryz.ntmps85
    go_wp2
    go_ret
    exact ⟨rfl, rfl⟩
set_option maxRecDepth 20000 in
theorem owns_any (h : JAt w base gj gm gd J) (hs : J.at' + J.sec ≤ 100000) (n : Int) : Calls Tryz.prog 86 #[.pointer (some ⟨gj, 0, none⟩), .int .i64 n] w fun e w' => e = .returned (.bool (decide ((J.at' : Int) ≤ n ∧ n < (J.at' : Int) + J.sec))) ∧ w' = w.drew := by
  by_cases hn : (J.at' : Int) ≤ n
  · have hd : decide ((J.at' : Int) ≤ n ∧ n < (J.at' : Int) + J.sec) = decide (n < (J.at' : Int) + J.sec) := by simp [hn]
    rw [hd]
    clear hd
    go_enter Tryz.func86, Tryz.ntmps86
    go_wp2_with fail
    refine wp_region_mix [false, false, false, false, false, false, false, false, false, false, false, false, false, false, false, false, false, false, false, false] (fun wx => Row wx gj #[.pointer (some ⟨gd, 0, none⟩), .int .i64 J.at', .int .i64 J.sec, .map (some gm)] 132) (by kernel_rfl) (by kernel_rfl) h.row ?_
    refine m_move _ rfl (by rfl) ?_
    simp only [Act.put, List.setIfInBounds_toArray, List.set_cons_zero, List.set_cons_succ]
    refine m_move _ rfl (by rfl) ?_
    simp only [Act.put, List.setIfInBounds_toArray, List.set_cons_zero, List.set_cons_succ]
    refine m_value ?_ (by rfl) (fun w hw => ?_) ?_
    rotate_left
    · go_simp
      with_reducible rfl
    simp only [Act.put, List.setIfInBounds_toArray, List.set_cons_zero, List.set_cons_succ]
    refine m_value ?_ (by rfl) (fun w hw => ?_) ?_
    rotate_left
    · go_simp
      with_reducible rfl
    simp only [Act.put, List.setIfInBounds_toArray, List.set_cons_zero, List.set_cons_succ]
    refine m_value ?_ (by rfl) (fun w hw => ?_) ?_
    rotate_left
    · have hc := (hw.cell 1).trans (rfl : _ = some (Value.int .i64 (J.at' : Int)))
      go_simp
      with_reducible rfl
    simp only [Act.put, List.setIfInBounds_toArray, List.set_cons_zero, List.set_cons_succ]
    refine m_value ?_ (by rfl) (fun w hw => ?_) ?_
    rotate_left
    · have hdec : decide ((J.at' : Int) ≤ n) = true := decide_eq_true hn
      go_simp
      with_reducible rfl
    simp only [Act.put, List.setIfInBounds_toArray, List.set_cons_zero, List.set_cons_succ]
    refine m_move _ rfl (by rfl) ?_
    simp only [Act.put, List.setIfInBounds_toArray, List.set_cons_zero, List.set_cons_succ]
    refine m_move _ rfl (by rfl) ?_
    simp only [Act.put, List.setIfInBounds_toArray, List.set_cons_zero, List.set_cons_succ]
    refine m_move _ rfl (by rfl) ?_
    simp only [Act.put, List.setIfInBounds_toArray, List.set_cons_zero, List.set_cons_succ]
    refine m_value ?_ (by rfl) (fun w hw => ?_) ?_
    rotate_left
    · go_simp
      with_reducible rfl
    simp only [Act.put, List.setIfInBounds_toArray, List.set_cons_zero, List.set_cons_succ]
    refine m_value ?_ (by rfl) (fun w hw => ?_) ?_
    rotate_left
    · go_simp
      with_reducible rfl
    simp only [Act.put, List.setIfInBounds_toArray, List.set_cons_zero, List.set_cons_succ]
    refine m_value ?_ (by rfl) (fun w hw => ?_) ?_
    rotate_left
    · have hc := (hw.cell 1).trans (rfl : _ = some (Value.int .i64 (J.at' : Int)))
      go_simp
      with_reducible rfl
    simp only [Act.put, List.setIfInBounds_toArray, List.set_cons_zero, List.set_cons_succ]
    refine m_move _ rfl (by rfl) ?_
    simp only [Act.put, List.setIfInBounds_toArray, List.set_cons_zero, List.set_cons_succ]
    refine m_value ?_ (by rfl) (fun w hw => ?_) ?_
    rotate_left
    · go_simp
      with_reducible rfl
    simp only [Act.put, List.setIfInBounds_toArray, List.set_cons_zero, List.set_cons_succ]
    refine m_value ?_ (by rfl) (fun w hw => ?_) ?_
    rotate_left
    · go_simp
      with_reducible rfl
    simp only [Act.put, List.setIfInBounds_toArray, List.set_cons_zero, List.set_cons_succ]
    refine m_value ?_ (by rfl) (fun w hw => ?_) ?_
    rotate_left
    · have hc := (hw.cell 2).trans (rfl : _ = some (Value.int .i64 (J.sec : Int)))
      go_simp
      with_reducible rfl
    simp only [Act.put, List.setIfInBounds_toArray, List.set_cons_zero, List.set_cons_succ]
    refine m_value ?_ (by rfl) (fun w hw => ?_) ?_
    rotate_left
    · have hwr : IntKind.i64.wrap ((J.at' : Int) + J.sec) = (J.at' : Int) + J.sec := by rw [IntKind.wrap_i64]; omega
      go_simp
      with_reducible rfl
    simp only [Act.put, List.setIfInBounds_toArray, List.set_cons_zero, List.set_cons_succ]
    refine m_value ?_ (by rfl) (fun w hw => ?_) ?_
    rotate_left
    · go_simp
      with_reducible rfl
    simp only [Act.put, List.setIfInBounds_toArray, List.set_cons_zero, List.set_cons_succ]
    refine m_value ?_ (by rfl) (fun w hw => ?_) ?_
    rotate_left
    · go_simp
      with_reducible rfl
    simp only [Act.put, List.setIfInBounds_toArray, List.set_cons_zero, List.set_cons_succ]
    refine m_assign _ rfl (by rfl) ?_
    simp only [Act.put, List.setIfInBounds_toArray, List.set_cons_zero, List.set_cons_succ]
    refine m_done ?_
    try simp only [Exit.then]
    go_wp2
    go_ret
    exact ⟨rfl, rfl⟩
  · have hd : decide ((J.at' : Int) ≤ n ∧ n < (J.at' : Int) + J.sec) = false := by simp; omega
    rw [hd]
    clear hd
    go_enter Tryz.func86, Tryz.ntmps86
    go_wp2_with fail
    refine wp_region_mix [false, false, false, false, false, false, false, false, false, false, false, false, false, false, false, false, false, false, false, false] (fun wx => Row wx gj #[.pointer (some ⟨gd, 0, none⟩), .int .i64 J.at', .int .i64 J.sec, .map (some gm)] 132) (by kernel_rfl) (by kernel_rfl) h.row ?_
    refine m_move _ rfl (by rfl) ?_
    simp only [Act.put, List.setIfInBounds_toArray, List.set_cons_zero, List.set_cons_succ]
    refine m_move _ rfl (by rfl) ?_
    simp only [Act.put, List.setIfInBounds_toArray, List.set_cons_zero, List.set_cons_succ]
    refine m_value ?_ (by rfl) (fun w hw => ?_) ?_
    rotate_left
    · go_simp
      with_reducible rfl
    simp only [Act.put, List.setIfInBounds_toArray, List.set_cons_zero, List.set_cons_succ]
    refine m_value ?_ (by rfl) (fun w hw => ?_) ?_
    rotate_left
    · go_simp
      with_reducible rfl
    simp only [Act.put, List.setIfInBounds_toArray, List.set_cons_zero, List.set_cons_succ]
    refine m_value ?_ (by rfl) (fun w hw => ?_) ?_
    rotate_left
    · have hc := (hw.cell 1).trans (rfl : _ = some (Value.int .i64 (J.at' : Int)))
      go_simp
      with_reducible rfl
    simp only [Act.put, List.setIfInBounds_toArray, List.set_cons_zero, List.set_cons_succ]
    refine m_value ?_ (by rfl) (fun w hw => ?_) ?_
    rotate_left
    · have hdec : decide ((J.at' : Int) ≤ n) = false := decide_eq_false (by omega)
      go_simp
      with_reducible rfl
    simp only [Act.put, List.setIfInBounds_toArray, List.set_cons_zero, List.set_cons_succ]
    refine m_move _ rfl (by rfl) ?_
    simp only [Act.put, List.setIfInBounds_toArray, List.set_cons_zero, List.set_cons_succ]
    refine m_skip (by rfl) ?_
    simp only [Act.put, List.setIfInBounds_toArray, List.set_cons_zero, List.set_cons_succ]
    refine m_skip (by rfl) ?_
    simp only [Act.put, List.setIfInBounds_toArray, List.set_cons_zero, List.set_cons_succ]
    refine m_skip (by rfl) ?_
    simp only [Act.put, List.setIfInBounds_toArray, List.set_cons_zero, List.set_cons_succ]
    refine m_skip (by rfl) ?_
    simp only [Act.put, List.setIfInBounds_toArray, List.set_cons_zero, List.set_cons_succ]
    refine m_skip (by rfl) ?_
    simp only [Act.put, List.setIfInBounds_toArray, List.set_cons_zero, List.set_cons_succ]
    refine m_skip (by rfl) ?_
    simp only [Act.put, List.setIfInBounds_toArray, List.set_cons_zero, List.set_cons_succ]
    refine m_skip (by rfl) ?_
    simp only [Act.put, List.setIfInBounds_toArray, List.set_cons_zero, List.set_cons_succ]
    refine m_skip (by rfl) ?_
    simp only [Act.put, List.setIfInBounds_toArray, List.set_cons_zero, List.set_cons_succ]
    refine m_skip (by rfl) ?_
    simp only [Act.put, List.setIfInBounds_toArray, List.set_cons_zero, List.set_cons_succ]
    refine m_skip (by rfl) ?_
    simp only [Act.put, List.setIfInBounds_toArray, List.set_cons_zero, List.set_cons_succ]
    refine m_skip (by rfl) ?_
    simp only [Act.put, List.setIfInBounds_toArray, List.set_cons_zero, List.set_cons_succ]
    refine m_value ?_ (by rfl) (fun w hw => ?_) ?_
    rotate_left
    · go_simp
      with_reducible rfl
    simp only [Act.put, List.setIfInBounds_toArray, List.set_cons_zero, List.set_cons_succ]
    refine m_assign _ rfl (by rfl) ?_
    simp only [Act.put, List.setIfInBounds_toArray, List.set_cons_zero, List.set_cons_succ]
    refine m_done ?_
    try simp only [Exit.then]
    go_wp2
    go_ret
    exact ⟨rfl, rfl⟩
theorem data_any (h : JAt w base gj gm gd J) (hs : J.at' ≤ 100000) (i : Nat) (hi : i ≤ 1000) : Calls Tryz.prog 90 #[.pointer (some ⟨gj, 0, none⟩), .int .i64 i] w fun e w' => e = .returned (.int .i64 ((J.at' : Int) + 1 + i)) ∧ w' = w := by
  have c1 := (h.row.cell 1).trans (rfl : _ = some (Value.int .i64 (J.at' : Int)))
  clear h
  go_enter Tryz.func90, Tryz.ntmps90
  go_wp2
  go_ret
  exact ⟨rfl, rfl⟩
theorem most_yes (hD : DiskAt w b0 gd g1 c1 g2 c2 ev D) (h : JAt w base gj gm gd J) (hs : J.sec ≤ 31) : Calls Tryz.prog 87 #[.pointer (some ⟨gj, 0, none⟩)] w fun e w' => e = .returned (.int .i64 ((J.sec : Int) - 1)) ∧ w' = w := by
  have H := jmade_yes hD h
  have c2 := (h.row.cell 2).trans (rfl : _ = some (Value.int .i64 (J.sec : Int)))
  clear hD h
  go_enter Tryz.func87, Tryz.ntmps87
  go_wp2_with fail
  refine H.mono ?_
  rintro e w' ⟨rfl, rfl⟩
  go_wp2
  go_ret
  exact ⟨rfl, rfl⟩
end
end Go.Proofs.YtdbnnljlbfjobaaGreatDoor
