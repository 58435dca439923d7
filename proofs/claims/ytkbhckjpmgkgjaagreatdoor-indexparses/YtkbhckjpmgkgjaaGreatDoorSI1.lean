/- My own work: strings.IndexRune of any rune in the ten digits. -/
import Derived.Test.YtkbhckjpmgkgjaaGreatDoorVQ
import Derived.Laws.Runes
import Derived.Laws.RangeAny
import Derived.Lib.OthersKept
import Derived.Deep.LoopGhost
import Derived.BigQuiet
namespace Go.Proofs.YtkbhckjpmgkgjaaGreatDoor
open Go.RowKit

/-- The ten digits. -/
abbrev digs : ByteArray := ⟨#[48, 49, 50, 51, 52, 53, 54, 55, 56, 57]⟩
theorem digs_at (i : Nat) (h : i < 10) : ∃ hh : i < digs.size, (digs[i]'hh).toNat = 48 + i := by
  have : i = 0 ∨ i = 1 ∨ i = 2 ∨ i = 3 ∨ i = 4 ∨ i = 5 ∨ i = 6 ∨ i = 7 ∨ i = 8 ∨ i = 9 := by omega
  rcases this with rfl | rfl | rfl | rfl | rfl | rfl | rfl | rfl | rfl | rfl <;> exact ⟨by decide, rfl⟩
set_option maxHeartbeats 400000 in
theorem sIndexByte (s : ByteArray) (c : UInt8) (w : World) : Calls Tryz.prog 70 #[.string s, .int .u8 c.toNat] w fun e w' => e = .returned (.int .i64 (Lib.indexByte (vb s) c)) ∧ w' = w := by
  have h := indexByte_in s c w
  generalize Lib.indexByte (vb s) c = r at *
  go_enter Tryz.func70, Tryz.ntmps70
  go_wp2_with fail
  refine h.mono ?_
  rintro e w1 ⟨rfl, hw1⟩
  rw [hw1]
  clear hw1 h
  go_wp2
  go_ret
  exact ⟨rfl, rfl⟩
set_option maxRecDepth 20000 in
set_option maxHeartbeats 1000000 in
theorem rune_low (x : UInt8) (hx : x.toNat < 128) (w : World) : Calls Tryz.prog 164 #[.string digs, .int .i32 x.toNat] w fun e w' => e = .returned (.int .i64 (Lib.indexByte (vb digs) x)) ∧ w' = w := by
  have h := sIndexByte digs x w
  have h0 : (0 : Int) ≤ (x.toNat : Int) := by omega
  have h1 : (x.toNat : Int) < 128 := by omega
  have h2 : IntKind.u8.wrap (x.toNat : Int) = (x.toNat : Int) := by unfold IntKind.wrap; simp [IntKind.bits, IntKind.signed]; omega
  generalize Lib.indexByte (vb digs) x = r at *
  generalize (x.toNat : Int) = n at *
  go_enter Tryz.func164, Tryz.ntmps164
  go_wp2_with fail
  refine h.mono ?_
  rintro e w1 ⟨rfl, hw1⟩
  rw [hw1]
  clear hw1 h
  go_wp2
  go_ret
  exact ⟨rfl, rfl⟩
set_option maxHeartbeats 400000 in
theorem valid_ok (r : Int) (w : World) : Calls Tryz.prog 179 #[.int .i32 r] w fun e w' => e = .returned (.bool (validRune r)) ∧ w' = w := by
  by_cases h1 : 0 ≤ r
  · by_cases h2 : r < 55296
    · have HE : Hid (validRune r = true) := decide_eq_true (Or.inl ⟨h1, h2⟩)
      go_enter Tryz.func179, Tryz.ntmps179
      go_wp2
      go_ret
      exact ⟨by rw [HE.out]; rfl, rfl⟩
    · by_cases h3 : 57343 < r
      · by_cases h4 : r ≤ 1114111
        · have HE : Hid (validRune r = true) := decide_eq_true (Or.inr ⟨h3, h4⟩)
          go_enter Tryz.func179, Tryz.ntmps179
          go_wp2
          go_ret
          exact ⟨by rw [HE.out]; rfl, rfl⟩
        · have HE : Hid (validRune r = false) := decide_eq_false (by omega)
          go_enter Tryz.func179, Tryz.ntmps179
          go_wp2
          go_ret
          exact ⟨by rw [HE.out]; rfl, rfl⟩
      · have HE : Hid (validRune r = false) := decide_eq_false (by omega)
        go_enter Tryz.func179, Tryz.ntmps179
        go_wp2
        go_ret
        exact ⟨by rw [HE.out]; rfl, rfl⟩
  · have HE : Hid (validRune r = false) := decide_eq_false (by omega)
    have h3 : ¬ 57343 < r := by omega
    go_enter Tryz.func179, Tryz.ntmps179
    go_wp2
    go_ret
    exact ⟨by rw [HE.out]; rfl, rfl⟩
theorem below_iter (w : World) (s : ByteArray) (p : Nat) : Below w.heap.size w (w.iter s p) := (Below.refl _ _).alloc (Nat.le_refl _) _
theorem beqI' {a b : Int} (h : ¬ a = b) : (a == b) = false := by simpa using h
theorem len_bytes2 {rs : ByteArray} (h : rs.size = 2) : ∃ p0 p1, rs = ⟨#[p0, p1]⟩ := by
  obtain ⟨⟨l⟩⟩ := rs
  match l, h with
  | [a, b], _ => exact ⟨a, b, rfl⟩
theorem len_bytes3 {rs : ByteArray} (h : rs.size = 3) : ∃ p0 p1 p2, rs = ⟨#[p0, p1, p2]⟩ := by
  obtain ⟨⟨l⟩⟩ := rs
  match l, h with
  | [a, b, c], _ => exact ⟨a, b, c, rfl⟩
theorem len_bytes4 {rs : ByteArray} (h : rs.size = 4) : ∃ p0 p1 p2 p3, rs = ⟨#[p0, p1, p2, p3]⟩ := by
  obtain ⟨⟨l⟩⟩ := rs
  match l, h with
  | [a, b, c, d], _ => exact ⟨a, b, c, d, rfl⟩
theorem index_high (s : ByteArray) (c : UInt8) (hs : ∀ b ∈ vb s, b.toNat < 128) (hc : 128 ≤ c.toNat) : Lib.indexByte (vb s) c = -1 := by
  rcases index_cut (vb s) c with ⟨h, _⟩ | ⟨k, _, hk, h3⟩
  · exact h
  · have h4 := (cutAt_back h3).1
    have : c ∈ vb s := by rw [h4]; simp
    have := hs c this
    omega
set_option maxRecDepth 40000 in
set_option maxHeartbeats 4000000 in
theorem rune_high (r : Int) (h128 : 128 ≤ r) (hmx : r ≤ 2147483647) (w : World) : Calls Tryz.prog 164 #[.string digs, .int .i32 r] w fun e w' => e = .returned (.int .i64 (-1)) ∧ Below w.heap.size w w' := by
  have h0 : (0 : Int) ≤ r := by omega
  have h1 : ¬ r < 128 := by omega
  by_cases he : r = 65533
  · subst he
    go_enter Tryz.func164, Tryz.ntmps164
    go_wp2
    go_loopg [5, 6] 10 (fun g _ _ wx => ∃ i : Nat, i + g = 10 ∧ wx = w.iter digs i)
    case atStart => exact ⟨0, rfl, rfl⟩
    case round =>
      obtain ⟨i, hig, rfl⟩ := hrel
      cases gk with
      | zero =>
        have hnx := fun ty => run_next_end (P := Tryz.prog) w digs i ty (by show ¬ i < 10; omega)
        go_wp2
        go_ret
        exact ⟨rfl, below_iter w _ _⟩
      | succ g =>
        obtain ⟨hh, hd⟩ := digs_at i (by omega)
        have hnx := fun ty => run_next_ascii (P := Tryz.prog) w digs i ty hh (by omega)
        rw [hd] at hnx
        have hne : ¬ ((48 + i : Nat) : Int) = 65533 := by omega
        have hne2 := beqI' hne
        obtain ⟨x, hx⟩ : ∃ x : Int, x = ((48 + i : Nat) : Int) := ⟨_, rfl⟩
        rw [← hx] at hnx hne hne2
        clear hx hd hh
        go_wp2
        go_roundg g
        case measure => omega
        case rel => exact ⟨i + 1, by omega, rfl⟩
  · have he' := beqI' he
    have hv := valid_ok r w
    by_cases hvr : validRune r = true
    · obtain ⟨f1, f2, f3⟩ := encode_facts r (by rw [validRune_eq]; exact hvr) h128
      rw [hvr] at hv
      go_enter Tryz.func164, Tryz.ntmps164
      go_wp2_with fail
      refine hv.mono ?_
      rintro e w1 ⟨rfl, hw1⟩
      rw [hw1]
      clear hw1 hv
      have hcv := run_convert_int_string (P := Tryz.prog) w 21 9 .i32 r (by kernel_rfl) Tryz.underlying9
      obtain ⟨rs, hrs⟩ : ∃ x, x = Utf8.encode r := ⟨_, rfl⟩
      rw [← hrs] at hcv f1 f2 f3
      clear hrs
      have hk3 : rs.size = 2 ∨ rs.size = 3 ∨ rs.size = 4 := by omega
      rcases hk3 with hk | hk | hk
      · obtain ⟨p0, p1, rfl⟩ := len_bytes2 hk
        have hq : 128 ≤ p1.toNat := f3 (by show (1 : Nat) < 2; omega)
        clear f1 f2 f3 hk
        have hne : ¬ ((49 : Int) = (p1.toNat : Int)) := by omega
        have hne2 := beqI' hne
        have hwp : IntKind.i64.wrap (2 : Int) = 2 := by rw [IntKind.wrap_i64]; omega
        have HI : Hid (∀ wx, Calls Tryz.prog 70 #[.string (digs.extract 2 10), .int .u8 p1.toNat] wx fun e w' => e = .returned (.int .i64 (-1)) ∧ w' = wx) := fun wx => by
          have h := sIndexByte (digs.extract 2 10) p1 wx
          rw [index_high _ _ (by decide) hq] at h
          exact h
        go_wp2
        go_step3
        go_wp2
        go_loopw [9, 10] (fun s9 s10 wq => s9 = .int .i64 1 ∧ s10 = .int .i64 0 ∧ Below w.heap.size w wq) (fun _ _ _ => 0)
        case atStart => exact ⟨rfl, rfl, Below.refl _ _⟩
        case round =>
          obtain ⟨rfl, rfl, hB⟩ := hrel
          have HB : Hid (Below w.heap.size w wr) := hB
          clear hB
          go_wp2
          go_step3
          go_wp2
          refine wp_region_quiet (C := fun wx => Below w.heap.size w wx) (by kernel_rfl) (by kernel_rfl) (HB.out.drew) ?_
          simp only []
          refine q_value ?_ (by rfl) (fun w hw => ?_) ?_
          rotate_left
          · go_simp
            with_reducible rfl
          simp only [Act.put, List.setIfInBounds_toArray, List.set_cons_zero, List.set_cons_succ]
          refine q_value ?_ (by rfl) (fun w hw => ?_) ?_
          rotate_left
          · go_simp
            with_reducible rfl
          simp only [Act.put, List.setIfInBounds_toArray, List.set_cons_zero, List.set_cons_succ]
          refine q_value (.int .u8 49) (by rfl) (fun w hw => ?_) ?_
          · go_simp
            rfl
          simp only [Act.put, List.setIfInBounds_toArray, List.set_cons_zero, List.set_cons_succ]
          refine q_value ?_ (by rfl) (fun w hw => ?_) ?_
          rotate_left
          · go_simp
            with_reducible rfl
          simp only [Act.put, List.setIfInBounds_toArray, List.set_cons_zero, List.set_cons_succ]
          refine q_value ?_ (by rfl) (fun w hw => ?_) ?_
          rotate_left
          · go_simp
            with_reducible rfl
          simp only [Act.put, List.setIfInBounds_toArray, List.set_cons_zero, List.set_cons_succ]
          refine q_value (.int .u8 p1.toNat) (by rfl) (fun w hw => ?_) ?_
          · go_simp
            rfl
          simp only [Act.put, List.setIfInBounds_toArray, List.set_cons_zero, List.set_cons_succ]
          refine q_value ?_ (by rfl) (fun w hw => ?_) ?_
          rotate_left
          · go_simp
            with_reducible rfl
          simp only [Act.put, List.setIfInBounds_toArray, List.set_cons_zero, List.set_cons_succ]
          refine wpQuiet_nil ?_
          intro w2 hw2
          simp only [Exit.then]
          clear HB
          have HB : Hid (Below w.heap.size w w2) := hw2
          clear hw2
          go_wp2
          refine wp_region_quiet (C := fun wx => Below w.heap.size w wx) (by kernel_rfl) (by kernel_rfl) (HB.out.drew) ?_
          simp only []
          refine q_value ?_ (by rfl) (fun w hw => ?_) ?_
          rotate_left
          · go_simp
            with_reducible rfl
          simp only [Act.put, List.setIfInBounds_toArray, List.set_cons_zero, List.set_cons_succ]
          refine q_value ?_ (by rfl) (fun w hw => ?_) ?_
          rotate_left
          · go_simp
            with_reducible rfl
          simp only [Act.put, List.setIfInBounds_toArray, List.set_cons_zero, List.set_cons_succ]
          refine q_value ?_ (by rfl) (fun w hw => ?_) ?_
          rotate_left
          · go_simp
            with_reducible rfl
          simp only [Act.put, List.setIfInBounds_toArray, List.set_cons_zero, List.set_cons_succ]
          refine q_value ?_ (by rfl) (fun w hw => ?_) ?_
          rotate_left
          · go_simp
            with_reducible rfl
          simp only [Act.put, List.setIfInBounds_toArray, List.set_cons_zero, List.set_cons_succ]
          refine q_value ?_ (by rfl) (fun w hw => ?_) ?_
          rotate_left
          · go_simp
            with_reducible rfl
          simp only [Act.put, List.setIfInBounds_toArray, List.set_cons_zero, List.set_cons_succ]
          refine q_value ?_ (by rfl) (fun w hw => ?_) ?_
          rotate_left
          · go_simp
            with_reducible rfl
          simp only [Act.put, List.setIfInBounds_toArray, List.set_cons_zero, List.set_cons_succ]
          refine q_value (.int .u8 p1.toNat) (by rfl) (fun w hw => ?_) ?_
          · go_simp
            rfl
          simp only [Act.put, List.setIfInBounds_toArray, List.set_cons_zero, List.set_cons_succ]
          refine q_call (.int .i64 (-1)) (by rfl) 70 #[.string (digs.extract 2 10), .int .u8 p1.toNat] (fun w h => by go_simp) (fun w h => (HI.out w).mono fun e w' ⟨he, hw⟩ => ⟨he, by rw [hw]; exact h⟩) ?_
          simp only [Act.put, List.setIfInBounds_toArray, List.set_cons_zero, List.set_cons_succ]
          refine q_value ?_ (by rfl) (fun w hw => ?_) ?_
          rotate_left
          · go_simp
            with_reducible rfl
          simp only [Act.put, List.setIfInBounds_toArray, List.set_cons_zero, List.set_cons_succ]
          refine wpQuiet_nil ?_
          intro w3 hw3
          simp only [Exit.then]
          clear HB
          have HB : Hid (Below w.heap.size w w3) := hw3
          clear hw3
          go_wp2
          simp +zetaDelta only [Exit.then, Exit.noGoto, Exit.inBlock]
          go_ret
          exact ⟨rfl, HB.out⟩
      · obtain ⟨p0, p1, p2, rfl⟩ := len_bytes3 hk
        have hq : 128 ≤ p2.toNat := f3 (by show (2 : Nat) < 3; omega)
        clear f1 f2 f3 hk
        have hne : ¬ ((50 : Int) = (p2.toNat : Int)) := by omega
        have hne2 := beqI' hne
        have hwp : IntKind.i64.wrap (3 : Int) = 3 := by rw [IntKind.wrap_i64]; omega
        have HI : Hid (∀ wx, Calls Tryz.prog 70 #[.string (digs.extract 3 10), .int .u8 p2.toNat] wx fun e w' => e = .returned (.int .i64 (-1)) ∧ w' = wx) := fun wx => by
          have h := sIndexByte (digs.extract 3 10) p2 wx
          rw [index_high _ _ (by decide) hq] at h
          exact h
        go_wp2
        go_step3
        go_wp2
        go_loopw [9, 10] (fun s9 s10 wq => s9 = .int .i64 2 ∧ s10 = .int .i64 0 ∧ Below w.heap.size w wq) (fun _ _ _ => 0)
        case atStart => exact ⟨rfl, rfl, Below.refl _ _⟩
        case round =>
          obtain ⟨rfl, rfl, hB⟩ := hrel
          have HB : Hid (Below w.heap.size w wr) := hB
          clear hB
          go_wp2
          go_step3
          go_wp2
          refine wp_region_quiet (C := fun wx => Below w.heap.size w wx) (by kernel_rfl) (by kernel_rfl) (HB.out.drew) ?_
          simp only []
          refine q_value ?_ (by rfl) (fun w hw => ?_) ?_
          rotate_left
          · go_simp
            with_reducible rfl
          simp only [Act.put, List.setIfInBounds_toArray, List.set_cons_zero, List.set_cons_succ]
          refine q_value ?_ (by rfl) (fun w hw => ?_) ?_
          rotate_left
          · go_simp
            with_reducible rfl
          simp only [Act.put, List.setIfInBounds_toArray, List.set_cons_zero, List.set_cons_succ]
          refine q_value (.int .u8 50) (by rfl) (fun w hw => ?_) ?_
          · go_simp
            rfl
          simp only [Act.put, List.setIfInBounds_toArray, List.set_cons_zero, List.set_cons_succ]
          refine q_value ?_ (by rfl) (fun w hw => ?_) ?_
          rotate_left
          · go_simp
            with_reducible rfl
          simp only [Act.put, List.setIfInBounds_toArray, List.set_cons_zero, List.set_cons_succ]
          refine q_value ?_ (by rfl) (fun w hw => ?_) ?_
          rotate_left
          · go_simp
            with_reducible rfl
          simp only [Act.put, List.setIfInBounds_toArray, List.set_cons_zero, List.set_cons_succ]
          refine q_value (.int .u8 p2.toNat) (by rfl) (fun w hw => ?_) ?_
          · go_simp
            rfl
          simp only [Act.put, List.setIfInBounds_toArray, List.set_cons_zero, List.set_cons_succ]
          refine q_value ?_ (by rfl) (fun w hw => ?_) ?_
          rotate_left
          · go_simp
            with_reducible rfl
          simp only [Act.put, List.setIfInBounds_toArray, List.set_cons_zero, List.set_cons_succ]
          refine wpQuiet_nil ?_
          intro w2 hw2
          simp only [Exit.then]
          clear HB
          have HB : Hid (Below w.heap.size w w2) := hw2
          clear hw2
          go_wp2
          refine wp_region_quiet (C := fun wx => Below w.heap.size w wx) (by kernel_rfl) (by kernel_rfl) (HB.out.drew) ?_
          simp only []
          refine q_value ?_ (by rfl) (fun w hw => ?_) ?_
          rotate_left
          · go_simp
            with_reducible rfl
          simp only [Act.put, List.setIfInBounds_toArray, List.set_cons_zero, List.set_cons_succ]
          refine q_value ?_ (by rfl) (fun w hw => ?_) ?_
          rotate_left
          · go_simp
            with_reducible rfl
          simp only [Act.put, List.setIfInBounds_toArray, List.set_cons_zero, List.set_cons_succ]
          refine q_value ?_ (by rfl) (fun w hw => ?_) ?_
          rotate_left
          · go_simp
            with_reducible rfl
          simp only [Act.put, List.setIfInBounds_toArray, List.set_cons_zero, List.set_cons_succ]
          refine q_value ?_ (by rfl) (fun w hw => ?_) ?_
          rotate_left
          · go_simp
            with_reducible rfl
          simp only [Act.put, List.setIfInBounds_toArray, List.set_cons_zero, List.set_cons_succ]
          refine q_value ?_ (by rfl) (fun w hw => ?_) ?_
          rotate_left
          · go_simp
            with_reducible rfl
          simp only [Act.put, List.setIfInBounds_toArray, List.set_cons_zero, List.set_cons_succ]
          refine q_value ?_ (by rfl) (fun w hw => ?_) ?_
          rotate_left
          · go_simp
            with_reducible rfl
          simp only [Act.put, List.setIfInBounds_toArray, List.set_cons_zero, List.set_cons_succ]
          refine q_value (.int .u8 p2.toNat) (by rfl) (fun w hw => ?_) ?_
          · go_simp
            rfl
          simp only [Act.put, List.setIfInBounds_toArray, List.set_cons_zero, List.set_cons_succ]
          refine q_call (.int .i64 (-1)) (by rfl) 70 #[.string (digs.extract 3 10), .int .u8 p2.toNat] (fun w h => by go_simp) (fun w h => (HI.out w).mono fun e w' ⟨he, hw⟩ => ⟨he, by rw [hw]; exact h⟩) ?_
          simp only [Act.put, List.setIfInBounds_toArray, List.set_cons_zero, List.set_cons_succ]
          refine q_value ?_ (by rfl) (fun w hw => ?_) ?_
          rotate_left
          · go_simp
            with_reducible rfl
          simp only [Act.put, List.setIfInBounds_toArray, List.set_cons_zero, List.set_cons_succ]
          refine wpQuiet_nil ?_
          intro w3 hw3
          simp only [Exit.then]
          clear HB
          have HB : Hid (Below w.heap.size w w3) := hw3
          clear hw3
          go_wp2
          simp +zetaDelta only [Exit.then, Exit.noGoto, Exit.inBlock]
          go_ret
          exact ⟨rfl, HB.out⟩
      · obtain ⟨p0, p1, p2, p3, rfl⟩ := len_bytes4 hk
        have hq : 128 ≤ p3.toNat := f3 (by show (3 : Nat) < 4; omega)
        clear f1 f2 f3 hk
        have hne : ¬ ((51 : Int) = (p3.toNat : Int)) := by omega
        have hne2 := beqI' hne
        have hwp : IntKind.i64.wrap (4 : Int) = 4 := by rw [IntKind.wrap_i64]; omega
        have HI : Hid (∀ wx, Calls Tryz.prog 70 #[.string (digs.extract 4 10), .int .u8 p3.toNat] wx fun e w' => e = .returned (.int .i64 (-1)) ∧ w' = wx) := fun wx => by
          have h := sIndexByte (digs.extract 4 10) p3 wx
          rw [index_high _ _ (by decide) hq] at h
          exact h
        go_wp2
        go_step3
        go_wp2
        go_loopw [9, 10] (fun s9 s10 wq => s9 = .int .i64 3 ∧ s10 = .int .i64 0 ∧ Below w.heap.size w wq) (fun _ _ _ => 0)
        case atStart => exact ⟨rfl, rfl, Below.refl _ _⟩
        case round =>
          obtain ⟨rfl, rfl, hB⟩ := hrel
          have HB : Hid (Below w.heap.size w wr) := hB
          clear hB
          go_wp2
          go_step3
          go_wp2
          refine wp_region_quiet (C := fun wx => Below w.heap.size w wx) (by kernel_rfl) (by kernel_rfl) (HB.out.drew) ?_
          simp only []
          refine q_value ?_ (by rfl) (fun w hw => ?_) ?_
          rotate_left
          · go_simp
            with_reducible rfl
          simp only [Act.put, List.setIfInBounds_toArray, List.set_cons_zero, List.set_cons_succ]
          refine q_value ?_ (by rfl) (fun w hw => ?_) ?_
          rotate_left
          · go_simp
            with_reducible rfl
          simp only [Act.put, List.setIfInBounds_toArray, List.set_cons_zero, List.set_cons_succ]
          refine q_value (.int .u8 51) (by rfl) (fun w hw => ?_) ?_
          · go_simp
            rfl
          simp only [Act.put, List.setIfInBounds_toArray, List.set_cons_zero, List.set_cons_succ]
          refine q_value ?_ (by rfl) (fun w hw => ?_) ?_
          rotate_left
          · go_simp
            with_reducible rfl
          simp only [Act.put, List.setIfInBounds_toArray, List.set_cons_zero, List.set_cons_succ]
          refine q_value ?_ (by rfl) (fun w hw => ?_) ?_
          rotate_left
          · go_simp
            with_reducible rfl
          simp only [Act.put, List.setIfInBounds_toArray, List.set_cons_zero, List.set_cons_succ]
          refine q_value (.int .u8 p3.toNat) (by rfl) (fun w hw => ?_) ?_
          · go_simp
            rfl
          simp only [Act.put, List.setIfInBounds_toArray, List.set_cons_zero, List.set_cons_succ]
          refine q_value ?_ (by rfl) (fun w hw => ?_) ?_
          rotate_left
          · go_simp
            with_reducible rfl
          simp only [Act.put, List.setIfInBounds_toArray, List.set_cons_zero, List.set_cons_succ]
          refine wpQuiet_nil ?_
          intro w2 hw2
          simp only [Exit.then]
          clear HB
          have HB : Hid (Below w.heap.size w w2) := hw2
          clear hw2
          go_wp2
          refine wp_region_quiet (C := fun wx => Below w.heap.size w wx) (by kernel_rfl) (by kernel_rfl) (HB.out.drew) ?_
          simp only []
          refine q_value ?_ (by rfl) (fun w hw => ?_) ?_
          rotate_left
          · go_simp
            with_reducible rfl
          simp only [Act.put, List.setIfInBounds_toArray, List.set_cons_zero, List.set_cons_succ]
          refine q_value ?_ (by rfl) (fun w hw => ?_) ?_
          rotate_left
          · go_simp
            with_reducible rfl
          simp only [Act.put, List.setIfInBounds_toArray, List.set_cons_zero, List.set_cons_succ]
          refine q_value ?_ (by rfl) (fun w hw => ?_) ?_
          rotate_left
          · go_simp
            with_reducible rfl
          simp only [Act.put, List.setIfInBounds_toArray, List.set_cons_zero, List.set_cons_succ]
          refine q_value ?_ (by rfl) (fun w hw => ?_) ?_
          rotate_left
          · go_simp
            with_reducible rfl
          simp only [Act.put, List.setIfInBounds_toArray, List.set_cons_zero, List.set_cons_succ]
          refine q_value ?_ (by rfl) (fun w hw => ?_) ?_
          rotate_left
          · go_simp
            with_reducible rfl
          simp only [Act.put, List.setIfInBounds_toArray, List.set_cons_zero, List.set_cons_succ]
          refine q_value ?_ (by rfl) (fun w hw => ?_) ?_
          rotate_left
          · go_simp
            with_reducible rfl
          simp only [Act.put, List.setIfInBounds_toArray, List.set_cons_zero, List.set_cons_succ]
          refine q_value (.int .u8 p3.toNat) (by rfl) (fun w hw => ?_) ?_
          · go_simp
            rfl
          simp only [Act.put, List.setIfInBounds_toArray, List.set_cons_zero, List.set_cons_succ]
          refine q_call (.int .i64 (-1)) (by rfl) 70 #[.string (digs.extract 4 10), .int .u8 p3.toNat] (fun w h => by go_simp) (fun w h => (HI.out w).mono fun e w' ⟨he, hw⟩ => ⟨he, by rw [hw]; exact h⟩) ?_
          simp only [Act.put, List.setIfInBounds_toArray, List.set_cons_zero, List.set_cons_succ]
          refine q_value ?_ (by rfl) (fun w hw => ?_) ?_
          rotate_left
          · go_simp
            with_reducible rfl
          simp only [Act.put, List.setIfInBounds_toArray, List.set_cons_zero, List.set_cons_succ]
          refine wpQuiet_nil ?_
          intro w3 hw3
          simp only [Exit.then]
          clear HB
          have HB : Hid (Below w.heap.size w w3) := hw3
          clear hw3
          go_wp2
          simp +zetaDelta only [Exit.then, Exit.noGoto, Exit.inBlock]
          go_ret
          exact ⟨rfl, HB.out⟩
    · rw [show validRune r = false by simpa using hvr] at hv
      clear hvr
      go_enter Tryz.func164, Tryz.ntmps164
      go_wp2_with fail
      refine hv.mono ?_
      rintro e w1 ⟨rfl, hw1⟩
      rw [hw1]
      clear hw1 hv
      go_wp2
      go_ret
      exact ⟨rfl, Below.refl _ _⟩
end Go.Proofs.YtkbhckjpmgkgjaaGreatDoor
