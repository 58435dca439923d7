/- The eight numbers as bytes: the walk of digest. -/
import Derived.Test.YtppgidmeeaodkaaGreatDoorS2Over
namespace Go.Proofs.YtppgidmeeaodkaaGreatDoor.S2
set_option maxRecDepth 20000
open Go.RowKit Num

/-- n bytes laid over a row from the place o on. -/
def over (f q : Nat → Int) (o n : Nat) : Nat → Int := fun i => if o ≤ i ∧ i < o + n then q (i - o) else f i

theorem copy_arr (w : World) (g t N o n dl dc h ho cap : Nat) (f q : Nat → Int) (hg : Row w g (arr f N) t) (hn : n ≤ dl) (hN : o + n ≤ N) (hsrc : ∀ j, j < n → w.cell? ⟨h, ho + j, none⟩ = some (.int .u8 (q j))) :
    (Builtin.copy_ #[36, 36] 3 #[.slice (some ⟨g, o, none⟩) dl dc, .slice (some ⟨h, ho, none⟩) n cap]).run Tryz.prog w = .ok (goInt n) (w.setRow g (arr (over f q o n) N)) := by
  have e := run_copy_row (P := Tryz.prog) w 36 36 3 5 g o dl dc ⟨h, ho, none⟩ n cap (arr f N) t ((List.range n).map fun j => Value.int .u8 (q j)) Tryz.underlying36 info5s hg (by rw [List.length_map, List.length_range]; exact (Nat.min_eq_left hn).symm)
    (fun j v hj => by
      have hj' : j < n := by simpa using (List.getElem?_eq_some_iff.1 hj).1
      rw [Addr.add_mid, hsrc j hj']
      simpa [hj'] using hj)
    (by simpa [arr_size] using hN) (fun v hv => by
      simp at hv
      obtain ⟨i, _, rfl⟩ := hv
      rfl)
  rw [e]
  simp only [List.length_map, List.length_range]
  congr 2
  apply Array.ext_getElem?
  intro i
  simp only [List.getElem?_toArray]
  by_cases hi : i < N
  · rw [arr_at _ _ _ hi]
    by_cases h1 : i < o
    · rw [List.getElem?_append_left (by simp [arr_size]; omega), List.getElem?_append_left (by simp [arr_size]; omega), List.getElem?_take_of_lt h1]
      simp [arr, hi, over, show ¬ o ≤ i by omega]
    · by_cases h2 : i < o + n
      · rw [List.getElem?_append_left (by simp [arr_size]; omega), List.getElem?_append_right (by simp [arr_size]; omega)]
        have e1 : (List.take o (arr f N).toList).length = o := by simp [arr_size]; omega
        rw [e1]
        simp [over, show o ≤ i by omega, h2, show i - o < n by omega]
      · rw [List.getElem?_append_right (by simp [arr_size]; omega)]
        have e1 : (List.take o (arr f N).toList ++ (List.range n).map fun j => Value.int .u8 (q j)).length = o + n := by simp [arr_size]; omega
        rw [e1, List.getElem?_drop, show o + n + (i - (o + n)) = i by omega]
        simp [arr, hi, over, h2]
  · have e1 : (arr (over f q o n) N)[i]? = none := by simp [arr, Nat.not_lt.1 hi]
    rw [e1, List.getElem?_eq_none (by simp [arr_size]; omega)]

theorem sliceAt_l (t N : Nat) (hu : Tryz.prog.underlying t = some (.array N 5)) (g k : Nat) (hk : k < N) (l : Int) (hl : l = k) (w : World) :
    (Instr.sliceAt t (.pointer (some ⟨g, 0, none⟩)) (some (.int .i64 l)) none none).run Tryz.prog w = .ok (.slice (some ⟨g, k, none⟩) (N - k) (N - k)) w := by
  subst hl
  obtain ⟨i0, hi, _, hz1, _⟩ := info_parts Tryz.info5
  simp [Instr.sliceAt, Instr.sureAddr, run_underlying hu, Instr.sliceBounds, run_sliceBound, sizeOf, typeInfo, hi, hz1, Addr.add_mid, show k ≤ N by omega, show ¬ N = k by omega]
theorem sliceAt_lh (t N : Nat) (hu : Tryz.prog.underlying t = some (.array N 5)) (g k n : Nat) (hk : k < N) (hn : k + n ≤ N) (l h : Int) (hl : l = k) (hh : h = k + n) (w : World) :
    (Instr.sliceAt t (.pointer (some ⟨g, 0, none⟩)) (some (.int .i64 l)) (some (.int .i64 h)) none).run Tryz.prog w = .ok (.slice (some ⟨g, k, none⟩) n (N - k)) w := by
  subst hl
  obtain rfl : h = ((k + n : Nat) : Int) := by omega
  obtain ⟨i0, hi, _, hz1, _⟩ := info_parts Tryz.info5
  have e : ((k : Int) + (n : Int)).toNat = k + n := by omega
  have h0 : (0 : Int) ≤ (k : Int) + (n : Int) := by omega
  have h1 : (k : Int) + (n : Int) ≤ (N : Int) := by omega
  have h2 : (k : Int) ≤ (k : Int) + (n : Int) := by omega
  simp [Instr.sliceAt, Instr.sureAddr, run_underlying hu, Instr.sliceBounds, run_sliceBound, sizeOf, typeInfo, hi, hz1, Addr.add_mid, show ¬ N = k by omega, e, h0, h1, h2]

/-- The i-th byte of eight numbers, the highest of each first. -/
def byteOf (s : St) (i : Nat) : Int := s.at (i / 4) / 2 ^ (8 * (3 - i % 4)) % 256
def dgs (s : St) (k : Nat) : Nat → Int := fun i => if i < 4 * k then byteOf s i else 0
/-- The digest of eight numbers. -/
def dig (s : St) : Nat → Int := fun i => if i < 32 then byteOf s i else 0

theorem st_index (s : St) (k : Nat) (hk : k < 8) (w : World) : (Instr.index 250 (.agg s.arr) (.int .i64 k)).run Tryz.prog w = .ok (.int .u32 (s.at k)) w := by
  match k, hk with
  | 0, _ => show _ = _; kernel_rfl
  | 1, _ => show _ = _; kernel_rfl
  | 2, _ => show _ = _; kernel_rfl
  | 3, _ => show _ = _; kernel_rfl
  | 4, _ => show _ = _; kernel_rfl
  | 5, _ => show _ = _; kernel_rfl
  | 6, _ => show _ = _; kernel_rfl
  | 7, _ => show _ = _; kernel_rfl
  | n + 8, h => exact absurd h (by omega)
theorem results19 : Tryz.f191.results = #[.cell 2 121] := by kernel_rfl

theorem dgs_next (s : St) (k : Nat) : over (dgs s k) (fun j => s.at k / 2 ^ (8 * (4 - 1 - j)) % 256) (k * 4) 4 = dgs s (k + 1) := by
  funext i
  unfold over dgs
  by_cases h1 : i < 4 * k
  · rw [if_neg (by omega), if_pos h1, if_pos (by omega)]
  · by_cases h2 : i < 4 * (k + 1)
    · rw [if_pos (by omega), if_pos h2]
      unfold byteOf
      rw [show i / 4 = k by omega, show 3 - i % 4 = 4 - 1 - (i - k * 4) by omega]
    · rw [if_neg (by omega), if_neg h1, if_neg h2]

set_option maxHeartbeats 1000000 in
theorem digest_any (s : St) (w : World) (hs : ∀ i, 0 ≤ s.at i ∧ s.at i < 4294967296) :
    Calls Tryz.prog 191 #[.agg s.arr] w fun e w' => e = .returned (.agg (arr (dig s) 32)) ∧ Below w.heap.size w w' := by
  have hS8 := s.arr_info
  have HI : Hid _ := st_index s
  generalize s.arr = SA at *
  obtain ⟨Z, hZ⟩ : ∃ Z, Z = zeros32 := ⟨_, rfl⟩
  have hZs : Z.size = 32 := by rw [hZ]; rfl
  have hZa : Z = arr (dgs s 0) 32 := by rw [hZ, zeros32_arr]; exact arr_congr _ _ _ (fun i _ => by simp [dgs])
  unfold zeros32 at hZ
  have rS : Row (((w.alloc (.cells SA 250)).alloc (.cells Z 121)).alloc (.cells Z 121)) w.heap.size SA 250 := ((Row.new w SA 250).alloc _).alloc _
  have rR : Row (((w.alloc (.cells SA 250)).alloc (.cells Z 121)).alloc (.cells Z 121)) (w.heap.size + 1) Z 121 := by
    have h := Row.new (w.alloc (.cells SA 250)) Z 121
    rw [World.size_alloc] at h
    exact h.alloc _
  have rD : Row (((w.alloc (.cells SA 250)).alloc (.cells Z 121)).alloc (.cells Z 121)) (w.heap.size + 1 + 1) Z 121 := by
    have h := Row.new ((w.alloc (.cells SA 250)).alloc (.cells Z 121)) Z 121
    rw [World.size_alloc, World.size_alloc] at h
    exact h
  have hb : Below w.heap.size w (((w.alloc (.cells SA 250)).alloc (.cells Z 121)).alloc (.cells Z 121)) := (((Below.refl _ _).alloc (Nat.le_refl _) _).alloc (by simp) _).alloc (by simp; omega) _
  go_enter Tryz.func191, Tryz.ntmps191
  go_wp2_with (refine wpList_load_row rfl 250 _ rfl w.heap.size rfl 250 SA (0, 0) _ (by rw [← hZ]; exact rS) Tryz.underlying250 rfl hS8 ?_)
  rw [← hZ]
  have rD' : Row (((w.alloc (.cells SA 250)).alloc (.cells Z 121)).alloc (.cells Z 121)) (w.heap.size + 1 + 1) (arr (dgs s 0) 32) 121 := by rw [← hZa]; exact rD
  clear rS hZ hZa rD
  generalize ((w.alloc (.cells SA 250)).alloc (.cells Z 121)).alloc (.cells Z 121) = W0 at *
  go_loopw [9] (fun i wr => ∃ k : Nat, k ≤ 8 ∧ i = .int .i64 k ∧ Row wr (w.heap.size + 1) Z 121 ∧ Row wr (w.heap.size + 1 + 1) (arr (dgs s k) 32) 121 ∧ Below w.heap.size w wr) (fun i _ => 8 - (intOf i).toNat)
  case atStart => exact ⟨0, Nat.zero_le _, rfl, rR, rD', hb⟩
  case round =>
    clear rR rD' hb
    obtain ⟨k, hk, rfl, rR, rD, hb⟩ := hrel
    by_cases hlt : k < 8
    · have hidx := HI.out k hlt
      have hsk := hs k
      have HB := bytes_any (s.at k) 4 wr (by decide) (by decide)
      have hmod : s.at k % 18446744073709551616 = s.at k := Int.emod_eq_of_lt hsk.1 (by omega)
      clear hs
      go_wp2_with fail
      refine HB.mono ?_
      rintro e w1 ⟨rfl, hb1, hsz, hrow⟩
      have rR1 := rR.below hb1 rR.lt
      have rD1 := rD.below hb1 rD.lt
      have hb1' := hb.trans (hb1.mono hb.size)
      have hcp := copy_arr w1 (w.heap.size + 1 + 1) 121 32 (k * 4) 4 (32 - k * 4) (32 - k * 4) wr.heap.size 0 4 (dgs s k) (fun j => s.at k / 2 ^ (8 * (4 - 1 - j)) % 256) rD1 (by omega) (by omega) (fun j hj => by rw [Nat.zero_add]; exact hrow.cell hj)
      rw [dgs_next] at hcp
      have hsl := sliceAt_l 121 32 Tryz.underlying121 (w.heap.size + 1 + 1) (k * 4) (by omega) ((k : Int) * 4) (by omega) w1
      clear HB rR rD hb hb1 hrow hidx
      go_wp2
      go_roundw
      case rel => exact ⟨k + 1, by omega, by go_num, rR1.other (by omega), rD1.setRow, below_setRow hb1' (by omega) _⟩
      case measure => simp [intOf]; omega
    · obtain rfl : k = 8 := by omega
      have hA : arr (dgs s 8) 32 = arr (dig s) 32 := arr_congr _ _ _ (fun i hi => by simp [dgs, dig, hi])
      rw [hA] at rD
      have hone := arr_one (dig s) 32
      have hAs := arr_size (dig s) 32
      have hi : (Tryz.prog.info? 121).map (·.size) = some (arr (dig s) 32).size := by rw [hAs]; exact info24
      clear hA
      go_wp2_with (first | refine wpList_load_row rfl 121 _ rfl _ rfl 121 (arr (dig s) 32) (0, 0) _ rD Tryz.underlying121 rfl hi ?_ | refine wpList_store_row rfl 121 _ _ rfl (w.heap.size + 1) (arr (dig s) 32) rfl rfl 121 Z rR hi (hZs.trans hAs.symm) hone ?_)
      refine bodyPost_ret (results_cell_row results19 _ _ (w.heap.size + 1) 121 _ (0, 0) _ rfl rR.setRow Tryz.underlying121 rfl hi) rfl ⟨rfl, below_setRow hb (by omega) _⟩
end Go.Proofs.YtppgidmeeaodkaaGreatDoor.S2
