/- The words of all rounds: what they are, and the walk of digest.schedule. -/
import Derived.Test.YtppgidmeeaodkaaGreatDoorS2Round
import Derived.Test.YtppgidmeeaodkaaGreatDoorS2RefShort
namespace Go.Proofs.YtppgidmeeaodkaaGreatDoor.S2
set_option maxRecDepth 20000
open Go.RowKit Num

/-- n words of 32 bits as cells. -/
def ar4 (f : Nat → Int) (n : Nat) : Array Value := ((List.range n).map fun i => Value.int .u32 (f i)).toArray

theorem ar4_at (f : Nat → Int) (n i : Nat) (h : i < n) : (ar4 f n)[i]? = some (.int .u32 (f i)) := by simp [ar4, h]
theorem ar4_size (f : Nat → Int) (n : Nat) : (ar4 f n).size = n := by simp [ar4]
theorem ar4_set (f g : Nat → Int) (n j : Nat) (v : Int) (h : ∀ i, i < n → g i = if i = j then v else f i) : (ar4 f n).setIfInBounds j (.int .u32 v) = ar4 g n := by
  apply Array.ext_getElem?
  intro i
  rw [Array.getElem?_setIfInBounds]
  by_cases hi : i < n
  · rw [ar4_at g n i hi, h i hi]
    by_cases e : j = i
    · subst e; rw [if_pos rfl, if_pos rfl, if_pos (by rw [ar4_size]; exact hi)]
    · rw [if_neg e, if_neg (fun e' => e e'.symm), ar4_at f n i hi]
  · have h1 : (ar4 g n)[i]? = none := by simp [ar4, Nat.not_lt.1 hi]
    have h2 : (ar4 f n)[i]? = none := by simp [ar4, Nat.not_lt.1 hi]
    rw [h1, h2]
    by_cases e : j = i
    · subst e; rw [if_pos rfl, if_neg (by rw [ar4_size]; exact hi)]
    · rw [if_neg e]
theorem ar4_congr (f g : Nat → Int) (n : Nat) (h : ∀ i, i < n → f i = g i) : ar4 f n = ar4 g n := by
  unfold ar4
  congr 1
  apply List.map_congr_left
  intro i hi
  rw [List.mem_range] at hi
  rw [h i hi]
theorem ar4_one (f : Nat → Int) (n : Nat) : (ar4 f n).all (·.oneCell') = true := by
  unfold ar4
  apply all_oneCell_toArray
  intro v hv
  simp at hv
  obtain ⟨i, _, rfl⟩ := hv
  rfl

/-- The chunk's own words. -/
def word (m : Nat → Int) (i : Nat) : Int := num (fun j => m (4 * i + j)) 4
def sig0 (x : Int) : Int := bits .xor .u32 (bits .xor .u32 (rot x 7) (rot x 18)) (x / 8)
def sig1 (x : Int) : Int := bits .xor .u32 (bits .xor .u32 (rot x 17) (rot x 19)) (x / 1024)
def nextW (l : Nat → Int) (i : Nat) : Int := (sig1 (l (i - 2)) + l (i - 7) + sig0 (l (i - 15)) + l (i - 16)) % 4294967296
def scl (m : Nat → Int) : Nat → List Int
  | 0 => []
  | n + 1 => scl m n ++ [if n < 16 then word m n else nextW (fun i => (scl m n).getD i 0) n]
/-- The word of round i. -/
def sc (m : Nat → Int) (i : Nat) : Int := (scl m (i + 1)).getD i 0

theorem scl_len (m : Nat → Int) (n : Nat) : (scl m n).length = n := by
  induction n with
  | zero => rfl
  | succ n ih => simp [scl, ih]
theorem scl_get (m : Nat → Int) (n i : Nat) (h : i < n) : (scl m n).getD i 0 = sc m i := by
  induction n with
  | zero => omega
  | succ n ih =>
    by_cases e : i = n
    · subst e; rfl
    · rw [← ih (by omega)]
      simp only [scl]
      rw [List.getD_eq_getElem?_getD, List.getElem?_append_left (by rw [scl_len]; omega), ← List.getD_eq_getElem?_getD]
theorem sc_eq (m : Nat → Int) (i : Nat) : sc m i = if i < 16 then word m i else nextW (fun j => (scl m i).getD j 0) i := by
  unfold sc
  simp only [scl]
  rw [List.getD_eq_getElem?_getD, List.getElem?_append_right (by rw [scl_len]; omega), scl_len]
  simp
theorem sc_low (m : Nat → Int) (i : Nat) (h : i < 16) : sc m i = word m i := by rw [sc_eq, if_pos h]
theorem sc_high (m : Nat → Int) (i : Nat) (h : 16 ≤ i) : sc m i = nextW (sc m) i := by
  rw [sc_eq, if_neg (by omega)]
  simp only [nextW]
  rw [scl_get m i _ (by omega), scl_get m i _ (by omega), scl_get m i _ (by omega), scl_get m i _ (by omega)]
theorem word_bd (m : Nat → Int) (hm : ∀ i, 0 ≤ m i ∧ m i < 256) (i : Nat) : 0 ≤ word m i ∧ word m i < 4294967296 := by
  have := num_bd (fun j => m (4 * i + j)) (fun j => hm _) 4
  unfold word
  omega
/-- The first k words, and zeros. -/
def uptoW (f : Nat → Int) (k : Nat) : Nat → Int := fun i => if i < k then f i else 0
theorem uptoW_next (f : Nat → Int) (n k : Nat) (v : Int) (h : f k = v) : (ar4 (uptoW f k) n).setIfInBounds k (.int .u32 v) = ar4 (uptoW f (k + 1)) n :=
  ar4_set _ _ _ _ _ (fun i _ => by
    unfold uptoW
    by_cases e : i = k
    · rw [if_pos e, if_pos (by omega), e, h]
    · rw [if_neg e]
      by_cases h : i < k
      · rw [if_pos h, if_pos (by omega)]
      · rw [if_neg h, if_neg (by omega)])

theorem info65 : (Tryz.prog.info? 258).map (·.size) = some 64 := by kernel_rfl
theorem results27 : Tryz.f228.results = #[.cell 2 258] := by kernel_rfl
def zeros64 : Array Value := #[.int .u32 0, .int .u32 0, .int .u32 0, .int .u32 0, .int .u32 0, .int .u32 0, .int .u32 0, .int .u32 0, .int .u32 0, .int .u32 0, .int .u32 0, .int .u32 0, .int .u32 0, .int .u32 0, .int .u32 0, .int .u32 0, .int .u32 0, .int .u32 0, .int .u32 0, .int .u32 0, .int .u32 0, .int .u32 0, .int .u32 0, .int .u32 0, .int .u32 0, .int .u32 0, .int .u32 0, .int .u32 0, .int .u32 0, .int .u32 0, .int .u32 0, .int .u32 0, .int .u32 0, .int .u32 0, .int .u32 0, .int .u32 0, .int .u32 0, .int .u32 0, .int .u32 0, .int .u32 0, .int .u32 0, .int .u32 0, .int .u32 0, .int .u32 0, .int .u32 0, .int .u32 0, .int .u32 0, .int .u32 0, .int .u32 0, .int .u32 0, .int .u32 0, .int .u32 0, .int .u32 0, .int .u32 0, .int .u32 0, .int .u32 0, .int .u32 0, .int .u32 0, .int .u32 0, .int .u32 0, .int .u32 0, .int .u32 0, .int .u32 0, .int .u32 0]
theorem zeros64_ar4 (f : Nat → Int) : zeros64 = ar4 (uptoW f 0) 64 := by kernel_rfl

set_option maxHeartbeats 1000000 in
theorem schedule_any (b off cap : Nat) (m : Nat → Int) (w : World) (hcap : 64 ≤ cap) (hcap' : cap ≤ 9223372036854775807) (hcell : ∀ i, i < 64 → w.cell? ⟨b, off + i, none⟩ = some (.int .u8 (m i))) (hm : ∀ i, 0 ≤ m i ∧ m i < 256) :
    Calls Tryz.prog 228 #[.slice (some ⟨b, off, none⟩) 64 cap] w fun e w' => e = .returned (.agg (ar4 (sc m) 64)) ∧ Below w.heap.size w w' := by
  obtain ⟨Z, hZ⟩ : ∃ Z, Z = zeros64 := ⟨_, rfl⟩
  have hZs : Z.size = 64 := by rw [hZ]; rfl
  have hZa : Z = ar4 (uptoW (sc m) 0) 64 := by rw [hZ]; exact zeros64_ar4 _
  unfold zeros64 at hZ
  go_enter Tryz.func228, Tryz.ntmps228
  go_wp2
  rw [← hZ]
  have HC : Hid _ := hcell
  clear hcell hZ
  go_loopw [12] (fun i wr => ∃ k : Nat, k ≤ 64 ∧ i = .int .i64 k ∧ Row wr w.heap.size Z 258 ∧ Row wr (w.heap.size + 1) (ar4 (uptoW (sc m) k) 64) 258 ∧ Below w.heap.size w wr) (fun i _ => 64 - (intOf i).toNat)
  case atStart =>
    refine ⟨0, Nat.zero_le _, rfl, (Row.new w Z 258).alloc _, ?_, ((Below.refl _ _).alloc (Nat.le_refl _) _).alloc (by simp) _⟩
    have h := Row.new (w.alloc (.cells Z 258)) Z 258
    rw [← hZa]
    simpa using h
  case round =>
    obtain ⟨k, hk, rfl, hR, hD, hb⟩ := hrel
    by_cases hlt : k < 64
    · by_cases h16 : k < 16
      · have hnc : ¬ cap = 4 * k := by omega
        have hnb : ∀ i, i < 4 → wr.cell? ⟨b, off + k * 4 + i, none⟩ = some (.int .u8 (m (4 * k + i))) := fun i hi => by
          have h := HC.out (4 * k + i) (by omega)
          rw [show off + k * 4 + i = off + (4 * k + i) by omega, hb.cell (p := ⟨b, off + (4 * k + i), none⟩) (World.block_lt_of_cell? _ _ h), h]
        have HN := number_any b (off + k * 4) 4 (cap - k * 4) (fun j => m (4 * k + j)) wr (by decide) (by decide) hnb (fun i => hm _)
        have hwb := word_bd m hm k
        have HV : Hid (num (fun j => m (4 * k + j)) 4 = word m k) := rfl
        rw [HV.out] at HN
        generalize hV : word m k = V at *
        have hc := hD.cell k
        rw [ar4_at _ _ _ hlt] at hc
        have hz := hD.frozen k
        clear hnb HV
        go_wp2_with fail
        refine HN.mono ?_
        rintro e w1 ⟨rfl, hw1⟩
        subst hw1
        clear HN
        have hVV : V % 4294967296 = V := Int.emod_eq_of_lt hwb.1 hwb.2
        go_wp2
        go_roundw
        case rel =>
          refine ⟨k + 1, by omega, by go_num, hR.setCell_other (by omega) _, ?_, hb.setCell (by simp) _⟩
          have h := hD.setCell (i := k) (.int .u32 V)
          rw [uptoW_next _ _ _ _ ((sc_low m k h16).trans hV)] at h
          exact h
        case measure => simp [intOf]; omega
      · have c15 := hD.cell (k - 15)
        have c2 := hD.cell (k - 2)
        rw [ar4_at _ _ _ (by omega), uptoW, if_pos (by omega)] at c15 c2
        have hk16 : (16 : Int) ≤ (k : Int) := by omega
        go_wp2
        go_quiet (fail)
        go_wp2_with fail
        refine (rotate_lit (sc m (k - 15)) 7 _ (by decide) (by decide)).mono ?_
        rintro e w1 ⟨rfl, hb1⟩
        have hR1 := (hR.drewN nq).below hb1 (hR.drewN nq).lt
        have hD1 := (hD.drewN nq).below hb1 (hD.drewN nq).lt
        have hb1' := (below_drewN hb nq).trans (hb1.mono (below_drewN hb nq).size)
        clear hR hD hb hb1 c15 c2
        go_wp2_with fail
        refine (rotate_lit (sc m (k - 15)) 18 _ (by decide) (by decide)).mono ?_
        rintro e w2 ⟨rfl, hb2⟩
        have hR2 := hR1.below hb2 hR1.lt
        have hD2 := hD1.below hb2 hD1.lt
        have hb2' := hb1'.trans (hb2.mono hb1'.size)
        clear hR1 hD1 hb1' hb2
        go_wp2_with fail
        refine (rotate_lit (sc m (k - 2)) 17 _ (by decide) (by decide)).mono ?_
        rintro e w3 ⟨rfl, hb3⟩
        have hR3 := hR2.below hb3 hR2.lt
        have hD3 := hD2.below hb3 hD2.lt
        have hb3' := hb2'.trans (hb3.mono hb2'.size)
        clear hR2 hD2 hb2' hb3
        go_wp2_with fail
        refine (rotate_lit (sc m (k - 2)) 19 _ (by decide) (by decide)).mono ?_
        rintro e w4 ⟨rfl, hb4⟩
        have hR4 := hR3.below hb4 hR3.lt
        have hD4 := hD3.below hb4 hD3.lt
        have hb4' := hb3'.trans (hb4.mono hb3'.size)
        clear hR3 hD3 hb3' hb4
        have c7 := hD4.cell (k - 7)
        have c16 := hD4.cell (k - 16)
        rw [ar4_at _ _ _ (by omega), uptoW, if_pos (by omega)] at c7 c16
        have hc := hD4.cell k
        rw [ar4_at _ _ _ hlt] at hc
        have hz := hD4.frozen k
        go_wp2
        go_region
        go_wp2
        refine ⟨⟨k + 1, by omega, by go_num, (hR4.setCell_other (by omega) _).drew, ?_, (hb4'.setCell (by simp) _).drew⟩, by simp [intOf]; omega⟩
        have h := (hD4.setCell (i := k) (.int .u32 (nextW (sc m) k))).drew
        rw [uptoW_next _ _ _ _ (sc_high m k (by omega))] at h
        exact h
    · obtain rfl : k = 64 := by omega
      have hA : ar4 (uptoW (sc m) 64) 64 = ar4 (sc m) 64 := ar4_congr _ _ _ (fun i hi => by simp [uptoW, hi])
      rw [hA] at hD
      have hone := ar4_one (sc m) 64
      have hAs := ar4_size (sc m) 64
      have hi : (Tryz.prog.info? 258).map (·.size) = some (ar4 (sc m) 64).size := by rw [hAs]; exact info65
      clear hA hZa
      go_wp2_with (first | refine wpList_load_row rfl 258 _ rfl _ rfl 258 (ar4 (sc m) 64) (0, 0) _ hD Tryz.underlying258 rfl hi ?_ | refine wpList_store_row rfl 258 _ _ rfl w.heap.size (ar4 (sc m) 64) rfl rfl 258 Z hR hi (hZs.trans hAs.symm) hone ?_)
      refine bodyPost_ret (results_cell_row results27 _ _ w.heap.size 258 _ (0, 0) _ rfl hR.setRow Tryz.underlying258 rfl hi) rfl ⟨rfl, below_setRow hb (Nat.le_refl _) _⟩
end Go.Proofs.YtppgidmeeaodkaaGreatDoor.S2
