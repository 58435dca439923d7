/- My own work: numbers as they lie on the disk; the sector that tells where the root is; bytes compared. -/
import Derived.Test.YtdbnnljlbfjobaaGreatDoorHdr2
import Derived.Test.YtdbnnljlbfjobaaGreatDoorPermA
namespace Go.Proofs.YtdbnnljlbfjobaaGreatDoor
open Go.RowKit Go.Lib

set_option maxRecDepth 20000 in
theorem numberAt_any (b c at' : Nat) (f : Nat → Int) (w : World) (hi : at' + 2 ≤ 256) (hc : 256 ≤ c) (hc2 : c ≤ maxLen) (hcell : ∀ j, j < 256 → w.cell? ⟨b, j, none⟩ = some (.int .u8 (f j))) (hf : ∀ j, 0 ≤ f j ∧ f j < 256) :
    Calls Tryz.prog 112 #[.slice (some ⟨b, 0, none⟩) 256 c, .int .i64 at'] w fun e w' => e = .returned (.int .i64 (num (fun j => f (at' + j)) 2)) ∧ w' = w := by
  unfold maxLen at hc2
  have H := fun cap => number_any b at' 2 cap (fun j => f (at' + j)) w (by omega) (by omega) (fun j hj => hcell _ (by omega)) (fun j => hf _)
  have hbd := num_bd (fun j => f (at' + j)) (fun j => hf _) 2
  have HH : Hid _ := H
  have e8 : at' + 2 - at' = 2 := by omega
  generalize hn : num (fun j => f (at' + j)) 2 = n at *
  have hw : IntKind.i64.wrap n = n := by rw [IntKind.wrap_i64]; omega
  clear H hcell hf hn
  go_enter Tryz.func112, Tryz.ntmps112
  go_wp2_with fail
  refine Calls.mono (HH.out _) ?_
  rintro e w' ⟨rfl, rfl⟩
  go_wp2
  go_ret
  exact ⟨rfl, rfl⟩

theorem numberOf_any (v : Nat) (w : World) (hv : v < 9223372036854775808) :
    Calls Tryz.prog 80 #[.int .i64 v] w fun e w' => e = .returned (.slice (some ⟨w.heap.size, 0, none⟩) 2 2) ∧ Below w.heap.size w w' ∧ w'.heap.size = w.heap.size + 1 ∧ w'.rowIs w.heap.size 5 2 (fun j => .int .u8 ((v : Int) / 2 ^ (8 * (2 - 1 - j)) % 256)) := by
  have HB := bytes_any v 2 w (by omega) (by omega)
  rw [show ((2 : Nat) : Int) = 2 from rfl] at HB
  have HHB : Hid _ := HB
  have hvm : IntKind.u64.wrap (v : Int) = v := by rw [IntKind.wrap_u64]; omega
  clear HB
  go_enter Tryz.func80, Tryz.ntmps80
  go_wp2_with fail
  refine Calls.mono HHB.out ?_
  rintro e w1 ⟨rfl, hb1, hs1, hrow⟩
  have HX : Hid _ := hrow
  clear hrow HHB
  go_wp2
  go_ret
  exact ⟨rfl, hb1, hs1, HX.out⟩

/-- The mark of a tree, and noughts behind it. -/
def treeF (j : Nat) : Int := ([115, 116, 105, 108, 108, 116, 114, 101, 101] : List Int).getD j 0
/-- The sector that tells where the root is. -/
def placeF (v : Nat) (j : Nat) : Int := if 9 ≤ j ∧ j < 9 + 2 then (v : Int) / 2 ^ (8 * (2 - 1 - (j - 9))) % 256 else treeF j
theorem treeF_bd : ∀ j, 0 ≤ treeF j ∧ treeF j < 256 := fun j => by
  unfold treeF
  match j with
  | 0 => decide
  | 1 => decide
  | 2 => decide
  | 3 => decide
  | 4 => decide
  | 5 => decide
  | 6 => decide
  | 7 => decide
  | 8 => decide
  | j + 9 => simp [List.getD]
theorem placeF_bd (v : Nat) : ∀ j, 0 ≤ placeF v j ∧ placeF v j < 256 := fun j => by
  unfold placeF
  split
  · omega
  · exact treeF_bd j
theorem tree_list (Z : Array Value) (hZ : Z.toList = byts (fun _ => 0) 256) : (Z.toList.take 0 ++ byteCells [115, 116, 105, 108, 108, 116, 114, 101, 101] ++ Z.toList.drop (0 + 9)).toArray = (byts treeF 256).toArray := by
  rw [hZ]
  kernel_rfl
theorem place_list (f : Nat → Int) (g : Nat → Int) (i n : Nat) (hi : i + n ≤ 256) : (((byts f 256).toArray.toList.take i ++ byts g n ++ (byts f 256).toArray.toList.drop (i + n)).toArray) = (byts (fun j => if i ≤ j ∧ j < i + n then g (j - i) else f j) 256).toArray := by
  congr 1
  apply List.ext_getElem?
  intro j
  have hl1 : ((byts f 256).toArray.toList.take i).length = i := by simp [byts_len]; omega
  have hl2 : ((byts f 256).toArray.toList.take i ++ byts g n).length = i + n := by rw [List.length_append, hl1, byts_len]
  by_cases hj : j < 256
  · rw [byts_at _ _ _ hj]
    by_cases h1 : j < i
    · rw [if_neg (by omega), List.getElem?_append_left (by omega), List.getElem?_append_left (by omega), List.getElem?_take_of_lt h1]
      simpa using byts_at f 256 j hj
    · by_cases h2 : j < i + n
      · rw [if_pos (by omega), List.getElem?_append_left (by omega), List.getElem?_append_right (by omega), hl1, byts_at _ _ _ (by omega)]
      · rw [if_neg (by omega), List.getElem?_append_right (by omega), hl2, List.getElem?_drop, show i + n + (j - (i + n)) = j by omega]
        simpa using byts_at f 256 j hj
  · rw [List.getElem?_eq_none (by rw [List.length_append, hl2]; simp [byts_len]; omega), List.getElem?_eq_none (by rw [byts_len]; omega)]

set_option maxRecDepth 20000 in
set_option maxHeartbeats 4000000 in
theorem placeRow_ok (v : Nat) (w : World) (hv : v < 9223372036854775808) :
    Calls Tryz.prog 39 #[.int .i64 v] w fun e w' => e = .returned (.slice (some ⟨w.heap.size, 0, none⟩) 256 256) ∧ Row w' w.heap.size (byts (placeF v) 256).toArray 5 ∧ Below w.heap.size w w' := by
  have hmk := fun w => run_make_row' (P := Tryz.prog) 31 5 (.int .u8 0) 1 Tryz.underlying31 Tryz.info5 rfl .i64 .i64 256 (by omega) (by omega) w
  simp only [show ((256 : Nat) : Int) = 256 from rfl] at hmk
  have hZb := made_byts 256
  generalize madeCells #[.int .u8 0] 256 = Z at *
  have hm := tree_list Z hZb
  have hsz : Z.size = 256 := by rw [← Array.length_toList, hZb, byts_len]
  have hcp := run_copy_row_string (P := Tryz.prog) (w.alloc (.cells Z 5)) 31 9 3 5 w.heap.size 0 256 256 ⟨#[115, 116, 105, 108, 108, 116, 114, 101, 101]⟩ Z 5 Tryz.underlying31 info5s (Row.new w Z 5) (by decide) (by rw [hsz]; decide)
  rw [show (byteCells (⟨#[115, 116, 105, 108, 108, 116, 114, 101, 101]⟩ : ByteArray).data.toList) = byteCells [115, 116, 105, 108, 108, 116, 114, 101, 101] from rfl, show 0 + (⟨#[115, 116, 105, 108, 108, 116, 114, 101, 101]⟩ : ByteArray).size = 0 + 9 from rfl, hm] at hcp
  have hR1 : Row ((w.alloc (.cells Z 5)).setRow w.heap.size (byts treeF 256).toArray) w.heap.size (byts treeF 256).toArray 5 := (Row.new w Z 5).setRow
  have hb1 : Below w.heap.size w ((w.alloc (.cells Z 5)).setRow w.heap.size (byts treeF 256).toArray) := below_setRow ((Below.refl _ _).alloc (Nat.le_refl _) _) (Nat.le_refl _) _
  have hs1 : ((w.alloc (.cells Z 5)).setRow w.heap.size (byts treeF 256).toArray).heap.size = w.heap.size + 1 := by simp [World.setRow]
  have hov := place_list treeF (fun j => (v : Int) / 2 ^ (8 * (2 - 1 - j)) % 256) 9 2 (by omega)
  have hpl : (byts (placeF v) 256).toArray = (byts (fun j => if 9 ≤ j ∧ j < 9 + 2 then (fun j => (v : Int) / 2 ^ (8 * (2 - 1 - j)) % 256) (j - 9) else treeF j) 256).toArray := rfl
  rw [← hpl] at hov
  clear hpl
  generalize hC' : (byts (placeF v) 256).toArray = C' at *
  have HOV : Hid _ := hov
  have HR1 : Hid _ := hR1
  have HB1 : Hid _ := hb1
  have HS1 : Hid _ := hs1
  clear hR1 hb1 hs1 hm hZb hsz hov hC'
  go_enter Tryz.func39, Tryz.ntmps39
  go_wp2_with fail
  generalize hwA : (w.alloc (.cells Z 5)).setRow w.heap.size (byts treeF 256).toArray = wA at *
  refine wp_region_permA [(false, 0), (false, 1), (false, 2), (true, 3), (true, 4)] (fun _ => True) (by kernel_rfl) (by kernel_rfl) trivial ?_
  refine a_move (some 7) _ rfl rfl rfl (by rfl) ?_
  simp only [Act.put, List.setIfInBounds_toArray, List.set_cons_zero, List.set_cons_succ]
  refine a_value (some 8) ?_ rfl rfl (by rfl) (fun w hw => ?_) ?_
  rotate_left
  · go_simp
    with_reducible rfl
  simp only [Act.put, List.setIfInBounds_toArray, List.set_cons_zero, List.set_cons_succ]
  refine a_move (some 9) _ rfl rfl rfl (by rfl) ?_
  simp only [Act.put, List.setIfInBounds_toArray, List.set_cons_zero, List.set_cons_succ]
  refine a_call (some 10) rfl rfl (by rfl) 80 #[.int .i64 v] (by go_simp) ((numberOf_any v _ hv).mono fun e w1 h1 => ?_)
  obtain ⟨he, hb1, hs1, hrow⟩ := h1
  refine ⟨_, he, trivial, ?_⟩
  replace hrow : w1.rowIs wA.heap.size 5 2 (fun j => .int .u8 ((v : Int) / 2 ^ (8 * (2 - 1 - j)) % 256)) := hrow
  simp only [Act.put, List.setIfInBounds_toArray, List.set_cons_zero, List.set_cons_succ]
  have hRd : Row wA.drew w.heap.size (byts treeF 256).toArray 5 := HR1.out
  have hR1 : Row w1 w.heap.size (byts treeF 256).toArray 5 := hRd.below hb1 hRd.lt
  have hlen := byts_len (fun j => (v : Int) / 2 ^ (8 * (2 - 1 - j)) % 256) 2
  have hcp := run_copy_row (P := Tryz.prog) w1 31 31 3 5 w.heap.size 9 247 247 ⟨wA.heap.size, 0, none⟩ 2 2 (byts treeF 256).toArray 5 (byts (fun j => (v : Int) / 2 ^ (8 * (2 - 1 - j)) % 256) 2) Tryz.underlying31 info5s hR1 (by rw [hlen]; exact (Nat.min_eq_left (by omega)).symm) (fun j u hj => by
    have hj' : j < 2 := by rw [← hlen]; exact (List.getElem?_eq_some_iff.1 hj).1
    rw [Addr.add_mid, Nat.zero_add, hrow.cell hj', ← hj, byts_at _ _ _ hj']) (by rw [hlen]; simp [byts_len]) (byts_one _ _)
  rw [hlen, HOV.out] at hcp
  have hR2 : Row (w1.setRow w.heap.size C') w.heap.size C' 5 := hR1.setRow
  have hb2 : Below w.heap.size w (w1.setRow w.heap.size C') := below_setRow (HB1.out.drew.trans (hb1.mono HB1.out.drew.size)) (Nat.le_refl _) _
  refine a_alone (some 11) (.int .i64 2) (w1.setRow w.heap.size C') rfl rfl (by rfl) (by go_simp) trivial ?_
  simp only [Act.put, List.setIfInBounds_toArray, List.set_cons_zero, List.set_cons_succ]
  clear hcp
  have HR2 : Hid _ := hR2
  have HB2 : Hid _ := hb2
  clear hR2 hb2 hR1 hRd hrow
  refine a_done ?_
  go_wp2
  go_ret
  exact ⟨rfl, HR2.out, HB2.out⟩
end Go.Proofs.YtdbnnljlbfjobaaGreatDoor
